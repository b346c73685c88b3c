/- A list of its own: fresh.List at pairs, texts and scores gives a row of the call's own with the same elements; what is empty is nil. -/
import Derived.Test.YtfnephnecighaaaGreatCd
import Derived.Test.YtfnephnecighaaaGreatVb
import Derived.Test.YtfnephnecighaaaGreatLw
import Derived.Laws.ResultCell
namespace Go.Proofs.YtfnephnecighaaaGreat
open Go.RowKit
set_option linter.unusedVariables false

theorem info_string : (Tryz.prog.info? 9).map (fun i => (i.zero, i.size, i.bytes)) = some (some (.string ByteArray.empty), 1, 16) := by kernel_rfl
theorem lenI (x : ByteArray) : (encI x).length = 1 := rfl
theorem oneI (x : ByteArray) : ∀ u ∈ encI x, u.oneCell' = true := by intro u hu; simp [encI] at hu; subst hu; rfl

theorem ownsRow_base {w : World} {B B' : Nat} {e : TypeId} {size : Nat} {v : Value} {n : Nat} {xs : List Value} (h : w.ownsRow B e size v n xs) (hb : B' ≤ B) : w.ownsRow B' e size v n xs := by
  refine ⟨h.1, ?_⟩
  rcases h.2 with h | ⟨g, cap, cur, h1, h2, h3⟩
  · exact .inl h
  · exact .inr ⟨g, cap, cur, h1, Nat.le_trans hb h2, h3⟩

theorem info_pair : (Tryz.prog.info? 67).map (fun i => (i.zero, i.size, i.bytes)) = some (some (.agg #[.string ByteArray.empty, .string ByteArray.empty]), 2, 32) := by kernel_rfl
theorem info_score : (Tryz.prog.info? 69).map (fun i => (i.zero, i.size, i.bytes)) = some (some (.agg #[.string ByteArray.empty, .int .i64 0]), 2, 24) := by kernel_rfl
theorem lenP (x : ByteArray × ByteArray) : (encP x).length = 2 := rfl
theorem lenS (x : ByteArray × Int) : (encS x).length = 2 := rfl
theorem oneP (x : ByteArray × ByteArray) : ∀ u ∈ encP x, u.oneCell' = true := by intro u hu; simp [encP] at hu; rcases hu with rfl | rfl <;> rfl
theorem oneS (x : ByteArray × Int) : ∀ u ∈ encS x, u.oneCell' = true := by intro u hu; simp [encS] at hu; rcases hu with rfl | rfl <;> rfl

/-- A list as a row of the call's own, from a block number on; nil where it is empty. -/
def OwnL {α : Type} (B : Nat) (e : TypeId) (k : Nat) (enc : α → List Value) (w : World) (s : Value) (l : List α) : Prop :=
  w.ownsRow B e k s l.length (l.flatMap enc) ∧ (l = [] → s = .slice none 0 0)

theorem OwnL.kept {α : Type} {B : Nat} {e : TypeId} {k : Nat} {enc : α → List Value} {w w' : World} {s : Value} {l : List α} (h : OwnL B e k enc w s l) (hb : Below w.heap.size w w') : OwnL B e k enc w' s l := by
  refine ⟨?_, h.2⟩
  refine ⟨h.1.1, ?_⟩
  rcases h.1.2 with h1 | ⟨g, cap, cur, h1, h2, h3, h4⟩
  · exact .inl h1
  · exact .inr ⟨g, cap, cur, h1, h2, (hb.block g (Array.getElem?_eq_some_iff.1 h3).1).trans h3, h4⟩

theorem grown_nil {w w' : World} (hg : w.grownBy w' (Value.slice none 0 0).ownBlock) : Below w.heap.size w w' := (Below.refl _ _).grown hg (Nat.le_refl _) (fun k hk => by cases hk)

theorem OwnL.of {α : Type} {B B' : Nat} {e : TypeId} {k : Nat} {enc : α → List Value} {w : World} {s : Value} {l : List α} (h1 : w.ownsRow B e k s (0 + l.length) ([] ++ l.flatMap enc)) (h2 : l = [] → Value.slice none 0 0 = .slice none 0 0 → s = .slice none 0 0) (hB : B' ≤ B) : OwnL B' e k enc w s l :=
  ⟨ownsRow_base (by simpa using h1) hB, fun e => h2 e rfl⟩

theorem OwnL.setCell {α : Type} {B : Nat} {e : TypeId} {k : Nat} {enc : α → List Value} {w : World} {s : Value} {l : List α} (h : OwnL B e k enc w s l) {a : Addr} (ha : a.block < B) (u : Value) : OwnL B e k enc (w.setCell a u) s l :=
  ⟨ownsRow_setCell_below h.1 ha u, h.2⟩

theorem OwnL.base {α : Type} {B B' : Nat} {e : TypeId} {k : Nat} {enc : α → List Value} {w : World} {s : Value} {l : List α} (h : OwnL B e k enc w s l) (hB : B' ≤ B) : OwnL B' e k enc w s l := ⟨ownsRow_base h.1 hB, h.2⟩

theorem ownsRow_shape {w : World} {B : Nat} {e : TypeId} {k : Nat} {s : Value} {n : Nat} {xs : List Value} (h : w.ownsRow B e k s n xs) : ∃ a c, s = .slice a n c := by
  rcases h.2 with ⟨h1, h2⟩ | ⟨g, cap, cur, h1, _⟩
  · exact ⟨_, _, by rw [h1, h2]⟩
  · exact ⟨_, _, h1⟩


set_option maxHeartbeats 2000000 in
theorem listP_any (s : Value) (l : List (ByteArray × ByteArray)) (w : World) (h : RowAt 2 encP w s l) (hm : l.length ≤ 1048576) :
    Calls Tryz.prog 60 #[s] w fun e w' => ∃ r, e = .returned r ∧ OwnL w.heap.size 67 2 encP w' r l ∧ Below w.heap.size w w' := by
  go_enter Tryz.func60, Tryz.ntmps60
  go_wp2_with (at_builtin; refine wpList_append_row _ rfl _ _ 22 rfl w.heap.size 67 (.agg #[.string ByteArray.empty, .string ByteArray.empty]) 2 32 Tryz.underlying22 info_pair rfl (by decide) encP lenP oneP (.slice none 0 0) 0 [] ?_ (World.ownsRow_nil _ _ _ _) s l ?_ h ?_ ?_ ?_ ?_)
  · rfl
  · rfl
  · unfold maxLen; omega
  · omega
  · simp
  intro v1 w1 hown1 hg1 hnil1
  obtain ⟨a1, c1, rfl⟩ := ownsRow_shape hown1
  have hb1 := grown_nil hg1
  have ho1 : OwnL w.heap.size 67 2 encP w1 (.slice a1 l.length c1) l := ⟨by simpa using hown1, by simpa using hnil1⟩
  clear hg1 hown1 hnil1
  go_wp2_with fail
  go_ret
  exact ⟨_, rfl, ho1, hb1⟩
set_option maxHeartbeats 2000000 in
theorem listI_any (s : Value) (l : List (ByteArray)) (w : World) (h : RowAt 1 encI w s l) (hm : l.length ≤ 1048576) :
    Calls Tryz.prog 61 #[s] w fun e w' => ∃ r, e = .returned r ∧ OwnL w.heap.size 9 1 encI w' r l ∧ Below w.heap.size w w' := by
  go_enter Tryz.func61, Tryz.ntmps61
  go_wp2_with (at_builtin; refine wpList_append_row _ rfl _ _ 23 rfl w.heap.size 9 (.string ByteArray.empty) 1 16 Tryz.underlying23 info_string rfl (by decide) encI lenI oneI (.slice none 0 0) 0 [] ?_ (World.ownsRow_nil _ _ _ _) s l ?_ h ?_ ?_ ?_ ?_)
  · rfl
  · rfl
  · unfold maxLen; omega
  · omega
  · simp
  intro v1 w1 hown1 hg1 hnil1
  obtain ⟨a1, c1, rfl⟩ := ownsRow_shape hown1
  have hb1 := grown_nil hg1
  have ho1 : OwnL w.heap.size 9 1 encI w1 (.slice a1 l.length c1) l := ⟨by simpa using hown1, by simpa using hnil1⟩
  clear hg1 hown1 hnil1
  go_wp2_with fail
  go_ret
  exact ⟨_, rfl, ho1, hb1⟩
set_option maxHeartbeats 2000000 in
theorem listS_any (s : Value) (l : List (ByteArray × Int)) (w : World) (h : RowAt 2 encS w s l) (hm : l.length ≤ 1048576) :
    Calls Tryz.prog 62 #[s] w fun e w' => ∃ r, e = .returned r ∧ OwnL w.heap.size 69 2 encS w' r l ∧ Below w.heap.size w w' := by
  go_enter Tryz.func62, Tryz.ntmps62
  go_wp2_with (at_builtin; refine wpList_append_row _ rfl _ _ 24 rfl w.heap.size 69 (.agg #[.string ByteArray.empty, .int .i64 0]) 2 24 Tryz.underlying24 info_score rfl (by decide) encS lenS oneS (.slice none 0 0) 0 [] ?_ (World.ownsRow_nil _ _ _ _) s l ?_ h ?_ ?_ ?_ ?_)
  · rfl
  · rfl
  · unfold maxLen; omega
  · omega
  · simp
  intro v1 w1 hown1 hg1 hnil1
  obtain ⟨a1, c1, rfl⟩ := ownsRow_shape hown1
  have hb1 := grown_nil hg1
  have ho1 : OwnL w.heap.size 69 2 encS w1 (.slice a1 l.length c1) l := ⟨by simpa using hown1, by simpa using hnil1⟩
  clear hg1 hown1 hnil1
  go_wp2_with fail
  go_ret
  exact ⟨_, rfl, ho1, hb1⟩
end Go.Proofs.YtfnephnecighaaaGreat
