/- A value's copy: its lists are rows of the call's own; what is empty is nil. -/
import Derived.Test.YtafjflgohhbdhaaGreatWa
import Derived.Laws.ResultCell
namespace Go.Proofs.YtafjflgohhbdhaaGreat
open Go.RowKit
set_option linter.unusedVariables false

theorem info_pair : (Tryz.prog.info? 53).map (fun i => (i.zero, i.size, i.bytes)) = some (some (.agg #[.string ByteArray.empty, .string ByteArray.empty]), 2, 32) := by kernel_rfl
theorem info_score : (Tryz.prog.info? 58).map (fun i => (i.zero, i.size, i.bytes)) = some (some (.agg #[.string ByteArray.empty, .int .i64 0]), 2, 24) := by kernel_rfl
theorem lenP (x : ByteArray × ByteArray) : (encP x).length = 2 := rfl
theorem lenS (x : ByteArray × Int) : (encS x).length = 2 := rfl
theorem oneP (x : ByteArray × ByteArray) : ∀ u ∈ encP x, u.oneCell' = true := by intro u hu; simp [encP] at hu; rcases hu with rfl | rfl <;> rfl
theorem oneS (x : ByteArray × Int) : ∀ u ∈ encS x, u.oneCell' = true := by intro u hu; simp [encS] at hu; rcases hu with rfl | rfl <;> rfl

/-- A list as a row of the call's own, from a block number on; nil where it is empty. -/
def OwnL {α : Type} (B : Nat) (e : TypeId) (k : Nat) (enc : α → List Value) (w : World) (s : Value) (l : List α) : Prop :=
  w.ownsRow B e k s l.length (l.flatMap enc) ∧ (l = [] → s = .slice none 0 0)

theorem OwnL.kept {α : Type} {B : Nat} {e : TypeId} {k : Nat} {enc : α → List Value} {w w' : World} {s : Value} {l : List α} (h : OwnL B e k enc w s l) (hb : Below w.heap.size w w') : OwnL B e k enc w' s l := by
  refine ⟨?_, h.2⟩
  refine ⟨h.1.1, ?_⟩
  rcases h.1.2 with h1 | ⟨g, cap, cur, h1, h2, h3, h4⟩
  · exact .inl h1
  · exact .inr ⟨g, cap, cur, h1, h2, (hb.block g (Array.getElem?_eq_some_iff.1 h3).1).trans h3, h4⟩

structure OwnLists (B : Nat) (w : World) (ps is ss : Value) (x : Val) : Prop where
  p : OwnL B 53 2 encP w ps x.pairs
  i : OwnL B 9 1 encI w is x.items
  s : OwnL B 58 2 encS w ss x.scores
theorem OwnLists.kept {B : Nat} {w w' : World} {ps is ss : Value} {x : Val} (h : OwnLists B w ps is ss x) (hb : Below w.heap.size w w') : OwnLists B w' ps is ss x := ⟨h.p.kept hb, h.i.kept hb, h.s.kept hb⟩
theorem OwnLists.lists {B : Nat} {w : World} {ps is ss : Value} {x : Val} (h : OwnLists B w ps is ss x) (hm : x.size ≤ 1048576) : Lists w ps is ss x := by
  unfold Val.size at hm
  exact ⟨RowAt.ofOwn lenP h.p.1 (by omega), RowAt.ofOwn lenI h.i.1 (by omega), RowAt.ofOwn lenS h.s.1 (by omega)⟩

/-- A block that is one of two worlds' common ones: its cells and marks. -/
theorem same_block {w w' : World} {b : Nat} (h : w'.heap[b]? = w.heap[b]?) : (∀ o, w'.cell? ⟨b, o, none⟩ = w.cell? ⟨b, o, none⟩) ∧ (∀ o, w'.frozen? ⟨b, o, none⟩ = w.frozen? ⟨b, o, none⟩) :=
  ⟨fun o => World.cell?_of_block (a := ⟨b, o, none⟩) h, fun o => World.frozen?_of_block (a := ⟨b, o, none⟩) h⟩

theorem grown_nil {w w' : World} (hg : w.grownBy w' (Value.slice none 0 0).ownBlock) : Below w.heap.size w w' := (Below.refl _ _).grown hg (Nat.le_refl _) (fun k hk => by cases hk)

theorem OwnL.of {α : Type} {B B' : Nat} {e : TypeId} {k : Nat} {enc : α → List Value} {w : World} {s : Value} {l : List α} (h1 : w.ownsRow B e k s (0 + l.length) ([] ++ l.flatMap enc)) (h2 : l = [] → Value.slice none 0 0 = .slice none 0 0 → s = .slice none 0 0) (hB : B' ≤ B) : OwnL B' e k enc w s l :=
  ⟨ownsRow_base (by simpa using h1) hB, fun e => h2 e rfl⟩

theorem OwnL.setCell {α : Type} {B : Nat} {e : TypeId} {k : Nat} {enc : α → List Value} {w : World} {s : Value} {l : List α} (h : OwnL B e k enc w s l) {a : Addr} (ha : a.block < B) (u : Value) : OwnL B e k enc (w.setCell a u) s l :=
  ⟨ownsRow_setCell_below h.1 ha u, h.2⟩

theorem OwnL.base {α : Type} {B B' : Nat} {e : TypeId} {k : Nat} {enc : α → List Value} {w : World} {s : Value} {l : List α} (h : OwnL B e k enc w s l) (hB : B' ≤ B) : OwnL B' e k enc w s l := ⟨ownsRow_base h.1 hB, h.2⟩

theorem ownsRow_shape {w : World} {B : Nat} {e : TypeId} {k : Nat} {s : Value} {n : Nat} {xs : List Value} (h : w.ownsRow B e k s n xs) : ∃ a c, s = .slice a n c := by
  rcases h.2 with ⟨h1, h2⟩ | ⟨g, cap, cur, h1, _⟩
  · exact ⟨_, _, by rw [h1, h2]⟩
  · exact ⟨_, _, h1⟩

set_option maxHeartbeats 2000000 in
theorem copied_any (v : Value) (x : Val) (w : World) (h : Reps w v x) (hm : x.size ≤ 1048576) :
    Calls Tryz.prog 41 #[v] w fun e w' => ∃ ps is ss, e = .returned (valV x.kind x.text x.count ps is ss) ∧ OwnLists w.heap.size w' ps is ss x ∧ Below w.heap.size w w' := by
  obtain ⟨ps, is, ss, rfl, hl⟩ := h
  unfold Val.size at hm
  have hb0 := (balloc w (valO x.kind x.text x.count ps is ss)).alloc (by simp) (valO 0 ByteArray.empty 0 (.slice none 0 0) (.slice none 0 0) (.slice none 0 0))
  have hp0 := hl.p.below hb0
  go_enter Tryz.func41, Tryz.ntmps41
  go_wp2_with (at_builtin; refine wpList_append_row _ rfl _ _ 22 rfl (w.heap.size + 2) 53 (.agg #[.string ByteArray.empty, .string ByteArray.empty]) 2 32 Tryz.underlying22 info_pair rfl (by decide) encP lenP oneP (.slice none 0 0) 0 [] ?_ (World.ownsRow_nil _ _ _ _) ps x.pairs ?_ hp0 ?_ ?_ ?_ ?_)
  · rfl
  · rfl
  · unfold maxLen; omega
  · omega
  · simp
  intro v1 w1 hown1 hg1 hnil1
  obtain ⟨a1, c1, rfl⟩ := ownsRow_shape hown1
  have hb1 := grown_nil hg1
  have hB1 := bstep hb0 hb1
  have ho1 : OwnL (w.heap.size + 2) 53 2 encP w1 (.slice a1 x.pairs.length c1) x.pairs := ⟨by simpa using hown1, by simpa using hnil1⟩
  obtain ⟨hc1, hf1⟩ := same_block (hb1.block w.heap.size (by simp; omega))
  obtain ⟨hd1, he1⟩ := same_block (hb1.block (w.heap.size + 1) (by simp))
  have hz1 : w.heap.size + 2 ≤ w1.heap.size := by simpa using hb1.size
  clear hg1 hown1 hnil1 hp0 hb1
  have hBs : ∀ u, Below w.heap.size w (w1.setCell ⟨w.heap.size, 3, none⟩ u) := fun u => hB1.setCell (by simp) u
  have hi1 := hl.i.below (hBs (.slice a1 x.pairs.length c1))
  go_wp2_with (at_builtin; refine wpList_append_row _ rfl _ _ 23 rfl (w.heap.size + 2) 9 (.string ByteArray.empty) 1 16 Tryz.underlying23 info_string rfl (by decide) encI lenI oneI (.slice none 0 0) 0 [] ?_ (World.ownsRow_nil _ _ _ _) is x.items ?_ hi1 ?_ ?_ ?_ ?_)
  · rfl
  · rfl
  · unfold maxLen; omega
  · omega
  · simpa [World.setCell] using hz1
  intro v2 w2 hown2 hg2 hnil2
  obtain ⟨a2, c2, rfl⟩ := ownsRow_shape hown2
  have hb2 := grown_nil hg2
  have hB2 := bstep (hBs (.slice a1 x.pairs.length c1)) hb2
  have ho2 : OwnL (w.heap.size + 2) 9 1 encI w2 (.slice a2 x.items.length c2) x.items := ⟨by simpa using hown2, by simpa using hnil2⟩
  have ho1 := (ho1.setCell (a := ⟨w.heap.size, 3, none⟩) (by simp) (.slice a1 x.pairs.length c1)).kept hb2
  have hz1' : w.heap.size + 2 ≤ (w1.setCell ⟨w.heap.size, 3, none⟩ (.slice a1 x.pairs.length c1)).heap.size := by simpa [World.setCell] using hz1
  obtain ⟨hc2, hf2⟩ := same_block (hb2.block w.heap.size (by omega))
  obtain ⟨hd2, he2⟩ := same_block (hb2.block (w.heap.size + 1) (by omega))
  have hz2 : w.heap.size + 2 ≤ w2.heap.size := Nat.le_trans hz1' hb2.size
  clear hg2 hown2 hnil2 hi1 hb2 hBs hz1'
  have hBt : ∀ u, Below w.heap.size w (w2.setCell ⟨w.heap.size, 4, none⟩ u) := fun u => hB2.setCell (by simp) u
  have hs2 := hl.s.below (hBt (.slice a2 x.items.length c2))
  go_wp2_with (at_builtin; refine wpList_append_row _ rfl _ _ 24 rfl (w.heap.size + 2) 58 (.agg #[.string ByteArray.empty, .int .i64 0]) 2 24 Tryz.underlying24 info_score rfl (by decide) encS lenS oneS (.slice none 0 0) 0 [] ?_ (World.ownsRow_nil _ _ _ _) ss x.scores ?_ hs2 ?_ ?_ ?_ ?_)
  · rfl
  · rfl
  · unfold maxLen; omega
  · omega
  · simpa [World.setCell] using hz2
  intro v3 w3 hown3 hg3 hnil3
  obtain ⟨a3, c3, rfl⟩ := ownsRow_shape hown3
  have hb3 := grown_nil hg3
  have hB3 := bstep (hBt (.slice a2 x.items.length c2)) hb3
  have ho3 : OwnL (w.heap.size + 2) 58 2 encS w3 (.slice a3 x.scores.length c3) x.scores := ⟨by simpa using hown3, by simpa using hnil3⟩
  have ho1 := (ho1.setCell (a := ⟨w.heap.size, 4, none⟩) (by simp) (.slice a2 x.items.length c2)).kept hb3
  have ho2 := (ho2.setCell (a := ⟨w.heap.size, 4, none⟩) (by simp) (.slice a2 x.items.length c2)).kept hb3
  have hz2' : w.heap.size + 2 ≤ (w2.setCell ⟨w.heap.size, 4, none⟩ (.slice a2 x.items.length c2)).heap.size := by simpa [World.setCell] using hz2
  obtain ⟨hc3, hf3⟩ := same_block (hb3.block w.heap.size (by omega))
  obtain ⟨hd3, he3⟩ := same_block (hb3.block (w.heap.size + 1) (by omega))
  have hz3 : w.heap.size + 2 ≤ w3.heap.size := Nat.le_trans hz2' hb3.size
  clear hg3 hown3 hnil3 hs2 hb3 hBt hz2'
  go_wp2_with fail
  refine bodyPost_ret (v := valV x.kind x.text x.count (.slice a1 x.pairs.length c1) (.slice a2 x.items.length c2) (.slice a3 x.scores.length c3)) (by simp [results, Tryz.results41, go_sem, hd3, hd2, hd1]) rfl ⟨_, _, _, rfl, ⟨?_, ?_, ?_⟩, ?_⟩
  · refine OwnL.base (B := w.heap.size + 2) ?_ (by omega)
    repeat (refine OwnL.setCell ?_ (by simp) _)
    exact ho1
  · refine OwnL.base (B := w.heap.size + 2) ?_ (by omega)
    repeat (refine OwnL.setCell ?_ (by simp) _)
    exact ho2
  · refine OwnL.base (B := w.heap.size + 2) ?_ (by omega)
    repeat (refine OwnL.setCell ?_ (by simp) _)
    exact ho3
  · repeat (refine Below.setCell ?_ (by simp) _)
    exact hB3
end Go.Proofs.YtafjflgohhbdhaaGreat
