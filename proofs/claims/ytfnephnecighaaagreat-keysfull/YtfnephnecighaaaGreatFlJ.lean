/- A list of its own: fresh.List at pairs, texts and scores gives a row of the call's own with the same elements; what is empty is nil. -/
import Derived.Test.YtfnephnecighaaaGreatVbJ
import Derived.Test.YtfnephnecighaaaGreatLwJ
import Derived.Laws.ResultCell
namespace Go.Proofs.YtfnephnecighaaaGreat
open Go.RowKit
set_option linter.unusedVariables false

theorem info_string : (Tryz.prog.info? 9).map (fun i => (i.zero, i.size, i.bytes)) = some (some (.string ByteArray.empty), 1, 16) := by kernel_rfl
theorem lenI (x : ByteArray) : (encI x).length = 1 := rfl
theorem oneI (x : ByteArray) : ∀ u ∈ encI x, u.oneCell' = true := by intro u hu; simp [encI] at hu; subst hu; rfl

theorem ownsRow_base {w : World} {B B' : Nat} {e : TypeId} {size : Nat} {v : Value} {n : Nat} {xs : List Value} (h : w.ownsRow B e size v n xs) (hb : B' ≤ B) : w.ownsRow B' e size v n xs := by
  refine ⟨h.1, ?_⟩
  rcases h.2 with h | ⟨g, cap, cur, h1, h2, h3⟩
  · exact .inl h
  · exact .inr ⟨g, cap, cur, h1, Nat.le_trans hb h2, h3⟩

theorem info_pair : (Tryz.prog.info? 67).map (fun i => (i.zero, i.size, i.bytes)) = some (some (.agg #[.string ByteArray.empty, .string ByteArray.empty]), 2, 32) := by kernel_rfl
theorem info_score : (Tryz.prog.info? 69).map (fun i => (i.zero, i.size, i.bytes)) = some (some (.agg #[.string ByteArray.empty, .int .i64 0]), 2, 24) := by kernel_rfl
theorem lenP (x : ByteArray × ByteArray) : (encP x).length = 2 := rfl
theorem lenS (x : ByteArray × Int) : (encS x).length = 2 := rfl
theorem oneP (x : ByteArray × ByteArray) : ∀ u ∈ encP x, u.oneCell' = true := by intro u hu; simp [encP] at hu; rcases hu with rfl | rfl <;> rfl
theorem oneS (x : ByteArray × Int) : ∀ u ∈ encS x, u.oneCell' = true := by intro u hu; simp [encS] at hu; rcases hu with rfl | rfl <;> rfl

/-- A list as a row of the call's own, from a block number on; nil where it is empty. -/
def OwnL {α : Type} (B : Nat) (e : TypeId) (k : Nat) (enc : α → List Value) (w : World) (s : Value) (l : List α) : Prop :=
  w.ownsRow B e k s l.length (l.flatMap enc) ∧ (l = [] → s = .slice none 0 0)

theorem OwnL.kept {α : Type} {B : Nat} {e : TypeId} {k : Nat} {enc : α → List Value} {w w' : World} {s : Value} {l : List α} (h : OwnL B e k enc w s l) (hb : Below w.heap.size w w') : OwnL B e k enc w' s l := by
  refine ⟨?_, h.2⟩
  refine ⟨h.1.1, ?_⟩
  rcases h.1.2 with h1 | ⟨g, cap, cur, h1, h2, h3, h4⟩
  · exact .inl h1
  · exact .inr ⟨g, cap, cur, h1, h2, (hb.block g (Array.getElem?_eq_some_iff.1 h3).1).trans h3, h4⟩

theorem grown_nil {w w' : World} (hg : w.grownBy w' (Value.slice none 0 0).ownBlock) : Below w.heap.size w w' := (Below.refl _ _).grown hg (Nat.le_refl _) (fun k hk => by cases hk)

theorem OwnL.of {α : Type} {B B' : Nat} {e : TypeId} {k : Nat} {enc : α → List Value} {w : World} {s : Value} {l : List α} (h1 : w.ownsRow B e k s (0 + l.length) ([] ++ l.flatMap enc)) (h2 : l = [] → Value.slice none 0 0 = .slice none 0 0 → s = .slice none 0 0) (hB : B' ≤ B) : OwnL B' e k enc w s l :=
  ⟨ownsRow_base (by simpa using h1) hB, fun e => h2 e rfl⟩

theorem OwnL.setCell {α : Type} {B : Nat} {e : TypeId} {k : Nat} {enc : α → List Value} {w : World} {s : Value} {l : List α} (h : OwnL B e k enc w s l) {a : Addr} (ha : a.block < B) (u : Value) : OwnL B e k enc (w.setCell a u) s l :=
  ⟨ownsRow_setCell_below h.1 ha u, h.2⟩

theorem OwnL.base {α : Type} {B B' : Nat} {e : TypeId} {k : Nat} {enc : α → List Value} {w : World} {s : Value} {l : List α} (h : OwnL B e k enc w s l) (hB : B' ≤ B) : OwnL B' e k enc w s l := ⟨ownsRow_base h.1 hB, h.2⟩

theorem ownsRow_shape {w : World} {B : Nat} {e : TypeId} {k : Nat} {s : Value} {n : Nat} {xs : List Value} (h : w.ownsRow B e k s n xs) : ∃ a c, s = .slice a n c := by
  rcases h.2 with ⟨h1, h2⟩ | ⟨g, cap, cur, h1, _⟩
  · exact ⟨_, _, by rw [h1, h2]⟩
  · exact ⟨_, _, h1⟩


set_option maxHeartbeats 2000000 in
theorem listP_any (s : Value) (l : List (ByteArray × ByteArray)) (w : World) (h : RowAt 2 encP w s l) (hm : l.length ≤ 1048576) :
    Calls Tryz.prog 60 #[s] w fun e w' => ∃ r, e = .returned r ∧ OwnL w.heap.size 67 2 encP w' r l ∧ Below w.heap.size w w' := by
  go_enter Tryz.func60, Tryz.ntmps60
  go_wp2_with (at_builtin; refine wpList_append_row _ rfl _ _ 22 rfl w.heap.size 67 (.agg #[.string ByteArray.empty, .string ByteArray.empty]) 2 32 Tryz.underlying22 info_pair rfl (by decide) encP lenP oneP (.slice none 0 0) 0 [] ?_ (World.ownsRow_nil _ _ _ _) s l ?_ h ?_ ?_ ?_ ?_)
  · rfl
  · rfl
  · unfold maxLen; omega
  · omega
  · simp
  intro v1 w1 hown1 hg1 hnil1
  obtain ⟨a1, c1, rfl⟩ := ownsRow_shape hown1
  have hb1 := grown_nil hg1
  have ho1 : OwnL w.heap.size 67 2 encP w1 (.slice a1 l.length c1) l := ⟨by simpa using hown1, by simpa using hnil1⟩
  clear hg1 hown1 hnil1
  go_wp2_with fail
  go_ret
  exact ⟨_, rfl, ho1, hb1⟩
set_option maxHeartbeats 2000000 in
theorem listI_any (s : Value) (l : List (ByteArray)) (w : World) (h : RowAt 1 encI w s l) (hm : l.length ≤ 1048576) :
    Calls Tryz.prog 61 #[s] w fun e w' => ∃ r, e = .returned r ∧ OwnL w.heap.size 9 1 encI w' r l ∧ Below w.heap.size w w' := by
  go_enter Tryz.func61, Tryz.ntmps61
  go_wp2_with (at_builtin; refine wpList_append_row _ rfl _ _ 23 rfl w.heap.size 9 (.string ByteArray.empty) 1 16 Tryz.underlying23 info_string rfl (by decide) encI lenI oneI (.slice none 0 0) 0 [] ?_ (World.ownsRow_nil _ _ _ _) s l ?_ h ?_ ?_ ?_ ?_)
  · rfl
  · rfl
  · unfold maxLen; omega
  · omega
  · simp
  intro v1 w1 hown1 hg1 hnil1
  obtain ⟨a1, c1, rfl⟩ := ownsRow_shape hown1
  have hb1 := grown_nil hg1
  have ho1 : OwnL w.heap.size 9 1 encI w1 (.slice a1 l.length c1) l := ⟨by simpa using hown1, by simpa using hnil1⟩
  clear hg1 hown1 hnil1
  go_wp2_with fail
  go_ret
  exact ⟨_, rfl, ho1, hb1⟩
set_option maxHeartbeats 2000000 in
theorem listS_any (s : Value) (l : List (ByteArray × Int)) (w : World) (h : RowAt 2 encS w s l) (hm : l.length ≤ 1048576) :
    Calls Tryz.prog 62 #[s] w fun e w' => ∃ r, e = .returned r ∧ OwnL w.heap.size 69 2 encS w' r l ∧ Below w.heap.size w w' := by
  go_enter Tryz.func62, Tryz.ntmps62
  go_wp2_with (at_builtin; refine wpList_append_row _ rfl _ _ 24 rfl w.heap.size 69 (.agg #[.string ByteArray.empty, .int .i64 0]) 2 24 Tryz.underlying24 info_score rfl (by decide) encS lenS oneS (.slice none 0 0) 0 [] ?_ (World.ownsRow_nil _ _ _ _) s l ?_ h ?_ ?_ ?_ ?_)
  · rfl
  · rfl
  · unfold maxLen; omega
  · omega
  · simp
  intro v1 w1 hown1 hg1 hnil1
  obtain ⟨a1, c1, rfl⟩ := ownsRow_shape hown1
  have hb1 := grown_nil hg1
  have ho1 : OwnL w.heap.size 69 2 encS w1 (.slice a1 l.length c1) l := ⟨by simpa using hown1, by simpa using hnil1⟩
  clear hg1 hown1 hnil1
  go_wp2_with fail
  go_ret
  exact ⟨_, rfl, ho1, hb1⟩
end Go.Proofs.YtfnephnecighaaaGreat

/- The names of a value's elements, as a list of the call's own. -/
namespace Go.Proofs.YtfnephnecighaaaGreat
open Go.RowKit
set_option linter.unusedVariables false

def Val.names (x : Val) : List ByteArray := x.items ++ x.pairs.map (·.1) ++ x.scores.map (·.1)

/-- A list literal of one text, just laid. -/
theorem row_lit1 (w : World) (s : ByteArray) (e : TypeId) (n : Nat) (hn : n = w.heap.size) : RowAt 1 encI (w.alloc (.cells #[.string s] e)) (.slice (some ⟨n, 0, none⟩) 1 1) [s] := by
  subst hn
  refine ⟨by simp, _, 1, rfl, by simp, by omega, .inr ⟨w.heap.size, 0, rfl, by simp, ?_⟩⟩
  intro i hi c hc
  obtain rfl : i = 0 := by simpa using hi
  obtain rfl : c = 0 := by omega
  simp [encI]

/-- Two worlds that are one below a block number: the cells there. -/
theorem bcellB {B : Nat} {W w1 : World} (hb : Below B W w1) : (∀ b o, b < B → w1.cell? ⟨b, o, none⟩ = W.cell? ⟨b, o, none⟩) :=
  fun b o h => hb.cell (p := ⟨b, o, none⟩) h

theorem RowAt.belowB {α : Type} {k B : Nat} {enc : α → List Value} {w w' : World} {s : Value} {l : List α} (h : RowAt k enc w s l) (hB : w.heap.size ≤ B) (hb : Below B w w') : RowAt k enc w' s l := h.below (hb.mono hB)

theorem take_map_succ {α : Type} (f : α → ByteArray) (l : List α) (k : Nat) (h : k < l.length) : (l.take (k + 1)).map f = (l.take k).map f ++ [f l[k]] := by
  rw [List.take_succ_eq_append_getElem h, List.map_append]; rfl

theorem wpList_append_text (w : World) {ops : Array Oper} {rest : List Oper} {o : Oper} {a : Act} {Q : Exit → Act → World → Prop} (hgd : o.guard = none) (s x : Operand)
    (ho : o.op = .call { callee := .builtin .append, args := #[s, x], argTypes := #[23, 23] }) (base : Nat) (v : Value) (n : Nat) (xs : List Value) (txt : ByteArray) (blk : Nat)
    (hs : a.eval s = v) (hown : w.ownsRow base 9 1 v n xs) (hx : a.eval x = .slice (some ⟨blk, 0, none⟩) 1 1) (hb : blk < w.heap.size) (hc : w.cell? ⟨blk, 0, none⟩ = some (.string txt))
    (hn : n ≤ 1048576) (hbase : base ≤ w.heap.size)
    (h : ∀ v' w', w'.ownsRow base 9 1 v' (n + 1) (xs ++ [.string txt]) → w.grownBy w' v.ownBlock → wpList Tryz.prog ops Q rest (a.put o.dst v') w') : wpList Tryz.prog ops Q (o :: rest) a w := by
  refine wpList_append_row w hgd s x 23 ho base 9 (.string ByteArray.empty) 1 16 Tryz.underlying23 info_string rfl (by decide) encI lenI oneI v n xs hs hown (.slice (some ⟨blk, 0, none⟩) 1 1) [txt] hx ?_ ?_ ?_ hbase ?_
  · refine ⟨by simp, _, 1, rfl, by simp, by omega, .inr ⟨blk, 0, rfl, hb, ?_⟩⟩
    intro i hi c hc'
    obtain rfl : i = 0 := by simpa using hi
    obtain rfl : c = 0 := by omega
    simpa [encI] using hc
  · unfold maxLen; simp; omega
  · simp; omega
  · intro v' w' h1 h2 _
    exact h v' w' (by simpa [encI] using h1) h2

theorem below_append2 {B : Nat} {W0 wr w2 : World} {o1 o2 : Obj} {e : TypeId} {size n : Nat} {v : Value} {xs : List Value} (hB : Below B W0 wr) (hz : B ≤ wr.heap.size) (hown : wr.ownsRow B e size v n xs)
    (hg : ((wr.alloc o1).alloc o2).grownBy w2 v.ownBlock) : Below B W0 w2 :=
  ((hB.alloc hz o1).alloc (Nat.le_trans hz (by simp)) o2).grown hg (Nat.le_trans hz (by simp; omega)) (fun k hk => (((hown.alloc o1).alloc o2).lt k hk).1)

set_option maxHeartbeats 4000000 in
theorem names_any (v : Value) (x : Val) (w : World) (h : Reps w v x) (hm : x.size ≤ 1048576) :
    Calls Tryz.prog 95 #[v] w fun e w' => ∃ r, e = .returned r ∧ w'.ownsRow w.heap.size 9 1 r x.names.length (x.names.flatMap encI) ∧ Below w.heap.size w w' := by
  obtain ⟨ps, is, ss, rfl, hl⟩ := h
  unfold Val.size at hm
  have hb0 := balloc w (valO x.kind x.text x.count ps is ss)
  have hi0 := hl.i.below hb0
  obtain ⟨hpl, pa, pcap, rfl, hp1, hp2, hp3⟩ := hl.p
  obtain ⟨hsl, sa, scap, rfl, hs1, hs2, hs3⟩ := hl.s
  clear hl
  go_enter Tryz.func95, Tryz.ntmps95
  go_wp2_with fail
  refine (listI_any _ _ _ hi0 (by omega)).mono ?_
  rintro e w1 ⟨v1, rfl, ho1, hB1⟩
  obtain ⟨a1, c1, rfl⟩ := ownsRow_shape ho1.1
  have hown1 : w1.ownsRow (w.heap.size + 1) 9 1 (.slice a1 x.items.length c1) (x.items.length) (x.items.flatMap encI) := ownsRow_base ho1.1 (by simp)
  have hB1 : Below (w.heap.size + 1) _ w1 := hB1.mono (by simp)
  have hc1 := bcellB hB1
  have hz1 : w.heap.size < w1.heap.size := Nat.lt_of_lt_of_le (by simp) hB1.size
  clear ho1
  go_wp2_with fail
  go_loopw [3, 14] (fun lv c wr => ∃ k : Nat, k ≤ x.pairs.length ∧ c = .int .i64 k ∧ wr.ownsRow (w.heap.size + 1) 9 1 lv (x.items.length + k) ((x.items ++ (x.pairs.take k).map (·.1)).flatMap encI) ∧ Below (w.heap.size + 1) (w.alloc (valO x.kind x.text x.count (.slice pa x.pairs.length pcap) is (.slice sa x.scores.length scap))) wr) (fun _ c _ => x.pairs.length - (intOf c).toNat)
  case atStart => exact ⟨0, Nat.zero_le _, rfl, by simpa using hown1, hB1⟩
  case round =>
    clear hown1 hB1 hc1 hz1
    obtain ⟨k, hk, rfl, hown, hB⟩ := hrel
    by_cases hlt : k < x.pairs.length
    · rcases hp3 with ⟨-, hnil, -⟩ | ⟨b, off, rfl, hbk, hc⟩
      · rw [hnil] at hlt; simp at hlt
      · have c0 := (hB.cell (p := ⟨b, off + k * 2 + 0, none⟩) (by show b < _; omega)).trans ((hb0.cell (p := ⟨b, off + k * 2 + 0, none⟩) hbk).trans (hc k hlt 0 (by omega)))
        have c1 := (hB.cell (p := ⟨b, off + k * 2 + 1, none⟩) (by show b < _; omega)).trans ((hb0.cell (p := ⟨b, off + k * 2 + 1, none⟩) hbk).trans (hc k hlt 1 (by omega)))
        simp only [encP, List.getElem?_cons_zero, List.getElem?_cons_succ, Nat.add_zero] at c0 c1
        clear hc
        have hsn := take_map_succ (·.1) x.pairs k hlt
        generalize x.pairs[k] = pk at c0 c1 hsn
        have HS : Hid ((x.pairs.take (k + 1)).map (·.1) = (x.pairs.take k).map (·.1) ++ [pk.1]) := hsn
        clear hsn
        have hz : w.heap.size + 1 ≤ wr.heap.size := by simpa using hB.size
        go_wp2_with (at_builtin; refine wpList_append_text _ rfl _ _ rfl (w.heap.size + 1) u3 (x.items.length + k) _ pk.1 (wr.heap.size + 1) ?_ ((hown.alloc _).alloc _) ?_ ?_ ?_ ?_ ?_ ?_)
        · omega
        · omega
        · intro v2 w2 hown2 hg2
          have hB2 := below_append2 hB hz hown hg2
          clear hg2
          go_wp2_with fail
          go_roundw
          case rel => exact ⟨k + 1, by omega, by go_num, by rw [HS.out]; simpa [encI, List.append_assoc, Nat.add_assoc] using hown2, hB2⟩
          case measure => simp [intOf]; omega
    · obtain rfl : k = x.pairs.length := by omega
      have hbox := fun o => hB.cell (p := ⟨w.heap.size, o, none⟩) (Nat.lt_succ_self _)
      have hz1 : w.heap.size + 1 ≤ wr.heap.size := by simpa using hB.size
      rw [List.take_length] at hown
      go_wp2_with fail
      clear hbox
      generalize hacc : x.items ++ x.pairs.map (·.1) = acc at hown
      have HA : Hid (x.items ++ x.pairs.map (·.1) = acc) := hacc
      have hlen : x.items.length + x.pairs.length = acc.length := by rw [← hacc]; simp
      clear hacc
      rw [hlen] at hown
      go_loopw [3, 27] (fun lv c wq => ∃ k : Nat, k ≤ x.scores.length ∧ c = .int .i64 k ∧ wq.ownsRow (w.heap.size + 1) 9 1 lv (acc.length + k) ((acc ++ (x.scores.take k).map (·.1)).flatMap encI) ∧ Below (w.heap.size + 1) (w.alloc (valO x.kind x.text x.count (.slice pa x.pairs.length pcap) is (.slice sa x.scores.length scap))) wq) (fun _ c _ => x.scores.length - (intOf c).toNat)
      case atStart => exact ⟨0, Nat.zero_le _, rfl, by simpa using hown, hB⟩
      case round =>
        clear hown hB hz1
        obtain ⟨k, hk', rfl, hown, hB⟩ := hrel
        have hz : w.heap.size + 1 ≤ wr.heap.size := by simpa using hB.size
        by_cases hls : k < x.scores.length
        · rcases hs3 with ⟨-, hnil, -⟩ | ⟨b, off, rfl, hbk, hc⟩
          · rw [hnil] at hls; simp at hls
          · have c0 := (hB.cell (p := ⟨b, off + k * 2 + 0, none⟩) (by show b < _; omega)).trans ((hb0.cell (p := ⟨b, off + k * 2 + 0, none⟩) hbk).trans (hc k hls 0 (by omega)))
            have c1 := (hB.cell (p := ⟨b, off + k * 2 + 1, none⟩) (by show b < _; omega)).trans ((hb0.cell (p := ⟨b, off + k * 2 + 1, none⟩) hbk).trans (hc k hls 1 (by omega)))
            simp only [encS, List.getElem?_cons_zero, List.getElem?_cons_succ, Nat.add_zero] at c0 c1
            clear hc
            have hsn := take_map_succ (·.1) x.scores k hls
            generalize x.scores[k] = pk at c0 c1 hsn
            have HS : Hid ((x.scores.take (k + 1)).map (·.1) = (x.scores.take k).map (·.1) ++ [pk.1]) := hsn
            clear hsn
            go_wp2_with (at_builtin; refine wpList_append_text _ rfl _ _ rfl (w.heap.size + 1) u3 (acc.length + k) _ pk.1 (wr.heap.size + 1) ?_ ((hown.alloc _).alloc _) ?_ ?_ ?_ ?_ ?_ ?_)
            · omega
            · omega
            · intro v2 w2 hown2 hg2
              have hB2 := below_append2 hB hz hown hg2
              clear hg2
              go_wp2_with fail
              go_roundw
              case rel => exact ⟨k + 1, by omega, by go_num, by rw [HS.out]; simpa [encI, List.append_assoc, Nat.add_assoc] using hown2, hB2⟩
              case measure => simp [intOf]; omega
        · obtain rfl : k = x.scores.length := by omega
          rw [List.take_length] at hown
          go_wp2_with fail
          go_ret
          refine ⟨_, rfl, ?_, hb0.trans (hB.mono (by omega))⟩
          rw [Val.names, HA.out]
          have := ownsRow_base hown (Nat.le_succ _)
          simpa using this
end Go.Proofs.YtfnephnecighaaaGreat
