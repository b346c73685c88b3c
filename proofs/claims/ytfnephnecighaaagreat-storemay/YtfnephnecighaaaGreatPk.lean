/- Members of a rank: put in, looked for. -/
import Derived.Test.YtfnephnecighaaaGreatPj
namespace Go.Proofs.YtfnephnecighaaaGreat
open Go.RowKit
set_option linter.unusedVariables false

theorem grown_trans {w w1 w2 : World} {o : Option Nat} (h : Below w.heap.size w w1) (h' : w1.grownBy w2 o) : w.grownBy w2 o :=
  ⟨h'.os.trans h.os, h'.tape.trans h.tape, h'.output.trans h.output, Nat.le_trans h.size h'.size, fun k hk hne => (h'.block k (Nat.lt_of_lt_of_le hk h.size) hne).trans (h.block k hk)⟩
theorem own_kept {w w' : World} {B k n : Nat} {e : TypeId} {s : Value} {xs : List Value} (h : w.ownsRow B e k s n xs) (hb : Below w.heap.size w w') : w'.ownsRow B e k s n xs := by
  refine ⟨h.1, ?_⟩
  rcases h.2 with h1 | ⟨g, cap, cur, h1, h2, h3, h4⟩
  · exact .inl h1
  · exact .inr ⟨g, cap, cur, h1, h2, (hb.block g (Array.getElem?_eq_some_iff.1 h3).1).trans h3, h4⟩
theorem cmpScores_of (t : ByteArray × Int) (w : World) : CmpOf Tryz.prog valS (valS t) (fun q => cmpSc q t) 123 #[] w := fun x W hb => compareScores_any x t W
theorem cmpScores_enter : ∀ args w, (callFunc 123 args).run Tryz.prog w = .ok (.enter 123 args) w := enters_of Tryz.func123 (by kernel_rfl) rfl

set_option maxHeartbeats 4000000 in
theorem insertScore_at (B p : Nat) (s : Value) (l : List (ByteArray × Int)) (t : ByteArray × Int) (w : World) (ho : w.ownsRow B 69 2 s l.length (l.flatMap encS)) (hB : B ≤ w.heap.size) (hn : l.length ≤ 1048575) (hp : Parts (fun q => cmpSc q t) l p) :
    Calls Tryz.prog 142 #[s, valS t] w fun e w' => ∃ r, e = .returned r ∧ w'.ownsRow B 69 2 r (l.length + 1) ((l.take p ++ t :: l.drop p).flatMap encS) ∧ w.grownBy w' s.ownBlock ∧ ∀ k, r.ownBlock = some k → s.ownBlock = some k ∨ w.heap.size ≤ k := by
  have hpl : p ≤ l.length := hp.1
  obtain ⟨t1, t2⟩ := t
  have hb0 := balloc w (.cells #[.string t1, .int .i64 t2] 69)
  have hBS := bsearchS 123 #[] (t1, t2) (fun q => cmpSc q (t1, t2)) cmpScores_enter s l p _ ((RowAt.ofOwn lenS ho (by omega)).below hb0) (cmpScores_of (t1, t2) _) hp
  have n0 : (w.alloc (.cells #[.string t1, .int .i64 t2] 69)).heap[w.heap.size]? = some (.cells #[.string t1, .int .i64 t2] 69 (0, 0)) := by show ((_ : Array Obj).push _)[_]? = _; simp
  obtain ⟨a, c, rfl⟩ := ownsRow_shape ho
  have hlt : ∀ k, (Value.slice a l.length c).ownBlock = some k → k < w.heap.size := fun k hk => (ho.lt k hk).2
  clear hp
  go_enter Tryz.func142, Tryz.ntmps142
  go_wp2_with fail
  refine hBS.mono ?_
  rintro e w1 ⟨rfl, hb1⟩
  have hB1 := bstep hb0 hb1
  have sz1 : w.heap.size + 1 ≤ w1.heap.size := by have := hb1.size; simpa using this
  have m0 := (hb1.block w.heap.size (by simp)).trans n0
  obtain ⟨c0, f0⟩ := block_cells m0
  have hB2 := hB1.alloc hB1.size (.cells #[.string t1, .int .i64 t2] 69)
  have ho1 := own_kept ho hB2
  clear n0 m0 hb1 hBS hb0
  go_wp2_with fail
  have hnew : (w1.alloc (.cells #[.string t1, .int .i64 t2] 69)).heap[w1.heap.size]? = some (.cells #[.string t1, .int .i64 t2] 69 (0, 0)) := by show ((_ : Array Obj).push _)[_]? = _; simp
  have hI := insertS_any B p (.slice a l.length c) l (t1, t2) w1.heap.size (w1.alloc (.cells #[.string t1, .int .i64 t2] 69)) ho1 (by simp; omega) hpl (by omega) hnew (fun k hk e => by have := hlt k hk; omega)
  refine hI.mono ?_
  rintro e w2 ⟨r, rfl, ho2, hg2, hrb⟩
  obtain ⟨a2, c2, rfl⟩ := ownsRow_shape ho2
  have H : Hid (w2.ownsRow B 69 2 (.slice a2 (l.length + 1) c2) (l.length + 1) ((l.take p ++ (t1, t2) :: l.drop p).flatMap encS) ∧ w.grownBy w2 (Value.slice a l.length c).ownBlock ∧ ∀ k, (Value.slice a2 (l.length + 1) c2).ownBlock = some k → (Value.slice a l.length c).ownBlock = some k ∨ w.heap.size ≤ k) := ⟨ho2, grown_trans hB2 hg2, fun k hk => by rcases hrb k hk with h | h; exact .inl h; exact .inr (by simp at h; omega)⟩
  clear ho2 hg2 hrb hI ho1 ho c0 f0 hnew
  go_wp2_with fail
  go_ret
  exact ⟨_, rfl, H.out⟩

set_option maxHeartbeats 1000000 in
theorem withoutScore_none (s : Value) (a : Option Addr) (n c : Nat) (hs : s = .slice a n c) (w : World) : Calls Tryz.prog 143 #[s, .int .i64 (-1)] w fun e w' => e = .returned s ∧ w = w' := by
  subst hs
  go_enter Tryz.func143, Tryz.ntmps143
  go_wp2_with fail
  go_ret
  exact ⟨rfl, rfl⟩

set_option maxHeartbeats 4000000 in
theorem rank_rem_miss (x : Val) (c : Cmd)  (hk : c.k = 15) (hm : x.size ≤ 1048576) (hh : idxI (isMember c.txt) x.scores = -1) : Does 99 x c x {} := by
  intro B N W ps is ss hBN hN ho op oi os
  have hmL : x.scores.length ≤ 140737488355328 := by unfold Val.size at hm; omega
  have hfin := fun w' (hb : Below W.heap.size W w') => ho.repsA (N := N) (M := W.heap.size) hm hb op oi os
  have n4 : (c.k == 14) = false := by simp [hk]
  have n5 : (c.k == 15) = decide (15 = 15) := by simp [hk]
  obtain ⟨pa, pc, ia, ic, sa, sc, rfl, rfl, rfl⟩ := ho.shapes
  obtain ⟨n0, n1, n2, n3, hb0, hz0⟩ := four_at W (valO x.kind x.text x.count (.slice pa x.pairs.length pc) (.slice ia x.items.length ic) (.slice sa x.scores.length sc)) (cmdC c) (valO 0 ⟨#[]⟩ 0 (.slice none 0 0) (.slice none 0 0) (.slice none 0 0)) (repO 0 ⟨#[]⟩ 0 (.slice none 0 0))
  have hBS := indexFuncS 140 #[.pointer (some ⟨W.heap.size + 1, 0, none⟩)] (isMember c.txt) member_enter (.slice sa x.scores.length sc) x.scores _ ((RowAt.ofOwn lenS ho.s.1 hmL).below hb0) (member_pred c _ _ n1)
  rw [hh] at hBS
  have HF : Hid (∀ w', Below W.heap.size W w' → RepsA B N W.heap.size w' (valV x.kind x.text x.count (.slice pa x.pairs.length pc) (.slice ia x.items.length ic) (.slice sa x.scores.length sc)) x) := hfin
  clear hh hk hfin ho
  go_enter Tryz.func99, Tryz.ntmps99
  go_wp2_with fail
  refine hBS.mono ?_
  rintro e w1 ⟨rfl, hb1⟩
  have hB1 := bstep hb0 hb1
  have sz1 : W.heap.size + 4 ≤ w1.heap.size := by rw [← hz0]; exact hb1.size
  have m0 := (hb1.block W.heap.size (by omega)).trans n0
  have m1 := (hb1.block (W.heap.size + 1) (by omega)).trans n1
  have m2 := (hb1.block (W.heap.size + 1 + 1) (by omega)).trans n2
  have m3 := (hb1.block (W.heap.size + 1 + 1 + 1) (by omega)).trans n3
  clear n0 n1 n2 n3 hb1 hBS hz0 hb0
  obtain ⟨c0, f0⟩ := block_cells m0
  obtain ⟨c1, f1⟩ := block_cells m1
  obtain ⟨c2, f2⟩ := block_cells m2
  obtain ⟨c3, f3⟩ := block_cells m3
  clear m0 m1 m2 m3
  have q0 : W.heap.size < w1.heap.size := by omega
  skip
  go_wp2_with fail
  refine (withoutScore_none _ _ _ _ rfl _).mono ?_; rintro e w2 ⟨rfl, rfl⟩; go_wp2_with fail; go_region_with (go_at_call 133; refine (number_any _ _).mono ?_; rintro e w3 ⟨rfl, rfl⟩)
  all_goals
    go_wp2_with fail
    refine bodyPost_ret (v := .tuple #[valV x.kind x.text x.count (.slice pa x.pairs.length pc) (.slice ia x.items.length ic) (.slice sa x.scores.length sc), repV 0 ⟨#[]⟩ 0 (.slice none 0 0)]) (by simp [results, Tryz.results99, go_sem, c2, c3]) rfl ⟨_, _, rfl, HF.out _ ?_, ⟨_, rfl, RowAt.nil _ _ _, In.nil _ _ _⟩, Keeps.ofBelow ?_⟩
    all_goals
      (repeat (with_reducible first | exact hB1 | refine Below.drew ?_ | refine Below.setCell ?_ ?_ _))
      all_goals (first | omega | (simp <;> omega))
set_option maxHeartbeats 4000000 in
theorem rank_rank_miss (x : Val) (c : Cmd)   (hk : c.k = 16) (hm : x.size ≤ 1048576) (hh : idxI (isMember c.txt) x.scores = -1) : Does 99 x c x { code := 5 } := by
  intro B N W ps is ss hBN hN ho op oi os
  have hmL : x.scores.length ≤ 140737488355328 := by unfold Val.size at hm; omega
  have hfin := fun w' (hb : Below W.heap.size W w') => ho.repsA (N := N) (M := W.heap.size) hm hb op oi os
  have n4 : (c.k == 14) = false := by simp [hk]
  have n5 : (c.k == 15) = decide (16 = 15) := by simp [hk]
  obtain ⟨pa, pc, ia, ic, sa, sc, rfl, rfl, rfl⟩ := ho.shapes
  obtain ⟨n0, n1, n2, n3, hb0, hz0⟩ := four_at W (valO x.kind x.text x.count (.slice pa x.pairs.length pc) (.slice ia x.items.length ic) (.slice sa x.scores.length sc)) (cmdC c) (valO 0 ⟨#[]⟩ 0 (.slice none 0 0) (.slice none 0 0) (.slice none 0 0)) (repO 0 ⟨#[]⟩ 0 (.slice none 0 0))
  have hBS := indexFuncS 140 #[.pointer (some ⟨W.heap.size + 1, 0, none⟩)] (isMember c.txt) member_enter (.slice sa x.scores.length sc) x.scores _ ((RowAt.ofOwn lenS ho.s.1 hmL).below hb0) (member_pred c _ _ n1)
  rw [hh] at hBS
  have HF : Hid (∀ w', Below W.heap.size W w' → RepsA B N W.heap.size w' (valV x.kind x.text x.count (.slice pa x.pairs.length pc) (.slice ia x.items.length ic) (.slice sa x.scores.length sc)) x) := hfin
  clear hh hk hfin ho
  go_enter Tryz.func99, Tryz.ntmps99
  go_wp2_with fail
  refine hBS.mono ?_
  rintro e w1 ⟨rfl, hb1⟩
  have hB1 := bstep hb0 hb1
  have sz1 : W.heap.size + 4 ≤ w1.heap.size := by rw [← hz0]; exact hb1.size
  have m0 := (hb1.block W.heap.size (by omega)).trans n0
  have m1 := (hb1.block (W.heap.size + 1) (by omega)).trans n1
  have m2 := (hb1.block (W.heap.size + 1 + 1) (by omega)).trans n2
  have m3 := (hb1.block (W.heap.size + 1 + 1 + 1) (by omega)).trans n3
  clear n0 n1 n2 n3 hb1 hBS hz0 hb0
  obtain ⟨c0, f0⟩ := block_cells m0
  obtain ⟨c1, f1⟩ := block_cells m1
  obtain ⟨c2, f2⟩ := block_cells m2
  obtain ⟨c3, f3⟩ := block_cells m3
  clear m0 m1 m2 m3
  have q0 : W.heap.size < w1.heap.size := by omega
  skip
  go_wp2_with fail
  skip
  all_goals
    skip
    refine bodyPost_ret (v := .tuple #[valV x.kind x.text x.count (.slice pa x.pairs.length pc) (.slice ia x.items.length ic) (.slice sa x.scores.length sc), repV 5 ⟨#[]⟩ 0 (.slice none 0 0)]) (by simp [results, Tryz.results99, go_sem, c2, c3]) rfl ⟨_, _, rfl, HF.out _ ?_, ⟨_, rfl, RowAt.nil _ _ _, In.nil _ _ _⟩, Keeps.ofBelow ?_⟩
    all_goals
      (repeat (with_reducible first | exact hB1 | refine Below.drew ?_ | refine Below.setCell ?_ ?_ _))
      all_goals (first | omega | (simp <;> omega))
set_option maxHeartbeats 4000000 in
theorem rank_rank (x : Val) (c : Cmd) (p : Nat) (hk : c.k = 16) (hm : x.size ≤ 1048576) (hh : idxI (isMember c.txt) x.scores = (p : Int)) : Does 99 x c x { n := (p : Int) } := by
  intro B N W ps is ss hBN hN ho op oi os
  have hmL : x.scores.length ≤ 140737488355328 := by unfold Val.size at hm; omega
  have hfin := fun w' (hb : Below W.heap.size W w') => ho.repsA (N := N) (M := W.heap.size) hm hb op oi os
  have n4 : (c.k == 14) = false := by simp [hk]
  have n5 : (c.k == 15) = decide (16 = 15) := by simp [hk]
  obtain ⟨pa, pc, ia, ic, sa, sc, rfl, rfl, rfl⟩ := ho.shapes
  obtain ⟨n0, n1, n2, n3, hb0, hz0⟩ := four_at W (valO x.kind x.text x.count (.slice pa x.pairs.length pc) (.slice ia x.items.length ic) (.slice sa x.scores.length sc)) (cmdC c) (valO 0 ⟨#[]⟩ 0 (.slice none 0 0) (.slice none 0 0) (.slice none 0 0)) (repO 0 ⟨#[]⟩ 0 (.slice none 0 0))
  have hBS := indexFuncS 140 #[.pointer (some ⟨W.heap.size + 1, 0, none⟩)] (isMember c.txt) member_enter (.slice sa x.scores.length sc) x.scores _ ((RowAt.ofOwn lenS ho.s.1 hmL).below hb0) (member_pred c _ _ n1)
  rw [hh] at hBS
  have HF : Hid (∀ w', Below W.heap.size W w' → RepsA B N W.heap.size w' (valV x.kind x.text x.count (.slice pa x.pairs.length pc) (.slice ia x.items.length ic) (.slice sa x.scores.length sc)) x) := hfin
  clear hh hk hfin ho
  go_enter Tryz.func99, Tryz.ntmps99
  go_wp2_with fail
  refine hBS.mono ?_
  rintro e w1 ⟨rfl, hb1⟩
  have hB1 := bstep hb0 hb1
  have sz1 : W.heap.size + 4 ≤ w1.heap.size := by rw [← hz0]; exact hb1.size
  have m0 := (hb1.block W.heap.size (by omega)).trans n0
  have m1 := (hb1.block (W.heap.size + 1) (by omega)).trans n1
  have m2 := (hb1.block (W.heap.size + 1 + 1) (by omega)).trans n2
  have m3 := (hb1.block (W.heap.size + 1 + 1 + 1) (by omega)).trans n3
  clear n0 n1 n2 n3 hb1 hBS hz0 hb0
  obtain ⟨c0, f0⟩ := block_cells m0
  obtain ⟨c1, f1⟩ := block_cells m1
  obtain ⟨c2, f2⟩ := block_cells m2
  obtain ⟨c3, f3⟩ := block_cells m3
  clear m0 m1 m2 m3
  have q0 : W.heap.size < w1.heap.size := by omega
  have hp0 : (0 : Int) ≤ (p : Int) := Int.natCast_nonneg p
  go_wp2_with fail
  skip
  all_goals
    skip
    refine bodyPost_ret (v := .tuple #[valV x.kind x.text x.count (.slice pa x.pairs.length pc) (.slice ia x.items.length ic) (.slice sa x.scores.length sc), repV 0 ⟨#[]⟩ (p : Int) (.slice none 0 0)]) (by simp [results, Tryz.results99, go_sem, c2, c3]) rfl ⟨_, _, rfl, HF.out _ ?_, ⟨_, rfl, RowAt.nil _ _ _, In.nil _ _ _⟩, Keeps.ofBelow ?_⟩
    all_goals
      (repeat (with_reducible first | exact hB1 | refine Below.drew ?_ | refine Below.setCell ?_ ?_ _))
      all_goals (first | omega | (simp <;> omega))

set_option maxHeartbeats 4000000 in
theorem rank_full (x : Val) (c : Cmd) (hk : c.k = 14) (hm : x.size ≤ 1048576) (hf : 20 ≤ x.size) (hh : idxI (isMember c.txt) x.scores = -1) : Does 99 x c x { code := 6 } := by
  intro B N W ps is ss hBN hN ho op oi os
  have hmL : x.scores.length ≤ 140737488355328 := by unfold Val.size at hm; omega
  have hls := ho.lists hm
  have hfin := fun w' (hb : Below W.heap.size W w') => ho.repsA (N := N) (M := W.heap.size) hm hb op oi os
  have n4 : (c.k == 14) = true := by simp [hk]
  obtain ⟨pa, pc, ia, ic, sa, sc, rfl, rfl, rfl⟩ := ho.shapes
  obtain ⟨n0, n1, n2, n3, hb0, hz0⟩ := four_at W (valO x.kind x.text x.count (.slice pa x.pairs.length pc) (.slice ia x.items.length ic) (.slice sa x.scores.length sc)) (cmdC c) (valO 0 ⟨#[]⟩ 0 (.slice none 0 0) (.slice none 0 0) (.slice none 0 0)) (repO 0 ⟨#[]⟩ 0 (.slice none 0 0))
  have hBS := indexFuncS 140 #[.pointer (some ⟨W.heap.size + 1, 0, none⟩)] (isMember c.txt) member_enter (.slice sa x.scores.length sc) x.scores _ ((RowAt.ofOwn lenS ho.s.1 hmL).below hb0) (member_pred c _ _ n1)
  rw [hh] at hBS
  have HF : Hid (∀ w', Below W.heap.size W w' → RepsA B N W.heap.size w' (valV x.kind x.text x.count (.slice pa x.pairs.length pc) (.slice ia x.items.length ic) (.slice sa x.scores.length sc)) x) := hfin
  clear hh hk hfin ho
  go_enter Tryz.func99, Tryz.ntmps99
  go_wp2_with fail
  refine hBS.mono ?_
  rintro e w1 ⟨rfl, hb1⟩
  have hB1 := bstep hb0 hb1
  have hF := isFull_any (valV x.kind x.text x.count (.slice pa x.pairs.length pc) (.slice ia x.items.length ic) (.slice sa x.scores.length sc)) x w1 ⟨_, _, _, rfl, hls.below hB1⟩
  rw [show decide (20 ≤ x.size) = true by simpa using hf] at hF
  have sz1 : W.heap.size + 4 ≤ w1.heap.size := by rw [← hz0]; exact hb1.size
  have m0 := (hb1.block W.heap.size (by omega)).trans n0
  have m1 := (hb1.block (W.heap.size + 1) (by omega)).trans n1
  have m2 := (hb1.block (W.heap.size + 1 + 1) (by omega)).trans n2
  have m3 := (hb1.block (W.heap.size + 1 + 1 + 1) (by omega)).trans n3
  clear n0 n1 n2 n3 hb1 hBS hz0 hb0 hls
  obtain ⟨c0, f0⟩ := block_cells m0
  obtain ⟨c1, f1⟩ := block_cells m1
  go_wp2_with fail
  refine hF.mono ?_
  rintro e w2 ⟨rfl, hb2⟩
  have hB2 := bstep hB1 hb2
  have sz2 := hb2.size
  obtain ⟨c0', f0'⟩ := block_cells ((hb2.block _ (by omega)).trans m0)
  obtain ⟨c2, f2⟩ := block_cells ((hb2.block _ (by omega)).trans m2)
  obtain ⟨c3, f3⟩ := block_cells ((hb2.block _ (by omega)).trans m3)
  clear m0 m1 m2 m3 c0 f0 c1 f1 hF hb2
  go_wp2_with fail
  refine bodyPost_ret (v := .tuple #[valV x.kind x.text x.count (.slice pa x.pairs.length pc) (.slice ia x.items.length ic) (.slice sa x.scores.length sc), repV 6 ⟨#[]⟩ 0 (.slice none 0 0)]) (by simp [results, Tryz.results99, go_sem, c2, c3]) rfl ⟨_, _, rfl, HF.out _ ?_, ⟨_, rfl, RowAt.nil _ _ _, In.nil _ _ _⟩, Keeps.ofBelow ?_⟩
  all_goals
    (repeat (with_reducible first | exact hB2 | refine Below.drew ?_ | refine Below.setCell ?_ ?_ _))
    all_goals (first | omega | (simp <;> omega))
end Go.Proofs.YtfnephnecighaaaGreat
