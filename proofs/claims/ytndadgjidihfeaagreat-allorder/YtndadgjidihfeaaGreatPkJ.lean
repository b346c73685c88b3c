/- Members of a rank: put in, looked for. -/
import Derived.Test.YtndadgjidihfeaaGreatPiJ
import Derived.Deep.DeepCutAuto
namespace Go.Proofs.YtndadgjidihfeaaGreat
open Go.RowKit
set_option linter.unusedVariables false

theorem grown_trans {w w1 w2 : World} {o : Option Nat} (h : Below w.heap.size w w1) (h' : w1.grownBy w2 o) : w.grownBy w2 o :=
  ⟨h'.os.trans h.os, h'.tape.trans h.tape, h'.output.trans h.output, Nat.le_trans h.size h'.size, fun k hk hne => (h'.block k (Nat.lt_of_lt_of_le hk h.size) hne).trans (h.block k hk)⟩
theorem own_kept {w w' : World} {B k n : Nat} {e : TypeId} {s : Value} {xs : List Value} (h : w.ownsRow B e k s n xs) (hb : Below w.heap.size w w') : w'.ownsRow B e k s n xs := by
  refine ⟨h.1, ?_⟩
  rcases h.2 with h1 | ⟨g, cap, cur, h1, h2, h3, h4⟩
  · exact .inl h1
  · exact .inr ⟨g, cap, cur, h1, h2, (hb.block g (Array.getElem?_eq_some_iff.1 h3).1).trans h3, h4⟩
theorem cmpScores_of (t : ByteArray × Int) (w : World) : CmpOf Tryz.prog valS (valS t) (fun q => cmpSc q t) 87 #[] w := fun x W hb => compareScores_any x t W
theorem cmpScores_enter : ∀ args w, (callFunc 87 args).run Tryz.prog w = .ok (.enter 87 args) w := enters_of Tryz.func87 (by kernel_rfl) rfl

set_option maxHeartbeats 4000000 in
theorem insertScore_at (B p : Nat) (s : Value) (l : List (ByteArray × Int)) (t : ByteArray × Int) (w : World) (ho : w.ownsRow B 57 2 s l.length (l.flatMap encS)) (hB : B ≤ w.heap.size) (hn : l.length ≤ 1048575) (hp : Parts (fun q => cmpSc q t) l p) :
    Calls Tryz.prog 120 #[s, valS t] w fun e w' => ∃ r, e = .returned r ∧ w'.ownsRow B 57 2 r (l.length + 1) ((l.take p ++ t :: l.drop p).flatMap encS) ∧ w.grownBy w' s.ownBlock ∧ ∀ k, r.ownBlock = some k → s.ownBlock = some k ∨ w.heap.size ≤ k := by
  have hpl : p ≤ l.length := hp.1
  obtain ⟨t1, t2⟩ := t
  have hb0 := balloc w (.cells #[.string t1, .int .i64 t2] 57)
  have hBS := bsearchS 87 #[] (t1, t2) (fun q => cmpSc q (t1, t2)) cmpScores_enter s l p _ ((RowAt.ofOwn lenS ho (by omega)).below hb0) (cmpScores_of (t1, t2) _) hp
  have n0 : (w.alloc (.cells #[.string t1, .int .i64 t2] 57)).heap[w.heap.size]? = some (.cells #[.string t1, .int .i64 t2] 57 (0, 0)) := by show ((_ : Array Obj).push _)[_]? = _; simp
  obtain ⟨a, c, rfl⟩ := ownsRow_shape ho
  have hlt : ∀ k, (Value.slice a l.length c).ownBlock = some k → k < w.heap.size := fun k hk => (ho.lt k hk).2
  clear hp
  go_enter Tryz.func120, Tryz.ntmps120
  go_wp2_with fail
  refine hBS.mono ?_
  rintro e w1 ⟨rfl, hb1⟩
  have hB1 := bstep hb0 hb1
  have sz1 : w.heap.size + 1 ≤ w1.heap.size := by have := hb1.size; simpa using this
  have m0 := (hb1.block w.heap.size (by simp)).trans n0
  obtain ⟨c0, f0⟩ := block_cells m0
  have hB2 := hB1.alloc hB1.size (.cells #[.string t1, .int .i64 t2] 57)
  have ho1 := own_kept ho hB2
  clear n0 m0 hb1 hBS hb0
  go_wp2_with fail
  have hnew : (w1.alloc (.cells #[.string t1, .int .i64 t2] 57)).heap[w1.heap.size]? = some (.cells #[.string t1, .int .i64 t2] 57 (0, 0)) := by show ((_ : Array Obj).push _)[_]? = _; simp
  have hI := insertS_any B p (.slice a l.length c) l (t1, t2) w1.heap.size (w1.alloc (.cells #[.string t1, .int .i64 t2] 57)) ho1 (by simp; omega) hpl (by omega) hnew (fun k hk e => by have := hlt k hk; omega)
  refine hI.mono ?_
  rintro e w2 ⟨r, rfl, ho2, hg2, hrb⟩
  obtain ⟨a2, c2, rfl⟩ := ownsRow_shape ho2
  have H : Hid (w2.ownsRow B 57 2 (.slice a2 (l.length + 1) c2) (l.length + 1) ((l.take p ++ (t1, t2) :: l.drop p).flatMap encS) ∧ w.grownBy w2 (Value.slice a l.length c).ownBlock ∧ ∀ k, (Value.slice a2 (l.length + 1) c2).ownBlock = some k → (Value.slice a l.length c).ownBlock = some k ∨ w.heap.size ≤ k) := ⟨ho2, grown_trans hB2 hg2, fun k hk => by rcases hrb k hk with h | h; exact .inl h; exact .inr (by simp at h; omega)⟩
  clear ho2 hg2 hrb hI ho1 ho c0 f0 hnew
  go_wp2_with fail
  go_ret
  exact ⟨_, rfl, H.out⟩

set_option maxHeartbeats 1000000 in
theorem withoutScore_none (s : Value) (a : Option Addr) (n c : Nat) (hs : s = .slice a n c) (w : World) : Calls Tryz.prog 121 #[s, .int .i64 (-1)] w fun e w' => e = .returned s ∧ w = w' := by
  subst hs
  go_enter Tryz.func121, Tryz.ntmps121
  go_wp2_with fail
  go_ret
  exact ⟨rfl, rfl⟩

set_option maxHeartbeats 4000000 in
theorem rank_rem_miss (x : Val) (c : Cmd)  (hk : c.k = 15) (hm : x.size ≤ 1048576) (hh : idxI (isMember c.txt) x.scores = -1) : Does 95 x c x {} := by
  intro B N W ps is ss hBN hN ho op oi os
  have hmL : x.scores.length ≤ 140737488355328 := by unfold Val.size at hm; omega
  have hfin := fun w' (hb : Below W.heap.size W w') => ho.repsA (N := N) (M := W.heap.size) hm hb op oi os
  have n4 : (c.k == 14) = false := by simp [hk]
  have n5 : (c.k == 15) = decide (15 = 15) := by simp [hk]
  obtain ⟨pa, pc, ia, ic, sa, sc, rfl, rfl, rfl⟩ := ho.shapes
  obtain ⟨n0, n1, n2, n3, hb0, hz0⟩ := four_at W (valO x.kind x.text x.count (.slice pa x.pairs.length pc) (.slice ia x.items.length ic) (.slice sa x.scores.length sc)) (cmdC c) (valO 0 ⟨#[]⟩ 0 (.slice none 0 0) (.slice none 0 0) (.slice none 0 0)) (repO 0 ⟨#[]⟩ 0 (.slice none 0 0))
  have hBS := indexFuncS 118 #[.pointer (some ⟨W.heap.size + 1, 0, none⟩)] (isMember c.txt) member_enter (.slice sa x.scores.length sc) x.scores _ ((RowAt.ofOwn lenS ho.s.1 hmL).below hb0) (member_pred c _ _ n1)
  rw [hh] at hBS
  have HF : Hid (∀ w', Below W.heap.size W w' → RepsA B N W.heap.size w' (valV x.kind x.text x.count (.slice pa x.pairs.length pc) (.slice ia x.items.length ic) (.slice sa x.scores.length sc)) x) := hfin
  clear hh hk hfin ho
  go_enter Tryz.func95, Tryz.ntmps95
  go_wp2_with fail
  refine hBS.mono ?_
  rintro e w1 ⟨rfl, hb1⟩
  have hB1 := bstep hb0 hb1
  have sz1 : W.heap.size + 4 ≤ w1.heap.size := by rw [← hz0]; exact hb1.size
  have m0 := (hb1.block W.heap.size (by omega)).trans n0
  have m1 := (hb1.block (W.heap.size + 1) (by omega)).trans n1
  have m2 := (hb1.block (W.heap.size + 1 + 1) (by omega)).trans n2
  have m3 := (hb1.block (W.heap.size + 1 + 1 + 1) (by omega)).trans n3
  clear n0 n1 n2 n3 hb1 hBS hz0 hb0
  obtain ⟨c0, f0⟩ := block_cells m0
  obtain ⟨c1, f1⟩ := block_cells m1
  obtain ⟨c2, f2⟩ := block_cells m2
  obtain ⟨c3, f3⟩ := block_cells m3
  clear m0 m1 m2 m3
  have q0 : W.heap.size < w1.heap.size := by omega
  skip
  go_wp2_with fail
  refine (withoutScore_none _ _ _ _ rfl _).mono ?_; rintro e w2 ⟨rfl, rfl⟩; go_wp2_with fail; go_region_with (go_at_call 112; refine (number_any _ _).mono ?_; rintro e w3 ⟨rfl, rfl⟩)
  all_goals
    go_wp2_with fail
    refine bodyPost_ret (v := .tuple #[valV x.kind x.text x.count (.slice pa x.pairs.length pc) (.slice ia x.items.length ic) (.slice sa x.scores.length sc), repV 0 ⟨#[]⟩ 0 (.slice none 0 0)]) (by simp [results, Tryz.results95, go_sem, c2, c3]) rfl ⟨_, _, rfl, HF.out _ ?_, ⟨_, rfl, RowAt.nil _ _ _, In.nil _ _ _⟩, Keeps.ofBelow ?_⟩
    all_goals
      (repeat (with_reducible first | exact hB1 | refine Below.drew ?_ | refine Below.setCell ?_ ?_ _))
      all_goals (first | omega | (simp <;> omega))
set_option maxHeartbeats 4000000 in
theorem rank_rank_miss (x : Val) (c : Cmd)   (hk : c.k = 16) (hm : x.size ≤ 1048576) (hh : idxI (isMember c.txt) x.scores = -1) : Does 95 x c x { code := 5 } := by
  intro B N W ps is ss hBN hN ho op oi os
  have hmL : x.scores.length ≤ 140737488355328 := by unfold Val.size at hm; omega
  have hfin := fun w' (hb : Below W.heap.size W w') => ho.repsA (N := N) (M := W.heap.size) hm hb op oi os
  have n4 : (c.k == 14) = false := by simp [hk]
  have n5 : (c.k == 15) = decide (16 = 15) := by simp [hk]
  obtain ⟨pa, pc, ia, ic, sa, sc, rfl, rfl, rfl⟩ := ho.shapes
  obtain ⟨n0, n1, n2, n3, hb0, hz0⟩ := four_at W (valO x.kind x.text x.count (.slice pa x.pairs.length pc) (.slice ia x.items.length ic) (.slice sa x.scores.length sc)) (cmdC c) (valO 0 ⟨#[]⟩ 0 (.slice none 0 0) (.slice none 0 0) (.slice none 0 0)) (repO 0 ⟨#[]⟩ 0 (.slice none 0 0))
  have hBS := indexFuncS 118 #[.pointer (some ⟨W.heap.size + 1, 0, none⟩)] (isMember c.txt) member_enter (.slice sa x.scores.length sc) x.scores _ ((RowAt.ofOwn lenS ho.s.1 hmL).below hb0) (member_pred c _ _ n1)
  rw [hh] at hBS
  have HF : Hid (∀ w', Below W.heap.size W w' → RepsA B N W.heap.size w' (valV x.kind x.text x.count (.slice pa x.pairs.length pc) (.slice ia x.items.length ic) (.slice sa x.scores.length sc)) x) := hfin
  clear hh hk hfin ho
  go_enter Tryz.func95, Tryz.ntmps95
  go_wp2_with fail
  refine hBS.mono ?_
  rintro e w1 ⟨rfl, hb1⟩
  have hB1 := bstep hb0 hb1
  have sz1 : W.heap.size + 4 ≤ w1.heap.size := by rw [← hz0]; exact hb1.size
  have m0 := (hb1.block W.heap.size (by omega)).trans n0
  have m1 := (hb1.block (W.heap.size + 1) (by omega)).trans n1
  have m2 := (hb1.block (W.heap.size + 1 + 1) (by omega)).trans n2
  have m3 := (hb1.block (W.heap.size + 1 + 1 + 1) (by omega)).trans n3
  clear n0 n1 n2 n3 hb1 hBS hz0 hb0
  obtain ⟨c0, f0⟩ := block_cells m0
  obtain ⟨c1, f1⟩ := block_cells m1
  obtain ⟨c2, f2⟩ := block_cells m2
  obtain ⟨c3, f3⟩ := block_cells m3
  clear m0 m1 m2 m3
  have q0 : W.heap.size < w1.heap.size := by omega
  skip
  go_wp2_with fail
  skip
  all_goals
    skip
    refine bodyPost_ret (v := .tuple #[valV x.kind x.text x.count (.slice pa x.pairs.length pc) (.slice ia x.items.length ic) (.slice sa x.scores.length sc), repV 5 ⟨#[]⟩ 0 (.slice none 0 0)]) (by simp [results, Tryz.results95, go_sem, c2, c3]) rfl ⟨_, _, rfl, HF.out _ ?_, ⟨_, rfl, RowAt.nil _ _ _, In.nil _ _ _⟩, Keeps.ofBelow ?_⟩
    all_goals
      (repeat (with_reducible first | exact hB1 | refine Below.drew ?_ | refine Below.setCell ?_ ?_ _))
      all_goals (first | omega | (simp <;> omega))
set_option maxHeartbeats 4000000 in
theorem rank_rank (x : Val) (c : Cmd) (p : Nat) (hk : c.k = 16) (hm : x.size ≤ 1048576) (hh : idxI (isMember c.txt) x.scores = (p : Int)) : Does 95 x c x { n := (p : Int) } := by
  intro B N W ps is ss hBN hN ho op oi os
  have hmL : x.scores.length ≤ 140737488355328 := by unfold Val.size at hm; omega
  have hfin := fun w' (hb : Below W.heap.size W w') => ho.repsA (N := N) (M := W.heap.size) hm hb op oi os
  have n4 : (c.k == 14) = false := by simp [hk]
  have n5 : (c.k == 15) = decide (16 = 15) := by simp [hk]
  obtain ⟨pa, pc, ia, ic, sa, sc, rfl, rfl, rfl⟩ := ho.shapes
  obtain ⟨n0, n1, n2, n3, hb0, hz0⟩ := four_at W (valO x.kind x.text x.count (.slice pa x.pairs.length pc) (.slice ia x.items.length ic) (.slice sa x.scores.length sc)) (cmdC c) (valO 0 ⟨#[]⟩ 0 (.slice none 0 0) (.slice none 0 0) (.slice none 0 0)) (repO 0 ⟨#[]⟩ 0 (.slice none 0 0))
  have hBS := indexFuncS 118 #[.pointer (some ⟨W.heap.size + 1, 0, none⟩)] (isMember c.txt) member_enter (.slice sa x.scores.length sc) x.scores _ ((RowAt.ofOwn lenS ho.s.1 hmL).below hb0) (member_pred c _ _ n1)
  rw [hh] at hBS
  have HF : Hid (∀ w', Below W.heap.size W w' → RepsA B N W.heap.size w' (valV x.kind x.text x.count (.slice pa x.pairs.length pc) (.slice ia x.items.length ic) (.slice sa x.scores.length sc)) x) := hfin
  clear hh hk hfin ho
  go_enter Tryz.func95, Tryz.ntmps95
  go_wp2_with fail
  refine hBS.mono ?_
  rintro e w1 ⟨rfl, hb1⟩
  have hB1 := bstep hb0 hb1
  have sz1 : W.heap.size + 4 ≤ w1.heap.size := by rw [← hz0]; exact hb1.size
  have m0 := (hb1.block W.heap.size (by omega)).trans n0
  have m1 := (hb1.block (W.heap.size + 1) (by omega)).trans n1
  have m2 := (hb1.block (W.heap.size + 1 + 1) (by omega)).trans n2
  have m3 := (hb1.block (W.heap.size + 1 + 1 + 1) (by omega)).trans n3
  clear n0 n1 n2 n3 hb1 hBS hz0 hb0
  obtain ⟨c0, f0⟩ := block_cells m0
  obtain ⟨c1, f1⟩ := block_cells m1
  obtain ⟨c2, f2⟩ := block_cells m2
  obtain ⟨c3, f3⟩ := block_cells m3
  clear m0 m1 m2 m3
  have q0 : W.heap.size < w1.heap.size := by omega
  have hp0 : (0 : Int) ≤ (p : Int) := Int.natCast_nonneg p
  go_wp2_with fail
  skip
  all_goals
    skip
    refine bodyPost_ret (v := .tuple #[valV x.kind x.text x.count (.slice pa x.pairs.length pc) (.slice ia x.items.length ic) (.slice sa x.scores.length sc), repV 0 ⟨#[]⟩ (p : Int) (.slice none 0 0)]) (by simp [results, Tryz.results95, go_sem, c2, c3]) rfl ⟨_, _, rfl, HF.out _ ?_, ⟨_, rfl, RowAt.nil _ _ _, In.nil _ _ _⟩, Keeps.ofBelow ?_⟩
    all_goals
      (repeat (with_reducible first | exact hB1 | refine Below.drew ?_ | refine Below.setCell ?_ ?_ _))
      all_goals (first | omega | (simp <;> omega))

set_option maxHeartbeats 4000000 in
theorem rank_full (x : Val) (c : Cmd) (hk : c.k = 14) (hm : x.size ≤ 1048576) (hf : 20 ≤ x.size) (hh : idxI (isMember c.txt) x.scores = -1) : Does 95 x c x { code := 6 } := by
  intro B N W ps is ss hBN hN ho op oi os
  have hmL : x.scores.length ≤ 140737488355328 := by unfold Val.size at hm; omega
  have hls := ho.lists hm
  have hfin := fun w' (hb : Below W.heap.size W w') => ho.repsA (N := N) (M := W.heap.size) hm hb op oi os
  have n4 : (c.k == 14) = true := by simp [hk]
  obtain ⟨pa, pc, ia, ic, sa, sc, rfl, rfl, rfl⟩ := ho.shapes
  obtain ⟨n0, n1, n2, n3, hb0, hz0⟩ := four_at W (valO x.kind x.text x.count (.slice pa x.pairs.length pc) (.slice ia x.items.length ic) (.slice sa x.scores.length sc)) (cmdC c) (valO 0 ⟨#[]⟩ 0 (.slice none 0 0) (.slice none 0 0) (.slice none 0 0)) (repO 0 ⟨#[]⟩ 0 (.slice none 0 0))
  have hBS := indexFuncS 118 #[.pointer (some ⟨W.heap.size + 1, 0, none⟩)] (isMember c.txt) member_enter (.slice sa x.scores.length sc) x.scores _ ((RowAt.ofOwn lenS ho.s.1 hmL).below hb0) (member_pred c _ _ n1)
  rw [hh] at hBS
  have HF : Hid (∀ w', Below W.heap.size W w' → RepsA B N W.heap.size w' (valV x.kind x.text x.count (.slice pa x.pairs.length pc) (.slice ia x.items.length ic) (.slice sa x.scores.length sc)) x) := hfin
  clear hh hk hfin ho
  go_enter Tryz.func95, Tryz.ntmps95
  go_wp2_with fail
  refine hBS.mono ?_
  rintro e w1 ⟨rfl, hb1⟩
  have hB1 := bstep hb0 hb1
  have hF := isFull_any (valV x.kind x.text x.count (.slice pa x.pairs.length pc) (.slice ia x.items.length ic) (.slice sa x.scores.length sc)) x w1 ⟨_, _, _, rfl, hls.below hB1⟩
  rw [show decide (20 ≤ x.size) = true by simpa using hf] at hF
  have sz1 : W.heap.size + 4 ≤ w1.heap.size := by rw [← hz0]; exact hb1.size
  have m0 := (hb1.block W.heap.size (by omega)).trans n0
  have m1 := (hb1.block (W.heap.size + 1) (by omega)).trans n1
  have m2 := (hb1.block (W.heap.size + 1 + 1) (by omega)).trans n2
  have m3 := (hb1.block (W.heap.size + 1 + 1 + 1) (by omega)).trans n3
  clear n0 n1 n2 n3 hb1 hBS hz0 hb0 hls
  obtain ⟨c0, f0⟩ := block_cells m0
  obtain ⟨c1, f1⟩ := block_cells m1
  go_wp2_with fail
  refine hF.mono ?_
  rintro e w2 ⟨rfl, hb2⟩
  have hB2 := bstep hB1 hb2
  have sz2 := hb2.size
  obtain ⟨c0', f0'⟩ := block_cells ((hb2.block _ (by omega)).trans m0)
  obtain ⟨c2, f2⟩ := block_cells ((hb2.block _ (by omega)).trans m2)
  obtain ⟨c3, f3⟩ := block_cells ((hb2.block _ (by omega)).trans m3)
  clear m0 m1 m2 m3 c0 f0 c1 f1 hF hb2
  go_wp2_with fail
  refine bodyPost_ret (v := .tuple #[valV x.kind x.text x.count (.slice pa x.pairs.length pc) (.slice ia x.items.length ic) (.slice sa x.scores.length sc), repV 6 ⟨#[]⟩ 0 (.slice none 0 0)]) (by simp [results, Tryz.results95, go_sem, c2, c3]) rfl ⟨_, _, rfl, HF.out _ ?_, ⟨_, rfl, RowAt.nil _ _ _, In.nil _ _ _⟩, Keeps.ofBelow ?_⟩
  all_goals
    (repeat (with_reducible first | exact hB2 | refine Below.drew ?_ | refine Below.setCell ?_ ?_ _))
    all_goals (first | omega | (simp <;> omega))
end Go.Proofs.YtndadgjidihfeaaGreat

/- A member is put into a rank: anew, or at another place. -/
namespace Go.Proofs.YtndadgjidihfeaaGreat
open Go.RowKit
set_option linter.unusedVariables false

/-- Where performRank stands between its calls: its frame as it was, the scores a row of the call's own. -/
structure Mid (B N : Nat) (W : World) (x : Val) (c : Cmd) (s0 : Value) (w : World) (s : Value) (L : List (ByteArray × Int)) : Prop where
  keeps : Keeps B N W w
  own : w.ownsRow B 57 2 s L.length (L.flatMap encS)
  inn : In B N W.heap.size s
  size : W.heap.size + 4 ≤ w.heap.size
  b0 : w.heap[W.heap.size]? = some (valO x.kind x.text x.count (.slice none 0 0) (.slice none 0 0) s0)
  b1 : w.heap[W.heap.size + 1]? = some (cmdC c)
  b2 : w.heap[W.heap.size + 1 + 1]? = some (valO 0 ⟨#[]⟩ 0 (.slice none 0 0) (.slice none 0 0) (.slice none 0 0))
  b3 : w.heap[W.heap.size + 1 + 1 + 1]? = some (repO 0 ⟨#[]⟩ 0 (.slice none 0 0))

theorem Mid.heap {B N : Nat} {W w w' : World} {x : Val} {c : Cmd} {s0 s : Value} {L : List (ByteArray × Int)} (h : Mid B N W x c s0 w s L) (e : w' = w.drew) : Mid B N W x c s0 w' s L := by
  subst e
  exact ⟨h.keeps.drew, h.own, h.inn, h.size, h.b0, h.b1, h.b2, h.b3⟩
theorem Mid.grown {B N : Nat} {W w w' : World} {x : Val} {c : Cmd} {s0 s r : Value} {L L' : List (ByteArray × Int)} (h : Mid B N W x c s0 w s L) (hg : w.grownBy w' s.ownBlock) (ho : w'.ownsRow B 57 2 r L'.length (L'.flatMap encS))
    (hr : ∀ k, r.ownBlock = some k → s.ownBlock = some k ∨ w.heap.size ≤ k) : Mid B N W x c s0 w' r L' := by
  have hz := h.keeps.size
  have e0 := own_ne h.own h.b0 (by decide)
  have e1 := own_ne h.own h.b1 (by decide)
  have e2 := own_ne h.own h.b2 (by decide)
  have e3 := own_ne h.own h.b3 (by decide)
  have hs := h.size
  refine ⟨⟨hg.os.trans h.keeps.os, hg.tape.trans h.keeps.tape, hg.output.trans h.keeps.output, Nat.le_trans hz hg.size, fun k hk ho => ?_⟩, ho, fun k hk => ⟨(ho.lt k hk).1, ?_⟩, Nat.le_trans hs hg.size, ?_, ?_, ?_, ?_⟩
  · refine (hg.block k (by omega) (fun e => ?_)).trans (h.keeps.block k hk ho)
    have := h.inn k e.symm
    omega
  · rcases hr k hk with e | e
    · exact (h.inn k e).2
    · exact .inr (by omega)
  · exact (hg.block _ (by omega) (fun e => e0 e.symm)).trans h.b0
  · exact (hg.block _ (by omega) (fun e => e1 e.symm)).trans h.b1
  · exact (hg.block _ (by omega) (fun e => e2 e.symm)).trans h.b2
  · exact (hg.block _ (by omega) (fun e => e3 e.symm)).trans h.b3

theorem mid_insert {B N p : Nat} {W w : World} {x : Val} {c : Cmd} {s0 s : Value} {L : List (ByteArray × Int)} (t : ByteArray × Int) (h : Mid B N W x c s0 w s L) (hB : B ≤ N) (hN : N ≤ W.heap.size) (hn : L.length ≤ 1048575) (hp : Parts (fun q => cmpSc q t) L p) :
    Calls Tryz.prog 120 #[s, valS t] w fun e w' => ∃ a cc, e = .returned (.slice a (L.length + 1) cc) ∧ Mid B N W x c s0 w' (.slice a (L.length + 1) cc) (L.take p ++ t :: L.drop p) := by
  have hz := h.size
  have hpl : p ≤ L.length := hp.1
  refine (insertScore_at B p s L t w h.own (by omega) hn hp).mono ?_
  rintro e w' ⟨r, rfl, h1, h2, h3⟩
  obtain ⟨a, cc, rfl⟩ := ownsRow_shape h1
  have hlen : (L.take p ++ t :: L.drop p).length = L.length + 1 := by simp; omega
  exact ⟨a, cc, rfl, h.grown h2 (by rw [hlen]; exact h1) h3⟩
theorem mid_without {B N i : Nat} {W w : World} {x : Val} {c : Cmd} {s0 s : Value} {L : List (ByteArray × Int)} (h : Mid B N W x c s0 w s L) (hi : i < L.length) (hn : L.length ≤ 1048576) :
    Calls Tryz.prog 121 #[s, .int .i64 (i : Int)] w fun e w' => ∃ a cc, e = .returned (.slice a (L.take i ++ L.drop (i + 1)).length cc) ∧ Mid B N W x c s0 w' (.slice a (L.take i ++ L.drop (i + 1)).length cc) (L.take i ++ L.drop (i + 1)) := by
  refine (withoutScore_at B i s L w h.own hi hn).mono ?_
  rintro e w' ⟨r, rfl, h1, h2, h3⟩
  have hlen : (L.take i ++ L.drop (i + 1)).length = L.length - 1 := by simp; omega
  rw [← hlen] at h1
  obtain ⟨a, cc, rfl⟩ := ownsRow_shape h1
  exact ⟨a, cc, rfl, h.grown h2 h1 (fun k hk => .inl (h3 ▸ hk))⟩
theorem mid_keep {B N : Nat} {W w : World} {x : Val} {c : Cmd} {s0 : Value} {a : Option Addr} {cc : Nat} {L : List (ByteArray × Int)} (h : Mid B N W x c s0 w (.slice a L.length cc) L) :
    Calls Tryz.prog 121 #[.slice a L.length cc, .int .i64 (-1)] w fun e w' => ∃ a cc, e = .returned (.slice a L.length cc) ∧ Mid B N W x c s0 w' (.slice a L.length cc) L := by
  refine (withoutScore_none _ a _ cc rfl w).mono ?_
  rintro e w' ⟨rfl, rfl⟩
  exact ⟨a, cc, rfl, h⟩
theorem Mid.below {B N : Nat} {W w w' : World} {x : Val} {c : Cmd} {s0 s : Value} {L : List (ByteArray × Int)} (h : Mid B N W x c s0 w s L) (hb : Below w.heap.size w w') : Mid B N W x c s0 w' s L := by
  have hz := h.size
  exact ⟨h.keeps.trans (Keeps.ofBelow hb), own_kept h.own hb, h.inn, Nat.le_trans hz hb.size, (hb.block _ (by omega)).trans h.b0, (hb.block _ (by omega)).trans h.b1, (hb.block _ (by omega)).trans h.b2, (hb.block _ (by omega)).trans h.b3⟩

end Go.Proofs.YtndadgjidihfeaaGreat
