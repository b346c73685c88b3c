/- What commands make of a value's own lists where nothing is changed: what was looked for is not there, or is read. -/
import Derived.Test.YtfnephnecighaaaGreatPg
import Derived.Test.YtfnephnecighaaaGreatPc
namespace Go.Proofs.YtfnephnecighaaaGreat
open Go.RowKit
set_option linter.unusedVariables false

theorem OwnLists.repsA {B N M : Nat} {W w' : World} {ps is ss : Value} {x : Val} (ho : OwnLists B W ps is ss x) (hm : x.size ≤ 1048576) (hb : Below W.heap.size W w') (op : OwnIn N ps) (oi : OwnIn N is) (os : OwnIn N ss) : RepsA B N M w' (valV x.kind x.text x.count ps is ss) x :=
  ⟨_, _, _, rfl, (ho.lists hm).below hb, fun k hk => ⟨(ho.p.1.lt k hk).1, .inl (op k hk)⟩, fun k hk => ⟨(ho.i.1.lt k hk).1, .inl (oi k hk)⟩, fun k hk => ⟨(ho.s.1.lt k hk).1, .inl (os k hk)⟩⟩

set_option maxHeartbeats 4000000 in
theorem hash_get_miss (x : Val) (c : Cmd) (p : Nat) (hk : c.k = 5) (hm : x.size ≤ 1048576) (hp : Parts (fun q : ByteArray × ByteArray => cmpS q.1 c.fld) x.pairs p) (hh : hitB (fun q : ByteArray × ByteArray => cmpS q.1 c.fld) x.pairs p = false) :
    Does 96 x c x { code := 5 } := by
  intro B N W ps is ss hBN hN ho op oi os
  have hmL : x.pairs.length ≤ 140737488355328 := by unfold Val.size at hm; omega
  have hfin := fun w' (hb : Below W.heap.size W w') => ho.repsA (N := N) (M := W.heap.size) hm hb op oi os
  have n4 : (c.k == 4) = false := by simp [hk]
  have n5 : (c.k == 5) = true := by simp [hk]
  obtain ⟨pa, pc, ia, ic, sa, sc, rfl, rfl, rfl⟩ := ho.shapes
  obtain ⟨n0, n1, n2, n3, hb0, hz0⟩ := four_at W (valO x.kind x.text x.count (.slice pa x.pairs.length pc) (.slice ia x.items.length ic) (.slice sa x.scores.length sc)) (cmdC c) (valO 0 ⟨#[]⟩ 0 (.slice none 0 0) (.slice none 0 0) (.slice none 0 0)) (repO 0 ⟨#[]⟩ 0 (.slice none 0 0))
  have hBS := bsearchP 130 #[] c.fld (fun q => cmpS q.1 c.fld) pairCmp_enter (.slice pa x.pairs.length pc) x.pairs p _ ((RowAt.ofOwn lenP ho.p.1 hmL).below hb0) (pairCmp_of c.fld _) hp
  rw [hh] at hBS
  have HF : Hid (∀ w', Below W.heap.size W w' → RepsA B N W.heap.size w' (valV x.kind x.text x.count (.slice pa x.pairs.length pc) (.slice ia x.items.length ic) (.slice sa x.scores.length sc)) x) := hfin
  clear hp hh hk hfin ho
  go_enter Tryz.func96, Tryz.ntmps96
  go_wp2_with fail
  refine hBS.mono ?_
  rintro e w1 ⟨rfl, hb1⟩
  have hB1 := bstep hb0 hb1
  have sz1 : W.heap.size + 4 ≤ w1.heap.size := by rw [← hz0]; exact hb1.size
  have m0 := (hb1.block W.heap.size (by omega)).trans n0
  have m1 := (hb1.block (W.heap.size + 1) (by omega)).trans n1
  have m2 := (hb1.block (W.heap.size + 1 + 1) (by omega)).trans n2
  have m3 := (hb1.block (W.heap.size + 1 + 1 + 1) (by omega)).trans n3
  clear n0 n1 n2 n3 hb1 hBS hz0 hb0
  obtain ⟨c0, f0⟩ := block_cells m0
  obtain ⟨c1, f1⟩ := block_cells m1
  obtain ⟨c2, f2⟩ := block_cells m2
  obtain ⟨c3, f3⟩ := block_cells m3
  clear m0 m1 m2 m3
  go_wp2_with fail
  skip
  all_goals
    skip
    refine bodyPost_ret (v := .tuple #[valV x.kind x.text x.count (.slice pa x.pairs.length pc) (.slice ia x.items.length ic) (.slice sa x.scores.length sc), repV 5 ⟨#[]⟩ 0 (.slice none 0 0)]) (by simp [results, Tryz.results96, go_sem, c2, c3]) rfl ⟨_, _, rfl, HF.out _ ?_, ⟨_, rfl, RowAt.nil _ _ _, In.nil _ _ _⟩, Keeps.ofBelow ?_⟩
    all_goals
      (repeat (with_reducible first | exact hB1 | refine Below.drew ?_ | refine Below.setCell ?_ ?_ _))
      all_goals (first | omega | (simp <;> omega))
set_option maxHeartbeats 4000000 in
theorem hash_del_miss (x : Val) (c : Cmd) (p : Nat) (hk : c.k = 6) (hm : x.size ≤ 1048576) (hp : Parts (fun q : ByteArray × ByteArray => cmpS q.1 c.fld) x.pairs p) (hh : hitB (fun q : ByteArray × ByteArray => cmpS q.1 c.fld) x.pairs p = false) :
    Does 96 x c x {} := by
  intro B N W ps is ss hBN hN ho op oi os
  have hmL : x.pairs.length ≤ 140737488355328 := by unfold Val.size at hm; omega
  have hfin := fun w' (hb : Below W.heap.size W w') => ho.repsA (N := N) (M := W.heap.size) hm hb op oi os
  have n4 : (c.k == 4) = false := by simp [hk]
  have n5 : (c.k == 5) = false := by simp [hk]
  obtain ⟨pa, pc, ia, ic, sa, sc, rfl, rfl, rfl⟩ := ho.shapes
  obtain ⟨n0, n1, n2, n3, hb0, hz0⟩ := four_at W (valO x.kind x.text x.count (.slice pa x.pairs.length pc) (.slice ia x.items.length ic) (.slice sa x.scores.length sc)) (cmdC c) (valO 0 ⟨#[]⟩ 0 (.slice none 0 0) (.slice none 0 0) (.slice none 0 0)) (repO 0 ⟨#[]⟩ 0 (.slice none 0 0))
  have hBS := bsearchP 130 #[] c.fld (fun q => cmpS q.1 c.fld) pairCmp_enter (.slice pa x.pairs.length pc) x.pairs p _ ((RowAt.ofOwn lenP ho.p.1 hmL).below hb0) (pairCmp_of c.fld _) hp
  rw [hh] at hBS
  have HF : Hid (∀ w', Below W.heap.size W w' → RepsA B N W.heap.size w' (valV x.kind x.text x.count (.slice pa x.pairs.length pc) (.slice ia x.items.length ic) (.slice sa x.scores.length sc)) x) := hfin
  clear hp hh hk hfin ho
  go_enter Tryz.func96, Tryz.ntmps96
  go_wp2_with fail
  refine hBS.mono ?_
  rintro e w1 ⟨rfl, hb1⟩
  have hB1 := bstep hb0 hb1
  have sz1 : W.heap.size + 4 ≤ w1.heap.size := by rw [← hz0]; exact hb1.size
  have m0 := (hb1.block W.heap.size (by omega)).trans n0
  have m1 := (hb1.block (W.heap.size + 1) (by omega)).trans n1
  have m2 := (hb1.block (W.heap.size + 1 + 1) (by omega)).trans n2
  have m3 := (hb1.block (W.heap.size + 1 + 1 + 1) (by omega)).trans n3
  clear n0 n1 n2 n3 hb1 hBS hz0 hb0
  obtain ⟨c0, f0⟩ := block_cells m0
  obtain ⟨c1, f1⟩ := block_cells m1
  obtain ⟨c2, f2⟩ := block_cells m2
  obtain ⟨c3, f3⟩ := block_cells m3
  clear m0 m1 m2 m3
  go_wp2_with fail
  go_region_with (go_at_call 133; refine (number_any _ _).mono ?_; rintro e w3 ⟨rfl, rfl⟩)
  all_goals
    go_wp2_with fail
    refine bodyPost_ret (v := .tuple #[valV x.kind x.text x.count (.slice pa x.pairs.length pc) (.slice ia x.items.length ic) (.slice sa x.scores.length sc), repV 0 ⟨#[]⟩ 0 (.slice none 0 0)]) (by simp [results, Tryz.results96, go_sem, c2, c3]) rfl ⟨_, _, rfl, HF.out _ ?_, ⟨_, rfl, RowAt.nil _ _ _, In.nil _ _ _⟩, Keeps.ofBelow ?_⟩
    all_goals
      (repeat (with_reducible first | exact hB1 | refine Below.drew ?_ | refine Below.setCell ?_ ?_ _))
      all_goals (first | omega | (simp <;> omega))
set_option maxHeartbeats 4000000 in
theorem set_rem_miss (x : Val) (c : Cmd) (p : Nat) (hk : c.k = 12) (hm : x.size ≤ 1048576) (hp : Parts (fun q : ByteArray => cmpS q c.txt) x.items p) (hh : hitB (fun q : ByteArray => cmpS q c.txt) x.items p = false) :
    Does 98 x c x {} := by
  intro B N W ps is ss hBN hN ho op oi os
  have hmL : x.items.length ≤ 140737488355328 := by unfold Val.size at hm; omega
  have hfin := fun w' (hb : Below W.heap.size W w') => ho.repsA (N := N) (M := W.heap.size) hm hb op oi os
  have n4 : (c.k == 11) = false := by simp [hk]
  have n5 : (c.k == 12) = true := by simp [hk]
  obtain ⟨pa, pc, ia, ic, sa, sc, rfl, rfl, rfl⟩ := ho.shapes
  obtain ⟨n0, n1, n2, n3, hb0, hz0⟩ := four_at W (valO x.kind x.text x.count (.slice pa x.pairs.length pc) (.slice ia x.items.length ic) (.slice sa x.scores.length sc)) (cmdC c) (valO 0 ⟨#[]⟩ 0 (.slice none 0 0) (.slice none 0 0) (.slice none 0 0)) (repO 0 ⟨#[]⟩ 0 (.slice none 0 0))
  have hBS := bsearchI c.txt (.slice ia x.items.length ic) x.items p _ ((RowAt.ofOwn lenI ho.i.1 hmL).below hb0) hp
  rw [hh] at hBS
  have HF : Hid (∀ w', Below W.heap.size W w' → RepsA B N W.heap.size w' (valV x.kind x.text x.count (.slice pa x.pairs.length pc) (.slice ia x.items.length ic) (.slice sa x.scores.length sc)) x) := hfin
  clear hp hh hk hfin ho
  go_enter Tryz.func98, Tryz.ntmps98
  go_wp2_with fail
  refine hBS.mono ?_
  rintro e w1 ⟨rfl, hb1⟩
  have hB1 := bstep hb0 hb1
  have sz1 : W.heap.size + 4 ≤ w1.heap.size := by rw [← hz0]; exact hb1.size
  have m0 := (hb1.block W.heap.size (by omega)).trans n0
  have m1 := (hb1.block (W.heap.size + 1) (by omega)).trans n1
  have m2 := (hb1.block (W.heap.size + 1 + 1) (by omega)).trans n2
  have m3 := (hb1.block (W.heap.size + 1 + 1 + 1) (by omega)).trans n3
  clear n0 n1 n2 n3 hb1 hBS hz0 hb0
  obtain ⟨c0, f0⟩ := block_cells m0
  obtain ⟨c1, f1⟩ := block_cells m1
  obtain ⟨c2, f2⟩ := block_cells m2
  obtain ⟨c3, f3⟩ := block_cells m3
  clear m0 m1 m2 m3
  go_wp2_with fail
  go_region_with (go_at_call 133; refine (number_any _ _).mono ?_; rintro e w3 ⟨rfl, rfl⟩)
  all_goals
    go_wp2_with fail
    refine bodyPost_ret (v := .tuple #[valV x.kind x.text x.count (.slice pa x.pairs.length pc) (.slice ia x.items.length ic) (.slice sa x.scores.length sc), repV 0 ⟨#[]⟩ 0 (.slice none 0 0)]) (by simp [results, Tryz.results98, go_sem, c2, c3]) rfl ⟨_, _, rfl, HF.out _ ?_, ⟨_, rfl, RowAt.nil _ _ _, In.nil _ _ _⟩, Keeps.ofBelow ?_⟩
    all_goals
      (repeat (with_reducible first | exact hB1 | refine Below.drew ?_ | refine Below.setCell ?_ ?_ _))
      all_goals (first | omega | (simp <;> omega))
set_option maxHeartbeats 4000000 in
theorem set_has_miss (x : Val) (c : Cmd) (p : Nat) (hk : c.k = 13) (hm : x.size ≤ 1048576) (hp : Parts (fun q : ByteArray => cmpS q c.txt) x.items p) (hh : hitB (fun q : ByteArray => cmpS q c.txt) x.items p = false) :
    Does 98 x c x {} := by
  intro B N W ps is ss hBN hN ho op oi os
  have hmL : x.items.length ≤ 140737488355328 := by unfold Val.size at hm; omega
  have hfin := fun w' (hb : Below W.heap.size W w') => ho.repsA (N := N) (M := W.heap.size) hm hb op oi os
  have n4 : (c.k == 11) = false := by simp [hk]
  have n5 : (c.k == 12) = false := by simp [hk]
  obtain ⟨pa, pc, ia, ic, sa, sc, rfl, rfl, rfl⟩ := ho.shapes
  obtain ⟨n0, n1, n2, n3, hb0, hz0⟩ := four_at W (valO x.kind x.text x.count (.slice pa x.pairs.length pc) (.slice ia x.items.length ic) (.slice sa x.scores.length sc)) (cmdC c) (valO 0 ⟨#[]⟩ 0 (.slice none 0 0) (.slice none 0 0) (.slice none 0 0)) (repO 0 ⟨#[]⟩ 0 (.slice none 0 0))
  have hBS := bsearchI c.txt (.slice ia x.items.length ic) x.items p _ ((RowAt.ofOwn lenI ho.i.1 hmL).below hb0) hp
  rw [hh] at hBS
  have HF : Hid (∀ w', Below W.heap.size W w' → RepsA B N W.heap.size w' (valV x.kind x.text x.count (.slice pa x.pairs.length pc) (.slice ia x.items.length ic) (.slice sa x.scores.length sc)) x) := hfin
  clear hp hh hk hfin ho
  go_enter Tryz.func98, Tryz.ntmps98
  go_wp2_with fail
  refine hBS.mono ?_
  rintro e w1 ⟨rfl, hb1⟩
  have hB1 := bstep hb0 hb1
  have sz1 : W.heap.size + 4 ≤ w1.heap.size := by rw [← hz0]; exact hb1.size
  have m0 := (hb1.block W.heap.size (by omega)).trans n0
  have m1 := (hb1.block (W.heap.size + 1) (by omega)).trans n1
  have m2 := (hb1.block (W.heap.size + 1 + 1) (by omega)).trans n2
  have m3 := (hb1.block (W.heap.size + 1 + 1 + 1) (by omega)).trans n3
  clear n0 n1 n2 n3 hb1 hBS hz0 hb0
  obtain ⟨c0, f0⟩ := block_cells m0
  obtain ⟨c1, f1⟩ := block_cells m1
  obtain ⟨c2, f2⟩ := block_cells m2
  obtain ⟨c3, f3⟩ := block_cells m3
  clear m0 m1 m2 m3
  go_wp2_with fail
  go_region_with (go_at_call 133; refine (number_any _ _).mono ?_; rintro e w3 ⟨rfl, rfl⟩)
  all_goals
    go_wp2_with fail
    refine bodyPost_ret (v := .tuple #[valV x.kind x.text x.count (.slice pa x.pairs.length pc) (.slice ia x.items.length ic) (.slice sa x.scores.length sc), repV 0 ⟨#[]⟩ 0 (.slice none 0 0)]) (by simp [results, Tryz.results98, go_sem, c2, c3]) rfl ⟨_, _, rfl, HF.out _ ?_, ⟨_, rfl, RowAt.nil _ _ _, In.nil _ _ _⟩, Keeps.ofBelow ?_⟩
    all_goals
      (repeat (with_reducible first | exact hB1 | refine Below.drew ?_ | refine Below.setCell ?_ ?_ _))
      all_goals (first | omega | (simp <;> omega))
end Go.Proofs.YtfnephnecighaaaGreat
