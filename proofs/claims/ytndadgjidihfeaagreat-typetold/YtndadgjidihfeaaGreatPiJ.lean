/- What is read from a value's own lists: a field's text, whether a text is there; and that there is no room. -/
import Derived.Test.YtndadgjidihfeaaGreatMqJ
namespace Go.Proofs.YtndadgjidihfeaaGreat
open Go.RowKit
set_option linter.unusedVariables false

/-- A value comes back as it was, beside a reply of a code alone. -/
def Back (f : FuncId) (args : Array Value) (v : Value) (code : Int) (w : World) : Prop := Calls Tryz.prog f args w fun e w' => e = .returned (.tuple #[v, repV code ⟨#[]⟩ 0 (.slice none 0 0)]) ∧ Below w.heap.size w w'

set_option maxHeartbeats 1000000 in
theorem addItem_there (kind : Int) (text : ByteArray) (count : Int) (pa ia sa : Option Addr) (np pc ni ic ns sc : Nat) (i : Int) (t : ByteArray) (w : World) :
    Back 116 #[valV kind text count (.slice pa np pc) (.slice ia ni ic) (.slice sa ns sc), .int .i64 i, .bool true, .string t] (valV kind text count (.slice pa np pc) (.slice ia ni ic) (.slice sa ns sc)) 0 w := by
  unfold Back
  go_enter Tryz.func116, Tryz.ntmps116
  go_wp2_with fail
  refine bodyPost_ret (v := .tuple #[valV kind text count (.slice pa np pc) (.slice ia ni ic) (.slice sa ns sc), repV 0 ⟨#[]⟩ 0 (.slice none 0 0)]) (by simp [results, Tryz.results116, go_sem]) rfl ⟨rfl, ?_⟩
  (repeat (with_reducible first | exact balloc _ _ | refine Below.drew ?_ | refine Below.setCell ?_ ?_ _ | refine Below.alloc ?_ ?_ _))
  all_goals (first | omega | (simp <;> omega))

set_option maxHeartbeats 1000000 in
theorem addItem_full (x : Val) (i : Int) (t : ByteArray) (W : World) (ps is ss : Value) (hm : 20 ≤ x.size) (hl : Lists W ps is ss x) :
    Back 116 #[valV x.kind x.text x.count ps is ss, .int .i64 i, .bool false, .string t] (valV x.kind x.text x.count ps is ss) 6 W := by
  have hrep : Reps W (valV x.kind x.text x.count ps is ss) x := ⟨_, _, _, rfl, hl⟩
  unfold Back
  obtain ⟨pa, pc, ia, ic, sa, sc, rfl, rfl, rfl⟩ := hl.shapes
  obtain ⟨n0, n1, n2, hb0, hz0⟩ := three_at W (valO x.kind x.text x.count (.slice pa x.pairs.length pc) (.slice ia x.items.length ic) (.slice sa x.scores.length sc)) (valO 0 ⟨#[]⟩ 0 (.slice none 0 0) (.slice none 0 0) (.slice none 0 0)) (repO 0 ⟨#[]⟩ 0 (.slice none 0 0))
  have hF := isFull_any _ x _ (hrep.below hb0)
  rw [show decide (20 ≤ x.size) = true by simpa using hm] at hF
  clear hrep hl
  go_enter Tryz.func116, Tryz.ntmps116
  go_wp2_with fail
  refine hF.mono ?_
  rintro e w1 ⟨rfl, hb1⟩
  have hB1 := bstep hb0 hb1
  have sz1 : W.heap.size + 3 ≤ w1.heap.size := by rw [← hz0]; exact hb1.size
  have m0 := (hb1.block W.heap.size (by omega)).trans n0
  have m1 := (hb1.block (W.heap.size + 1) (by omega)).trans n1
  have m2 := (hb1.block (W.heap.size + 1 + 1) (by omega)).trans n2
  clear n0 n1 n2 hb1 hF hz0 hb0
  obtain ⟨c0, f0⟩ := block_cells m0
  obtain ⟨c1, f1⟩ := block_cells m1
  obtain ⟨c2, f2⟩ := block_cells m2
  clear m0 m1 m2
  go_wp2_with fail
  refine bodyPost_ret (v := .tuple #[valV x.kind x.text x.count (.slice pa x.pairs.length pc) (.slice ia x.items.length ic) (.slice sa x.scores.length sc), repV 6 ⟨#[]⟩ 0 (.slice none 0 0)]) (by simp [results, Tryz.results116, go_sem, c1, c2]) rfl ⟨rfl, ?_⟩
  (repeat (with_reducible first | exact hB1 | refine Below.drew ?_ | refine Below.setCell ?_ ?_ _))
  all_goals (first | omega | (simp <;> omega))
set_option maxHeartbeats 1000000 in
theorem insertItem_full (x : Val) (i : Int) (t : ByteArray) (W : World) (ps is ss : Value) (hm : 20 ≤ x.size) (hl : Lists W ps is ss x) :
    Back 113 #[valV x.kind x.text x.count ps is ss, .int .i64 i, .string t] (valV x.kind x.text x.count ps is ss) 6 W := by
  have hrep : Reps W (valV x.kind x.text x.count ps is ss) x := ⟨_, _, _, rfl, hl⟩
  unfold Back
  obtain ⟨pa, pc, ia, ic, sa, sc, rfl, rfl, rfl⟩ := hl.shapes
  obtain ⟨n0, n1, n2, hb0, hz0⟩ := three_at W (valO x.kind x.text x.count (.slice pa x.pairs.length pc) (.slice ia x.items.length ic) (.slice sa x.scores.length sc)) (valO 0 ⟨#[]⟩ 0 (.slice none 0 0) (.slice none 0 0) (.slice none 0 0)) (repO 0 ⟨#[]⟩ 0 (.slice none 0 0))
  have hF := isFull_any _ x _ (hrep.below hb0)
  rw [show decide (20 ≤ x.size) = true by simpa using hm] at hF
  clear hrep hl
  go_enter Tryz.func113, Tryz.ntmps113
  go_wp2_with fail
  refine hF.mono ?_
  rintro e w1 ⟨rfl, hb1⟩
  have hB1 := bstep hb0 hb1
  have sz1 : W.heap.size + 3 ≤ w1.heap.size := by rw [← hz0]; exact hb1.size
  have m0 := (hb1.block W.heap.size (by omega)).trans n0
  have m1 := (hb1.block (W.heap.size + 1) (by omega)).trans n1
  have m2 := (hb1.block (W.heap.size + 1 + 1) (by omega)).trans n2
  clear n0 n1 n2 hb1 hF hz0 hb0
  obtain ⟨c0, f0⟩ := block_cells m0
  obtain ⟨c1, f1⟩ := block_cells m1
  obtain ⟨c2, f2⟩ := block_cells m2
  clear m0 m1 m2
  go_wp2_with fail
  refine bodyPost_ret (v := .tuple #[valV x.kind x.text x.count (.slice pa x.pairs.length pc) (.slice ia x.items.length ic) (.slice sa x.scores.length sc), repV 6 ⟨#[]⟩ 0 (.slice none 0 0)]) (by simp [results, Tryz.results113, go_sem, c1, c2]) rfl ⟨rfl, ?_⟩
  (repeat (with_reducible first | exact hB1 | refine Below.drew ?_ | refine Below.setCell ?_ ?_ _))
  all_goals (first | omega | (simp <;> omega))
set_option maxHeartbeats 1000000 in
theorem setField_full (x : Val) (i : Int) (t : ByteArray × ByteArray) (W : World) (ps is ss : Value) (hm : 20 ≤ x.size) (hl : Lists W ps is ss x) :
    Back 110 #[valV x.kind x.text x.count ps is ss, .int .i64 i, .bool false, valP t] (valV x.kind x.text x.count ps is ss) 6 W := by
  have hrep : Reps W (valV x.kind x.text x.count ps is ss) x := ⟨_, _, _, rfl, hl⟩
  unfold Back
  obtain ⟨pa, pc, ia, ic, sa, sc, rfl, rfl, rfl⟩ := hl.shapes
  obtain ⟨n0, -, n1, n2, hb0, hz0⟩ := four_at W (valO x.kind x.text x.count (.slice pa x.pairs.length pc) (.slice ia x.items.length ic) (.slice sa x.scores.length sc)) (.cells #[.string t.1, .string t.2] 52) (valO 0 ⟨#[]⟩ 0 (.slice none 0 0) (.slice none 0 0) (.slice none 0 0)) (repO 0 ⟨#[]⟩ 0 (.slice none 0 0))
  have hF := isFull_any _ x _ (hrep.below hb0)
  rw [show decide (20 ≤ x.size) = true by simpa using hm] at hF
  clear hrep hl
  go_enter Tryz.func110, Tryz.ntmps110
  go_wp2_with fail
  refine hF.mono ?_
  rintro e w1 ⟨rfl, hb1⟩
  have hB1 := bstep hb0 hb1
  have sz1 : W.heap.size + 4 ≤ w1.heap.size := by rw [← hz0]; exact hb1.size
  have m0 := (hb1.block W.heap.size (by omega)).trans n0
  have m1 := (hb1.block (W.heap.size + 1 + 1) (by omega)).trans n1
  have m2 := (hb1.block (W.heap.size + 1 + 1 + 1) (by omega)).trans n2
  clear n0 n1 n2 hb1 hF hz0 hb0
  obtain ⟨c0, f0⟩ := block_cells m0
  obtain ⟨c1, f1⟩ := block_cells m1
  obtain ⟨c2, f2⟩ := block_cells m2
  clear m0 m1 m2
  go_wp2_with fail
  refine bodyPost_ret (v := .tuple #[valV x.kind x.text x.count (.slice pa x.pairs.length pc) (.slice ia x.items.length ic) (.slice sa x.scores.length sc), repV 6 ⟨#[]⟩ 0 (.slice none 0 0)]) (by simp [results, Tryz.results110, go_sem, c1, c2]) rfl ⟨rfl, ?_⟩
  (repeat (with_reducible first | exact hB1 | refine Below.drew ?_ | refine Below.setCell ?_ ?_ _))
  all_goals (first | omega | (simp <;> omega))

set_option maxHeartbeats 4000000 in
theorem set_has (x : Val) (c : Cmd) (p : Nat) (hk : c.k = 13) (hm : x.size ≤ 1048576) (hp : Parts (fun q : ByteArray => cmpS q c.txt) x.items p) (hh : hitB (fun q : ByteArray => cmpS q c.txt) x.items p = true) :
    Does 94 x c x { n := 1 } := by
  intro B N W ps is ss hBN hN ho op oi os
  have hmL : x.items.length ≤ 140737488355328 := by unfold Val.size at hm; omega
  have hfin := fun w' (hb : Below W.heap.size W w') => ho.repsA (N := N) (M := W.heap.size) hm hb op oi os
  have n4 : (c.k == 11) = false := by simp [hk]
  have n5 : (c.k == 12) = false := by simp [hk]
  obtain ⟨pa, pc, ia, ic, sa, sc, rfl, rfl, rfl⟩ := ho.shapes
  obtain ⟨n0, n1, n2, n3, hb0, hz0⟩ := four_at W (valO x.kind x.text x.count (.slice pa x.pairs.length pc) (.slice ia x.items.length ic) (.slice sa x.scores.length sc)) (cmdC c) (valO 0 ⟨#[]⟩ 0 (.slice none 0 0) (.slice none 0 0) (.slice none 0 0)) (repO 0 ⟨#[]⟩ 0 (.slice none 0 0))
  have hBS := bsearchI c.txt (.slice ia x.items.length ic) x.items p _ ((RowAt.ofOwn lenI ho.i.1 hmL).below hb0) hp
  rw [hh] at hBS
  have HF : Hid (∀ w', Below W.heap.size W w' → RepsA B N W.heap.size w' (valV x.kind x.text x.count (.slice pa x.pairs.length pc) (.slice ia x.items.length ic) (.slice sa x.scores.length sc)) x) := hfin
  clear hp hh hk hfin ho
  go_enter Tryz.func94, Tryz.ntmps94
  go_wp2_with fail
  refine hBS.mono ?_
  rintro e w1 ⟨rfl, hb1⟩
  have hB1 := bstep hb0 hb1
  have sz1 : W.heap.size + 4 ≤ w1.heap.size := by rw [← hz0]; exact hb1.size
  have m0 := (hb1.block W.heap.size (by omega)).trans n0
  have m1 := (hb1.block (W.heap.size + 1) (by omega)).trans n1
  have m2 := (hb1.block (W.heap.size + 1 + 1) (by omega)).trans n2
  have m3 := (hb1.block (W.heap.size + 1 + 1 + 1) (by omega)).trans n3
  clear n0 n1 n2 n3 hb1 hBS hz0 hb0
  obtain ⟨c0, f0⟩ := block_cells m0
  obtain ⟨c1, f1⟩ := block_cells m1
  obtain ⟨c2, f2⟩ := block_cells m2
  obtain ⟨c3, f3⟩ := block_cells m3
  clear m0 m1 m2 m3
  go_wp2_with fail
  go_region_with (go_at_call 112; refine (number_any _ _).mono ?_; rintro e w3 ⟨rfl, rfl⟩)
  all_goals
    go_wp2_with fail
    refine bodyPost_ret (v := .tuple #[valV x.kind x.text x.count (.slice pa x.pairs.length pc) (.slice ia x.items.length ic) (.slice sa x.scores.length sc), repV 0 ⟨#[]⟩ 1 (.slice none 0 0)]) (by simp [results, Tryz.results94, go_sem, c2, c3]) rfl ⟨_, _, rfl, HF.out _ ?_, ⟨_, rfl, RowAt.nil _ _ _, In.nil _ _ _⟩, Keeps.ofBelow ?_⟩
    all_goals
      (repeat (with_reducible first | exact hB1 | refine Below.drew ?_ | refine Below.setCell ?_ ?_ _))
      all_goals (first | omega | (simp <;> omega))

set_option maxHeartbeats 4000000 in
theorem hash_get (x : Val) (c : Cmd) (p : Nat) (hk : c.k = 5) (hm : x.size ≤ 1048576) (hp : Parts (fun q : ByteArray × ByteArray => cmpS q.1 c.fld) x.pairs p) (hpl : p < x.pairs.length) (hh : hitB (fun q : ByteArray × ByteArray => cmpS q.1 c.fld) x.pairs p = true) :
    Does 92 x c x { text := x.pairs[p].2 } := by
  intro B N W ps is ss hBN hN ho op oi os
  have hmL : x.pairs.length ≤ 140737488355328 := by unfold Val.size at hm; omega
  have hfin := fun w' (hb : Below W.heap.size W w') => ho.repsA (N := N) (M := W.heap.size) hm hb op oi os
  have n4 : (c.k == 4) = false := by simp [hk]
  have n5 : (c.k == 5) = true := by simp [hk]
  obtain ⟨pa, pc, ia, ic, sa, sc, rfl, rfl, rfl⟩ := ho.shapes
  obtain ⟨g, pc', S, he, hgB, hgb, hc1, hc2, hc3⟩ := own_open ho.p.1 (by omega)
  obtain ⟨rfl, rfl⟩ : pa = some ⟨g, 0, none⟩ ∧ pc = pc' := by cases he; exact ⟨rfl, rfl⟩
  clear he
  obtain ⟨n0, n1, n2, n3, hb0, hz0⟩ := four_at W (valO x.kind x.text x.count (.slice (some ⟨g, 0, none⟩) x.pairs.length pc) (.slice ia x.items.length ic) (.slice sa x.scores.length sc)) (cmdC c) (valO 0 ⟨#[]⟩ 0 (.slice none 0 0) (.slice none 0 0) (.slice none 0 0)) (repO 0 ⟨#[]⟩ 0 (.slice none 0 0))
  have hBS := bsearchP 109 #[] c.fld (fun q => cmpS q.1 c.fld) pairCmp_enter (.slice (some ⟨g, 0, none⟩) x.pairs.length pc) x.pairs p _ ((RowAt.ofOwn lenP ho.p.1 hmL).below hb0) (pairCmp_of c.fld _) hp
  rw [hh] at hBS
  have hgl : g < W.heap.size := (Array.getElem?_eq_some_iff.1 hgb).1
  have HF : Hid (∀ w', Below W.heap.size W w' → RepsA B N W.heap.size w' (valV x.kind x.text x.count (.slice (some ⟨g, 0, none⟩) x.pairs.length pc) (.slice ia x.items.length ic) (.slice sa x.scores.length sc)) x) := hfin
  clear hp hh hk hfin ho
  go_enter Tryz.func92, Tryz.ntmps92
  go_wp2_with fail
  refine hBS.mono ?_
  rintro e w1 ⟨rfl, hb1⟩
  have hB1 := bstep hb0 hb1
  have cI : w1.cell? ⟨g, p * 2 + 1, none⟩ = some (.string x.pairs[p].2) := by
    rw [World.cell?_of_block (a := ⟨g, p * 2 + 1, none⟩) (hB1.block g hgl), (block_cells hgb).1 (p * 2 + 1)]
    have := flat_get 2 encP lenP x.pairs p hpl 1 (by omega)
    rw [List.getElem?_toArray, List.getElem?_append_left (by rw [flat_length lenP]; omega)]
    simpa [encP] using this
  have sz1 : W.heap.size + 4 ≤ w1.heap.size := by rw [← hz0]; exact hb1.size
  have m0 := (hb1.block W.heap.size (by omega)).trans n0
  have m1 := (hb1.block (W.heap.size + 1) (by omega)).trans n1
  have m2 := (hb1.block (W.heap.size + 1 + 1) (by omega)).trans n2
  have m3 := (hb1.block (W.heap.size + 1 + 1 + 1) (by omega)).trans n3
  clear n0 n1 n2 n3 hb1 hBS hz0 hb0 hgb hc3
  obtain ⟨c0, f0⟩ := block_cells m0
  obtain ⟨c1, f1⟩ := block_cells m1
  obtain ⟨c2, f2⟩ := block_cells m2
  obtain ⟨c3, f3⟩ := block_cells m3
  clear m0 m1 m2 m3
  have hil : (p : Int) < (x.pairs.length : Int) := by omega
  have hi0 : (0 : Int) ≤ (p : Int) := by omega
  go_wp2_with fail
  go_region
  all_goals
    go_wp2_with fail
    refine bodyPost_ret (v := .tuple #[valV x.kind x.text x.count (.slice (some ⟨g, 0, none⟩) x.pairs.length pc) (.slice ia x.items.length ic) (.slice sa x.scores.length sc), repV 0 x.pairs[p].2 0 (.slice none 0 0)]) (by simp [results, Tryz.results92, go_sem, c2, c3]) rfl ⟨_, _, rfl, HF.out _ ?_, ⟨_, rfl, RowAt.nil _ _ _, In.nil _ _ _⟩, Keeps.ofBelow ?_⟩
    all_goals
      (repeat (with_reducible first | exact hB1 | refine Below.drew ?_ | refine Below.setCell ?_ ?_ _))
      all_goals (first | omega | (simp <;> omega))

set_option maxHeartbeats 4000000 in
theorem set_add_there (x : Val) (c : Cmd) (p : Nat) (hk : c.k = 11) (hm : x.size ≤ 1048576) (hp : Parts (fun q : ByteArray => cmpS q c.txt) x.items p) (hh : hitB (fun q : ByteArray => cmpS q c.txt) x.items p = true) :
    Does 94 x c x {} := by
  intro B N W ps is ss hBN hN ho op oi os
  have hmL : x.items.length ≤ 140737488355328 := by unfold Val.size at hm; omega
  have hls := ho.lists hm
  have hfin := fun w' (hb : Below W.heap.size W w') => ho.repsA (N := N) (M := W.heap.size) hm hb op oi os
  have n4 : (c.k == 11) = true := by simp [hk]
  obtain ⟨pa, pc, ia, ic, sa, sc, rfl, rfl, rfl⟩ := ho.shapes
  obtain ⟨n0, n1, n2, n3, hb0, hz0⟩ := four_at W (valO x.kind x.text x.count (.slice pa x.pairs.length pc) (.slice ia x.items.length ic) (.slice sa x.scores.length sc)) (cmdC c) (valO 0 ⟨#[]⟩ 0 (.slice none 0 0) (.slice none 0 0) (.slice none 0 0)) (repO 0 ⟨#[]⟩ 0 (.slice none 0 0))
  have hBS := bsearchI c.txt (.slice ia x.items.length ic) x.items p _ ((RowAt.ofOwn lenI ho.i.1 hmL).below hb0) hp
  rw [hh] at hBS
  have HF : Hid (∀ w', Below W.heap.size W w' → RepsA B N W.heap.size w' (valV x.kind x.text x.count (.slice pa x.pairs.length pc) (.slice ia x.items.length ic) (.slice sa x.scores.length sc)) x) := hfin
  clear hp hh hk hfin ho
  go_enter Tryz.func94, Tryz.ntmps94
  go_wp2_with fail
  refine hBS.mono ?_
  rintro e w1 ⟨rfl, hb1⟩
  have hB1 := bstep hb0 hb1
  have hC := addItem_there x.kind x.text x.count pa ia sa x.pairs.length pc x.items.length ic x.scores.length sc p c.txt w1
  unfold Back at hC
  have sz1 : W.heap.size + 4 ≤ w1.heap.size := by rw [← hz0]; exact hb1.size
  have m0 := (hb1.block W.heap.size (by omega)).trans n0
  have m1 := (hb1.block (W.heap.size + 1) (by omega)).trans n1
  have m2 := (hb1.block (W.heap.size + 1 + 1) (by omega)).trans n2
  have m3 := (hb1.block (W.heap.size + 1 + 1 + 1) (by omega)).trans n3
  clear n0 n1 n2 n3 hb1 hBS hz0 hb0 hls
  obtain ⟨c0, f0⟩ := block_cells m0
  obtain ⟨c1, f1⟩ := block_cells m1
  go_wp2_with fail
  refine hC.mono ?_
  rintro e w2 ⟨rfl, hb2⟩
  have hB2 := bstep hB1 hb2
  have sz2 := hb2.size
  obtain ⟨c2, f2⟩ := block_cells ((hb2.block _ (by omega)).trans m2)
  obtain ⟨c3, f3⟩ := block_cells ((hb2.block _ (by omega)).trans m3)
  clear m0 m1 m2 m3 c0 f0 c1 f1 hC hb2
  go_wp2_with fail
  refine bodyPost_ret (v := .tuple #[valV x.kind x.text x.count (.slice pa x.pairs.length pc) (.slice ia x.items.length ic) (.slice sa x.scores.length sc), repV 0 ⟨#[]⟩ 0 (.slice none 0 0)]) (by simp [results, Tryz.results94, go_sem, c2, c3]) rfl ⟨_, _, rfl, HF.out _ ?_, ⟨_, rfl, RowAt.nil _ _ _, In.nil _ _ _⟩, Keeps.ofBelow ?_⟩
  all_goals
    (repeat (with_reducible first | exact hB2 | refine Below.drew ?_ | refine Below.setCell ?_ ?_ _))
    all_goals (first | omega | (simp <;> omega))
set_option maxHeartbeats 4000000 in
theorem set_full (x : Val) (c : Cmd) (p : Nat) (hk : c.k = 11) (hm : x.size ≤ 1048576) (hf : 20 ≤ x.size) (hp : Parts (fun q : ByteArray => cmpS q c.txt) x.items p) (hh : hitB (fun q : ByteArray => cmpS q c.txt) x.items p = false) :
    Does 94 x c x { code := 6 } := by
  intro B N W ps is ss hBN hN ho op oi os
  have hmL : x.items.length ≤ 140737488355328 := by unfold Val.size at hm; omega
  have hls := ho.lists hm
  have hfin := fun w' (hb : Below W.heap.size W w') => ho.repsA (N := N) (M := W.heap.size) hm hb op oi os
  have n4 : (c.k == 11) = true := by simp [hk]
  obtain ⟨pa, pc, ia, ic, sa, sc, rfl, rfl, rfl⟩ := ho.shapes
  obtain ⟨n0, n1, n2, n3, hb0, hz0⟩ := four_at W (valO x.kind x.text x.count (.slice pa x.pairs.length pc) (.slice ia x.items.length ic) (.slice sa x.scores.length sc)) (cmdC c) (valO 0 ⟨#[]⟩ 0 (.slice none 0 0) (.slice none 0 0) (.slice none 0 0)) (repO 0 ⟨#[]⟩ 0 (.slice none 0 0))
  have hBS := bsearchI c.txt (.slice ia x.items.length ic) x.items p _ ((RowAt.ofOwn lenI ho.i.1 hmL).below hb0) hp
  rw [hh] at hBS
  have HF : Hid (∀ w', Below W.heap.size W w' → RepsA B N W.heap.size w' (valV x.kind x.text x.count (.slice pa x.pairs.length pc) (.slice ia x.items.length ic) (.slice sa x.scores.length sc)) x) := hfin
  clear hp hh hk hfin ho
  go_enter Tryz.func94, Tryz.ntmps94
  go_wp2_with fail
  refine hBS.mono ?_
  rintro e w1 ⟨rfl, hb1⟩
  have hB1 := bstep hb0 hb1
  have hC := addItem_full x p c.txt w1 _ _ _ hf (hls.below hB1)
  unfold Back at hC
  have sz1 : W.heap.size + 4 ≤ w1.heap.size := by rw [← hz0]; exact hb1.size
  have m0 := (hb1.block W.heap.size (by omega)).trans n0
  have m1 := (hb1.block (W.heap.size + 1) (by omega)).trans n1
  have m2 := (hb1.block (W.heap.size + 1 + 1) (by omega)).trans n2
  have m3 := (hb1.block (W.heap.size + 1 + 1 + 1) (by omega)).trans n3
  clear n0 n1 n2 n3 hb1 hBS hz0 hb0 hls
  obtain ⟨c0, f0⟩ := block_cells m0
  obtain ⟨c1, f1⟩ := block_cells m1
  go_wp2_with fail
  refine hC.mono ?_
  rintro e w2 ⟨rfl, hb2⟩
  have hB2 := bstep hB1 hb2
  have sz2 := hb2.size
  obtain ⟨c2, f2⟩ := block_cells ((hb2.block _ (by omega)).trans m2)
  obtain ⟨c3, f3⟩ := block_cells ((hb2.block _ (by omega)).trans m3)
  clear m0 m1 m2 m3 c0 f0 c1 f1 hC hb2
  go_wp2_with fail
  refine bodyPost_ret (v := .tuple #[valV x.kind x.text x.count (.slice pa x.pairs.length pc) (.slice ia x.items.length ic) (.slice sa x.scores.length sc), repV 6 ⟨#[]⟩ 0 (.slice none 0 0)]) (by simp [results, Tryz.results94, go_sem, c2, c3]) rfl ⟨_, _, rfl, HF.out _ ?_, ⟨_, rfl, RowAt.nil _ _ _, In.nil _ _ _⟩, Keeps.ofBelow ?_⟩
  all_goals
    (repeat (with_reducible first | exact hB2 | refine Below.drew ?_ | refine Below.setCell ?_ ?_ _))
    all_goals (first | omega | (simp <;> omega))

set_option maxHeartbeats 4000000 in
theorem list_push_full (x : Val) (c : Cmd) (hk : c.k = 7) (hm : x.size ≤ 1048576) (hf : 20 ≤ x.size) : Does 93 x c x { code := 6 } := by
  intro B N W ps is ss hBN hN ho op oi os
  have n7 : (c.k == 7) = true := (by simp [hk])
  have hls := ho.lists hm
  have hfin := fun w' (hb : Below W.heap.size W w') => ho.repsA (N := N) (M := W.heap.size) hm hb op oi os
  obtain ⟨pa, pc, ia, ic, sa, sc, rfl, rfl, rfl⟩ := ho.shapes
  obtain ⟨n0, n1, n2, n3, hb0, hz0⟩ := four_at W (valO x.kind x.text x.count (.slice pa x.pairs.length pc) (.slice ia x.items.length ic) (.slice sa x.scores.length sc)) (cmdC c) (valO 0 ⟨#[]⟩ 0 (.slice none 0 0) (.slice none 0 0) (.slice none 0 0)) (repO 0 ⟨#[]⟩ 0 (.slice none 0 0))
  have hC := insertItem_full x (x.items.length) c.txt _ _ _ _ hf (hls.below hb0)
  unfold Back at hC
  have HF : Hid (∀ w', Below W.heap.size W w' → RepsA B N W.heap.size w' (valV x.kind x.text x.count (.slice pa x.pairs.length pc) (.slice ia x.items.length ic) (.slice sa x.scores.length sc)) x) := hfin
  clear hk ho hfin hls
  go_enter Tryz.func93, Tryz.ntmps93
  go_wp2_with fail
  refine hC.mono ?_
  rintro e w2 ⟨rfl, hb2⟩
  have hB2 := bstep hb0 hb2
  have sz2 := hb2.size
  obtain ⟨c2, f2⟩ := block_cells ((hb2.block _ (by omega)).trans n2)
  obtain ⟨c3, f3⟩ := block_cells ((hb2.block _ (by omega)).trans n3)
  clear n0 n1 n2 n3 hC hb2
  go_wp2_with fail
  refine bodyPost_ret (v := .tuple #[valV x.kind x.text x.count (.slice pa x.pairs.length pc) (.slice ia x.items.length ic) (.slice sa x.scores.length sc), repV 6 ⟨#[]⟩ 0 (.slice none 0 0)]) (by simp [results, Tryz.results93, go_sem, c2, c3]) rfl ⟨_, _, rfl, HF.out _ ?_, ⟨_, rfl, RowAt.nil _ _ _, In.nil _ _ _⟩, Keeps.ofBelow ?_⟩
  all_goals
    (repeat (with_reducible first | exact hB2 | refine Below.drew ?_ | refine Below.setCell ?_ ?_ _))
    all_goals (first | omega | (simp <;> omega))
set_option maxHeartbeats 4000000 in
theorem list_front_full (x : Val) (c : Cmd) (hk : c.k = 8) (hm : x.size ≤ 1048576) (hf : 20 ≤ x.size) : Does 93 x c x { code := 6 } := by
  intro B N W ps is ss hBN hN ho op oi os
  have n7 : (c.k == 7) = false := (by simp [hk]); have n8 : (c.k == 8) = true := (by simp [hk])
  have hls := ho.lists hm
  have hfin := fun w' (hb : Below W.heap.size W w') => ho.repsA (N := N) (M := W.heap.size) hm hb op oi os
  obtain ⟨pa, pc, ia, ic, sa, sc, rfl, rfl, rfl⟩ := ho.shapes
  obtain ⟨n0, n1, n2, n3, hb0, hz0⟩ := four_at W (valO x.kind x.text x.count (.slice pa x.pairs.length pc) (.slice ia x.items.length ic) (.slice sa x.scores.length sc)) (cmdC c) (valO 0 ⟨#[]⟩ 0 (.slice none 0 0) (.slice none 0 0) (.slice none 0 0)) (repO 0 ⟨#[]⟩ 0 (.slice none 0 0))
  have hC := insertItem_full x (0) c.txt _ _ _ _ hf (hls.below hb0)
  unfold Back at hC
  have HF : Hid (∀ w', Below W.heap.size W w' → RepsA B N W.heap.size w' (valV x.kind x.text x.count (.slice pa x.pairs.length pc) (.slice ia x.items.length ic) (.slice sa x.scores.length sc)) x) := hfin
  clear hk ho hfin hls
  go_enter Tryz.func93, Tryz.ntmps93
  go_wp2_with fail
  refine hC.mono ?_
  rintro e w2 ⟨rfl, hb2⟩
  have hB2 := bstep hb0 hb2
  have sz2 := hb2.size
  obtain ⟨c2, f2⟩ := block_cells ((hb2.block _ (by omega)).trans n2)
  obtain ⟨c3, f3⟩ := block_cells ((hb2.block _ (by omega)).trans n3)
  clear n0 n1 n2 n3 hC hb2
  go_wp2_with fail
  refine bodyPost_ret (v := .tuple #[valV x.kind x.text x.count (.slice pa x.pairs.length pc) (.slice ia x.items.length ic) (.slice sa x.scores.length sc), repV 6 ⟨#[]⟩ 0 (.slice none 0 0)]) (by simp [results, Tryz.results93, go_sem, c2, c3]) rfl ⟨_, _, rfl, HF.out _ ?_, ⟨_, rfl, RowAt.nil _ _ _, In.nil _ _ _⟩, Keeps.ofBelow ?_⟩
  all_goals
    (repeat (with_reducible first | exact hB2 | refine Below.drew ?_ | refine Below.setCell ?_ ?_ _))
    all_goals (first | omega | (simp <;> omega))
end Go.Proofs.YtndadgjidihfeaaGreat

/- A field is set: the text of one that is there, or one more. -/
namespace Go.Proofs.YtndadgjidihfeaaGreat
open Go.RowKit
set_option linter.unusedVariables false

set_option maxHeartbeats 8000000 in
theorem setField_new (x : Val) (i : Nat) (t : ByteArray × ByteArray) (hm : x.size < 20) (hi : x.items = []) (hs : x.scores = []) (hl : i ≤ x.pairs.length) (B N : Nat) (W : World) (ps is ss : Value) (hBN : B ≤ N) (hN : N ≤ W.heap.size) (ho : OwnLists B W ps is ss x) (oi : OwnIn N ps) :
    Calls Tryz.prog 110 #[valV x.kind x.text x.count ps is ss, .int .i64 (i : Int), .bool false, valP t] W fun e w' => ∃ v u, e = .returned (.tuple #[v, u]) ∧ RepsA B N W.heap.size w' v { x with pairs := x.pairs.take i ++ t :: x.pairs.drop i } ∧ RepRA B N W.heap.size w' u { n := 1 } ∧ Keeps B N W w' := by
  have hlen20 : x.pairs.length < 20 := by unfold Val.size at hm; omega
  have hrep : Reps W (valV x.kind x.text x.count ps is ss) x := ⟨_, _, _, rfl, ho.lists (by omega)⟩
  obtain rfl := ho.i.2 hi
  obtain rfl := ho.s.2 hs
  obtain ⟨ia, ic, rfl⟩ := ownsRow_shape ho.p.1
  obtain ⟨t1, t2⟩ := t
  obtain ⟨n0, np, n1, n2, hb0, hz0⟩ := four_at W (valO x.kind x.text x.count (.slice ia x.pairs.length ic) (.slice none 0 0) (.slice none 0 0)) (.cells #[.string t1, .string t2] 52) (valO 0 ⟨#[]⟩ 0 (.slice none 0 0) (.slice none 0 0) (.slice none 0 0)) (repO 0 ⟨#[]⟩ 0 (.slice none 0 0))
  have hF := isFull_any _ x _ (hrep.below hb0)
  rw [show decide (20 ≤ x.size) = false by simp; omega] at hF
  have hownW := ho.p
  clear hrep ho
  go_enter Tryz.func110, Tryz.ntmps110
  go_wp2_with fail
  refine hF.mono ?_
  rintro e w1 ⟨rfl, hb1⟩
  have hB1 := bstep hb0 hb1
  have sz1 : W.heap.size + 4 ≤ w1.heap.size := by rw [← hz0]; exact hb1.size
  have m0 := (hb1.block W.heap.size (by omega)).trans n0
  have mp := (hb1.block (W.heap.size + 1) (by omega)).trans np
  have m1 := (hb1.block (W.heap.size + 1 + 1) (by omega)).trans n1
  have m2 := (hb1.block (W.heap.size + 1 + 1 + 1) (by omega)).trans n2
  have hw1 := (hownW.kept hB1).1
  clear n0 n1 n2 np hb1 hF hz0 hb0
  obtain ⟨c0, f0⟩ := block_cells m0
  obtain ⟨cp, fp⟩ := block_cells mp
  go_wp2_with fail
  have hnew : (w1.alloc (.cells #[.string t1, .string t2] 52)).heap[w1.heap.size]? = some (.cells #[.string t1, .string t2] 52 (0, 0)) := by show ((_ : Array Obj).push _)[_]? = _; simp
  have hwl := (hownW.kept (hB1.alloc hB1.size (.cells #[.string t1, .string t2] 52))).1
  have hI := insertP_any B i (.slice ia x.pairs.length ic) x.pairs (t1, t2) w1.heap.size (w1.alloc (.cells #[.string t1, .string t2] 52)) hwl (by simp; omega) hl (by omega) hnew (fun k hk e => by have := oi k hk; omega)
  refine hI.mono ?_
  rintro e w2 ⟨r, rfl, ho2, hg2, hrb⟩
  obtain ⟨a2, c2, rfl⟩ := ownsRow_shape ho2
  have hnb : ∀ k, W.heap.size ≤ k → some k ≠ (Value.slice ia x.pairs.length ic).ownBlock := fun k hk e => by have := oi _ e.symm; omega
  have hK : Keeps B N W w2 := (Keeps.ofBelow (hB1.alloc hB1.size (.cells #[.string t1, .string t2] 52))).trans (Keeps.grown hg2 (fun k hk => ⟨(hwl.lt k hk).1, oi k hk⟩))
  have sz2 : w1.heap.size + 1 ≤ w2.heap.size := by have := hg2.size; simp at this; omega
  have k0 := (hg2.block W.heap.size (by simp; omega) (hnb _ (by omega))).trans ((Below.heap_alloc _ _ _ (by omega)).trans m0)
  have k2 := (hg2.block (W.heap.size + 1 + 1) (by simp; omega) (hnb _ (by omega))).trans ((Below.heap_alloc _ _ _ (by omega)).trans m1)
  have k3 := (hg2.block (W.heap.size + 1 + 1 + 1) (by simp; omega) (hnb _ (by omega))).trans ((Below.heap_alloc _ _ _ (by omega)).trans m2)
  have e0 := own_ne ho2 k0 (by decide)
  have e2 := own_ne ho2 k2 (by decide)
  have e3 := own_ne ho2 k3 (by decide)
  have hlen : (x.pairs.take i ++ (t1, t2) :: x.pairs.drop i).length = x.pairs.length + 1 := by simp; omega
  have HIN : Hid (In B N W.heap.size (.slice a2 (x.pairs.length + 1) c2)) := (fun k hk => ⟨(ho2.lt k hk).1, by rcases hrb k hk with h | h; exact .inl (oi k h); exact .inr (by simp at h; omega)⟩ : In B N W.heap.size (.slice a2 (x.pairs.length + 1) c2))
  obtain ⟨L, hL⟩ : ∃ L, L = x.pairs.take i ++ (t1, t2) :: x.pairs.drop i := ⟨_, rfl⟩
  rw [← hL] at ho2 hlen
  have HLI : Hid (L = x.pairs.take i ++ (t1, t2) :: x.pairs.drop i) := hL
  have HO : Hid (w2.ownsRow B 52 2 (.slice a2 (x.pairs.length + 1) c2) L.length (L.flatMap encP)) := (by rw [hlen]; exact ho2 : w2.ownsRow B 52 2 (.slice a2 (x.pairs.length + 1) c2) L.length (L.flatMap encP))
  have HE : Hid ((Value.slice a2 (x.pairs.length + 1) c2).ownBlock ≠ some W.heap.size ∧ (Value.slice a2 (x.pairs.length + 1) c2).ownBlock ≠ some (W.heap.size + 1 + 1) ∧ (Value.slice a2 (x.pairs.length + 1) c2).ownBlock ≠ some (W.heap.size + 1 + 1 + 1)) := ⟨e0, e2, e3⟩
  have HK : Hid (Keeps B N W w2) := hK
  have HL : Hid (L.length ≤ 140737488355328) := (by rw [hlen]; omega : L.length ≤ 140737488355328)
  clear m0 m1 m2 mp cp fp c0 f0 hg2 hnb hK e0 e2 e3 ho2 hlen hrb hL hI hwl hw1 hownW hnew
  obtain ⟨c0, f0⟩ := block_cells k0
  obtain ⟨c2', f2⟩ := block_cells k2
  obtain ⟨c3, f3⟩ := block_cells k3
  clear k0 k2 k3
  have q0 : W.heap.size < w2.heap.size := by omega
  go_wp2_with fail
  go_region_with (go_at_call 112; refine (number_any _ _).mono ?_; rintro e w3 ⟨rfl, rfl⟩)
  all_goals
    go_wp2_with fail
    refine bodyPost_ret (v := .tuple #[valV x.kind x.text x.count (.slice a2 (x.pairs.length + 1) c2) (.slice none 0 0) (.slice none 0 0), repV 0 ⟨#[]⟩ 1 (.slice none 0 0)]) (by simp [results, Tryz.results110, go_sem, c2', c3]) rfl ?_
    rw [← HLI.out]
    refine ⟨_, _, rfl, ⟨_, _, _, rfl, ⟨RowAt.ofOwn lenP (base := B) (e := 52) ?_ HL.out, (by show RowAt 1 encI _ (.slice none 0 0) x.items; rw [hi]; exact RowAt.nil _ _ _), (by show RowAt 2 encS _ (.slice none 0 0) x.scores; rw [hs]; exact RowAt.nil _ _ _)⟩, ?_, In.nil _ _ _, In.nil _ _ _⟩, ⟨_, rfl, RowAt.nil _ _ _, In.nil _ _ _⟩, ?_⟩
    · refine own_drew ?_
      (iterate 11 (refine own_set ?_ (by first | exact HE.out.1 | exact HE.out.2.1 | exact HE.out.2.2) _))
      exact HO.out
    · exact HIN.out
    · refine Keeps.drew ?_
      (iterate 11 (refine Keeps.setCell ?_ (by first | omega | (simp <;> omega)) _))
      exact HK.out

theorem flat_set {α : Type} {enc : α → List Value} (a b : Value) (t : α) (ht : enc t = [a, b]) (hk : ∀ x, (enc x).length = 2) : ∀ (l : List α) (i : Nat) (S : List Value), i < l.length → (((l.flatMap enc) ++ S).set (i * 2) a).set (i * 2 + 1) b = (l.set i t).flatMap enc ++ S
  | [], i, S, h => by simp at h
  | x :: r, 0, S, h => by
    obtain ⟨u, v, e⟩ : ∃ u v, enc x = [u, v] := by
      have := hk x
      match enc x, this with
      | [u, v], _ => exact ⟨u, v, rfl⟩
    simp [e, ht]
  | x :: r, i + 1, S, h => by
    obtain ⟨u, v, e⟩ : ∃ u v, enc x = [u, v] := by
      have := hk x
      match enc x, this with
      | [u, v], _ => exact ⟨u, v, rfl⟩
    have := flat_set a b t ht hk r i S (by simpa using h)
    rw [List.flatMap_cons, e, List.set_cons_succ, List.flatMap_cons, e, show (i + 1) * 2 = i * 2 + 1 + 1 by omega]
    simp only [List.cons_append, List.nil_append, List.set_cons_succ]
    rw [this]
theorem store_two {W : World} {g : Nat} {L : List Value} {e : TypeId} (h : W.heap[g]? = some (.cells L.toArray e (0, 0))) (o : Nat) (a b : Value) :
    ((W.setCell ⟨g, o, none⟩ a).setCell ⟨g, o + 1, none⟩ b).heap[g]? = some (.cells ((L.set o a).set (o + 1) b).toArray e (0, 0)) := by
  rw [Go.heap_setCell_same _ g (o + 1) _ e b (Go.heap_setCell_same _ g o _ e a h)]
  simp

set_option maxHeartbeats 8000000 in
theorem setField_old (x : Val) (i : Nat) (t : ByteArray × ByteArray) (hm : x.size ≤ 1048576) (hi : x.items = []) (hs : x.scores = []) (hl : i < x.pairs.length) (B N : Nat) (W : World) (ps is ss : Value) (hBN : B ≤ N) (hN : N ≤ W.heap.size) (ho : OwnLists B W ps is ss x) (oi : OwnIn N ps) :
    Calls Tryz.prog 110 #[valV x.kind x.text x.count ps is ss, .int .i64 (i : Int), .bool true, valP t] W fun e w' => ∃ v u, e = .returned (.tuple #[v, u]) ∧ RepsA B N W.heap.size w' v { x with pairs := x.pairs.set i t } ∧ RepRA B N W.heap.size w' u {} ∧ Keeps B N W w' := by
  have hmL : x.pairs.length ≤ 1048576 := by unfold Val.size at hm; omega
  obtain rfl := ho.i.2 hi
  obtain rfl := ho.s.2 hs
  obtain ⟨g, ic, S, rfl, hgB, hgb, hc1, hc2, hc3⟩ := own_open ho.p.1 (by omega)
  obtain ⟨t1, t2⟩ := t
  obtain ⟨n0, np, n1, n2, hb0, hz0⟩ := four_at W (valO x.kind x.text x.count (.slice (some ⟨g, 0, none⟩) x.pairs.length ic) (.slice none 0 0) (.slice none 0 0)) (.cells #[.string t1, .string t2] 52) (valO 0 ⟨#[]⟩ 0 (.slice none 0 0) (.slice none 0 0) (.slice none 0 0)) (repO 0 ⟨#[]⟩ 0 (.slice none 0 0))
  have hgl : g < W.heap.size := (Array.getElem?_eq_some_iff.1 hgb).1
  have hgN : g < N := oi g rfl
  have hil : (i : Int) < (x.pairs.length : Int) := by omega
  have hi0 : (0 : Int) ≤ (i : Int) := by omega
  have hgb' := (hb0.block g hgl).trans hgb
  have fg : ∀ o, ((((W.alloc (valO x.kind x.text x.count (.slice (some ⟨g, 0, none⟩) x.pairs.length ic) (.slice none 0 0) (.slice none 0 0))).alloc (.cells #[.string t1, .string t2] 52)).alloc (valO 0 ⟨#[]⟩ 0 (.slice none 0 0) (.slice none 0 0) (.slice none 0 0))).alloc (repO 0 ⟨#[]⟩ 0 (.slice none 0 0))).frozen? ⟨g, o, none⟩ = false := (block_cells hgb').2
  have cA : ((((W.alloc (valO x.kind x.text x.count (.slice (some ⟨g, 0, none⟩) x.pairs.length ic) (.slice none 0 0) (.slice none 0 0))).alloc (.cells #[.string t1, .string t2] 52)).alloc (valO 0 ⟨#[]⟩ 0 (.slice none 0 0) (.slice none 0 0) (.slice none 0 0))).alloc (repO 0 ⟨#[]⟩ 0 (.slice none 0 0))).cell? ⟨g, i * 2, none⟩ = some (.string x.pairs[i].1) := by
    rw [(block_cells hgb').1 (i * 2)]
    have := flat_get 2 encP lenP x.pairs i hl 0 (by omega)
    rw [List.getElem?_toArray, List.getElem?_append_left (by rw [flat_length lenP]; omega)]
    simpa [encP] using this
  have cB : ((((W.alloc (valO x.kind x.text x.count (.slice (some ⟨g, 0, none⟩) x.pairs.length ic) (.slice none 0 0) (.slice none 0 0))).alloc (.cells #[.string t1, .string t2] 52)).alloc (valO 0 ⟨#[]⟩ 0 (.slice none 0 0) (.slice none 0 0) (.slice none 0 0))).alloc (repO 0 ⟨#[]⟩ 0 (.slice none 0 0))).cell? ⟨g, i * 2 + 1, none⟩ = some (.string x.pairs[i].2) := by
    rw [(block_cells hgb').1 (i * 2 + 1)]
    have := flat_get 2 encP lenP x.pairs i hl 1 (by omega)
    rw [List.getElem?_toArray, List.getElem?_append_left (by rw [flat_length lenP]; omega)]
    simpa [encP] using this
  have q1 : g ≠ W.heap.size := by omega
  have q2 : g ≠ W.heap.size + 1 := by omega
  have q3 : g ≠ W.heap.size + 1 + 1 := by omega
  have q4 : g ≠ W.heap.size + 1 + 1 + 1 := by omega
  go_enter Tryz.func110, Tryz.ntmps110
  go_wp2_with fail
  have ksame := store_two hgb' (i * 2) (.string t1) (.string t2)
  rw [flat_set (.string t1) (.string t2) (t1, t2) rfl lenP x.pairs i S hl] at ksame
  clear cA cB fg
  generalize ((((W.alloc (valO x.kind x.text x.count (.slice (some ⟨g, 0, none⟩) x.pairs.length ic) (.slice none 0 0) (.slice none 0 0))).alloc (.cells #[.string t1, .string t2] 52)).alloc (valO 0 ⟨#[]⟩ 0 (.slice none 0 0) (.slice none 0 0) (.slice none 0 0))).alloc (repO 0 ⟨#[]⟩ 0 (.slice none 0 0))) = W0 at n0 np n1 n2 hb0 hz0 hgb' ksame ⊢
  have hoth : ∀ k, k ≠ g → ((W0.setCell ⟨g, i * 2, none⟩ (.string t1)).setCell ⟨g, i * 2 + 1, none⟩ (.string t2)).heap[k]? = W0.heap[k]? := fun k hk => (Below.heap_setCell _ _ _ _ hk).trans (Below.heap_setCell _ _ _ _ hk)
  have hK : Keeps B N W ((W0.setCell ⟨g, i * 2, none⟩ (.string t1)).setCell ⟨g, i * 2 + 1, none⟩ (.string t2)) := (Keeps.ofBelow hb0).trans ⟨rfl, rfl, rfl, by simp [World.setCell], fun k hk ho => hoth k (by omega)⟩
  have sz2 : ((W0.setCell ⟨g, i * 2, none⟩ (.string t1)).setCell ⟨g, i * 2 + 1, none⟩ (.string t2)).heap.size = W.heap.size + 4 := by simpa [World.setCell] using hz0
  generalize (W0.setCell ⟨g, i * 2, none⟩ (.string t1)).setCell ⟨g, i * 2 + 1, none⟩ (.string t2) = w2 at ksame hoth hK sz2 ⊢
  have k0 := (hoth _ (by omega)).trans n0
  have k2 := (hoth _ (by omega)).trans n1
  have k3 := (hoth _ (by omega)).trans n2
  obtain ⟨L, hL⟩ : ∃ L, L = x.pairs.set i (t1, t2) := ⟨_, rfl⟩
  have hlen : L.length = x.pairs.length := by rw [hL]; simp
  have ho2 : w2.ownsRow B 52 2 (.slice (some ⟨g, 0, none⟩) x.pairs.length ic) L.length (L.flatMap encP) := by
    rw [hlen]
    refine own_mk (S := S) (by rw [flat_length lenP, hlen]) hgB (by rw [hL]; exact ksame) hc1 hc2 ?_
    rw [List.length_append, flat_length lenP] at hc3 ⊢
    rw [hlen]; exact hc3
  have e0 := own_ne ho2 k0 (by decide)
  have e2 := own_ne ho2 k2 (by decide)
  have e3 := own_ne ho2 k3 (by decide)
  have HLI : Hid (L = x.pairs.set i (t1, t2)) := hL
  have HIN : Hid (In B N W.heap.size (.slice (some ⟨g, 0, none⟩) x.pairs.length ic)) := (fun k hk => ⟨(ho2.lt k hk).1, .inl (oi k hk)⟩ : In B N W.heap.size (.slice (some ⟨g, 0, none⟩) x.pairs.length ic))
  have HO : Hid (w2.ownsRow B 52 2 (.slice (some ⟨g, 0, none⟩) x.pairs.length ic) L.length (L.flatMap encP)) := ho2
  have HE : Hid ((Value.slice (some ⟨g, 0, none⟩) x.pairs.length ic).ownBlock ≠ some W.heap.size ∧ (Value.slice (some ⟨g, 0, none⟩) x.pairs.length ic).ownBlock ≠ some (W.heap.size + 1 + 1) ∧ (Value.slice (some ⟨g, 0, none⟩) x.pairs.length ic).ownBlock ≠ some (W.heap.size + 1 + 1 + 1)) := ⟨e0, e2, e3⟩
  have HK : Hid (Keeps B N W w2) := hK
  have HL : Hid (L.length ≤ 140737488355328) := (by rw [hlen]; omega : L.length ≤ 140737488355328)
  have HLL : Hid (L.length = x.pairs.length) := hlen
  clear n0 n1 n2 np hoth hK e0 e2 e3 ho2 hlen hL hgb hgb' ksame hc3 ho hb0 hz0
  obtain ⟨c0, f0⟩ := block_cells k0
  obtain ⟨c2', f2⟩ := block_cells k2
  obtain ⟨c3, f3⟩ := block_cells k3
  clear k0 k2 k3
  have q0 : W.heap.size < w2.heap.size := by omega
  go_region_with (go_at_call 112; refine (number_any _ _).mono ?_; rintro e w3 ⟨rfl, rfl⟩)
  all_goals
    go_wp2_with fail
    refine bodyPost_ret (v := .tuple #[valV x.kind x.text x.count (.slice (some ⟨g, 0, none⟩) x.pairs.length ic) (.slice none 0 0) (.slice none 0 0), repV 0 ⟨#[]⟩ 0 (.slice none 0 0)]) (by simp [results, Tryz.results110, go_sem, c2', c3]) rfl ?_
    rw [← HLI.out]
    refine ⟨_, _, rfl, ⟨_, _, _, rfl, ⟨RowAt.ofOwn lenP (base := B) (e := 52) ?_ HL.out, (by show RowAt 1 encI _ (.slice none 0 0) x.items; rw [hi]; exact RowAt.nil _ _ _), (by show RowAt 2 encS _ (.slice none 0 0) x.scores; rw [hs]; exact RowAt.nil _ _ _)⟩, ?_, In.nil _ _ _, In.nil _ _ _⟩, ⟨_, rfl, RowAt.nil _ _ _, In.nil _ _ _⟩, ?_⟩
    · refine own_drew ?_
      (iterate 10 (refine own_set ?_ (by first | exact HE.out.1 | exact HE.out.2.1 | exact HE.out.2.2) _))
      exact HO.out
    · exact HIN.out
    · refine Keeps.drew ?_
      (iterate 10 (refine Keeps.setCell ?_ (by first | omega | (simp <;> omega)) _))
      exact HK.out

set_option maxHeartbeats 8000000 in
theorem hash_set_new (x : Val) (c : Cmd) (p : Nat) (hk : c.k = 4) (hm : x.size < 20) (hi : x.items = []) (hs : x.scores = []) (hp : Parts (fun q : ByteArray × ByteArray => cmpS q.1 c.fld) x.pairs p) (hh : hitB (fun q : ByteArray × ByteArray => cmpS q.1 c.fld) x.pairs p = false) :
    Does 92 x c { x with pairs := x.pairs.take p ++ (c.fld, c.txt) :: x.pairs.drop p } { n := 1 } := by
  intro B N W ps is ss hBN hN ho op oi os
  have n4 : (c.k == 4) = true := by simp [hk]
  have hpl : p ≤ x.pairs.length := hp.1
  have hmL : x.pairs.length ≤ 140737488355328 := by unfold Val.size at hm; omega
  obtain rfl := ho.i.2 hi
  obtain rfl := ho.s.2 hs
  obtain ⟨ia, ic, rfl⟩ := ownsRow_shape ho.p.1
  obtain ⟨n0, n1, n2, n3, hb0, hz0⟩ := four_at W (valO x.kind x.text x.count (.slice ia x.pairs.length ic) (.slice none 0 0) (.slice none 0 0)) (cmdC c) (valO 0 ⟨#[]⟩ 0 (.slice none 0 0) (.slice none 0 0) (.slice none 0 0)) (repO 0 ⟨#[]⟩ 0 (.slice none 0 0))
  have hBS := bsearchP 109 #[] c.fld (fun q => cmpS q.1 c.fld) pairCmp_enter (.slice ia x.pairs.length ic) x.pairs p _ ((RowAt.ofOwn lenP ho.p.1 hmL).below hb0) (pairCmp_of c.fld _) hp
  rw [hh] at hBS
  clear hp hh hk
  go_enter Tryz.func92, Tryz.ntmps92
  go_wp2_with fail
  refine hBS.mono ?_
  rintro e w1 ⟨rfl, hb1⟩
  have hB1 := bstep hb0 hb1
  have sz1 : W.heap.size + 4 ≤ w1.heap.size := by rw [← hz0]; exact hb1.size
  have m0 := (hb1.block W.heap.size (by omega)).trans n0
  have m1 := (hb1.block (W.heap.size + 1) (by omega)).trans n1
  have m2 := (hb1.block (W.heap.size + 1 + 1) (by omega)).trans n2
  have m3 := (hb1.block (W.heap.size + 1 + 1 + 1) (by omega)).trans n3
  have hR := setField_new x p (c.fld, c.txt) hm hi hs hpl B N w1 _ _ _ hBN (by omega) (ho.kept hB1) op
  clear n0 n1 n2 n3 hb1 hBS hb0 ho hi hs
  obtain ⟨c0, f0⟩ := block_cells m0
  obtain ⟨c1, f1⟩ := block_cells m1
  go_wp2_with fail
  refine hR.mono ?_
  rintro e w2 ⟨v2, u2, rfl, hr2, hu2, hK2⟩
  generalize hY : ({ x with pairs := x.pairs.take p ++ (c.fld, c.txt) :: x.pairs.drop p } : Val) = y at hr2
  have HY : Hid (({ x with pairs := x.pairs.take p ++ (c.fld, c.txt) :: x.pairs.drop p } : Val) = y) := hY
  clear hY
  obtain ⟨pa2, pc2, ia2, ic2, sa2, sc2, rfl⟩ := hr2.repsF.reps.shapes
  obtain ⟨la2, lc2, rfl⟩ := hu2.repRF.rep.shapes
  have k2 := (hK2.block (W.heap.size + 1 + 1) (by omega) (.inr (by omega))).trans m2
  have k3 := (hK2.block (W.heap.size + 1 + 1 + 1) (by omega) (.inr (by omega))).trans m3
  have sz2 := hK2.size
  have hK : Keeps B N W w2 := (Keeps.ofBelow hB1).trans hK2
  have HK : Hid (Keeps B N W w2) := hK
  clear m0 m1 m2 m3 c0 f0 c1 f1 hR hK2 hK
  obtain ⟨c2, f2⟩ := block_cells k2
  obtain ⟨c3, f3⟩ := block_cells k3
  clear k2 k3
  go_wp2_with fail
  refine bodyPost_ret (v := .tuple #[_, _]) (by simp [results, Tryz.results92, go_sem, c2, c3]; exact ⟨rfl, rfl⟩) rfl ⟨_, _, rfl, ?_, ?_, ?_⟩
  · rw [HY.out]
    refine RepsA.mono (N := N) (M := w1.heap.size) ?_ (Nat.le_refl _) (by omega)
    (iterate 10 (refine RepsA.set ?_ (by first | omega | (simp <;> omega)) (by first | omega | (simp <;> omega)) _))
    exact hr2
  · refine RepRA.mono (N := N) (M := w1.heap.size) ?_ (Nat.le_refl _) (by omega)
    (iterate 10 (refine RepRA.set ?_ (by first | omega | (simp <;> omega)) (by first | omega | (simp <;> omega)) _))
    exact hu2
  · (iterate 10 (refine Keeps.setCell ?_ (by first | omega | (simp <;> omega)) _))
    exact HK.out
set_option maxHeartbeats 8000000 in
theorem hash_set_old (x : Val) (c : Cmd) (p : Nat) (hk : c.k = 4) (hm : x.size ≤ 1048576) (hpl : p < x.pairs.length) (hi : x.items = []) (hs : x.scores = []) (hp : Parts (fun q : ByteArray × ByteArray => cmpS q.1 c.fld) x.pairs p) (hh : hitB (fun q : ByteArray × ByteArray => cmpS q.1 c.fld) x.pairs p = true) :
    Does 92 x c { x with pairs := x.pairs.set p (c.fld, c.txt) } {} := by
  intro B N W ps is ss hBN hN ho op oi os
  have n4 : (c.k == 4) = true := by simp [hk]
  skip
  have hmL : x.pairs.length ≤ 140737488355328 := by unfold Val.size at hm; omega
  obtain rfl := ho.i.2 hi
  obtain rfl := ho.s.2 hs
  obtain ⟨ia, ic, rfl⟩ := ownsRow_shape ho.p.1
  obtain ⟨n0, n1, n2, n3, hb0, hz0⟩ := four_at W (valO x.kind x.text x.count (.slice ia x.pairs.length ic) (.slice none 0 0) (.slice none 0 0)) (cmdC c) (valO 0 ⟨#[]⟩ 0 (.slice none 0 0) (.slice none 0 0) (.slice none 0 0)) (repO 0 ⟨#[]⟩ 0 (.slice none 0 0))
  have hBS := bsearchP 109 #[] c.fld (fun q => cmpS q.1 c.fld) pairCmp_enter (.slice ia x.pairs.length ic) x.pairs p _ ((RowAt.ofOwn lenP ho.p.1 hmL).below hb0) (pairCmp_of c.fld _) hp
  rw [hh] at hBS
  clear hp hh hk
  go_enter Tryz.func92, Tryz.ntmps92
  go_wp2_with fail
  refine hBS.mono ?_
  rintro e w1 ⟨rfl, hb1⟩
  have hB1 := bstep hb0 hb1
  have sz1 : W.heap.size + 4 ≤ w1.heap.size := by rw [← hz0]; exact hb1.size
  have m0 := (hb1.block W.heap.size (by omega)).trans n0
  have m1 := (hb1.block (W.heap.size + 1) (by omega)).trans n1
  have m2 := (hb1.block (W.heap.size + 1 + 1) (by omega)).trans n2
  have m3 := (hb1.block (W.heap.size + 1 + 1 + 1) (by omega)).trans n3
  have hR := setField_old x p (c.fld, c.txt) hm hi hs hpl B N w1 _ _ _ hBN (by omega) (ho.kept hB1) op
  clear n0 n1 n2 n3 hb1 hBS hb0 ho hi hs
  obtain ⟨c0, f0⟩ := block_cells m0
  obtain ⟨c1, f1⟩ := block_cells m1
  go_wp2_with fail
  refine hR.mono ?_
  rintro e w2 ⟨v2, u2, rfl, hr2, hu2, hK2⟩
  generalize hY : ({ x with pairs := x.pairs.set p (c.fld, c.txt) } : Val) = y at hr2
  have HY : Hid (({ x with pairs := x.pairs.set p (c.fld, c.txt) } : Val) = y) := hY
  clear hY
  obtain ⟨pa2, pc2, ia2, ic2, sa2, sc2, rfl⟩ := hr2.repsF.reps.shapes
  obtain ⟨la2, lc2, rfl⟩ := hu2.repRF.rep.shapes
  have k2 := (hK2.block (W.heap.size + 1 + 1) (by omega) (.inr (by omega))).trans m2
  have k3 := (hK2.block (W.heap.size + 1 + 1 + 1) (by omega) (.inr (by omega))).trans m3
  have sz2 := hK2.size
  have hK : Keeps B N W w2 := (Keeps.ofBelow hB1).trans hK2
  have HK : Hid (Keeps B N W w2) := hK
  clear m0 m1 m2 m3 c0 f0 c1 f1 hR hK2 hK
  obtain ⟨c2, f2⟩ := block_cells k2
  obtain ⟨c3, f3⟩ := block_cells k3
  clear k2 k3
  go_wp2_with fail
  refine bodyPost_ret (v := .tuple #[_, _]) (by simp [results, Tryz.results92, go_sem, c2, c3]; exact ⟨rfl, rfl⟩) rfl ⟨_, _, rfl, ?_, ?_, ?_⟩
  · rw [HY.out]
    refine RepsA.mono (N := N) (M := w1.heap.size) ?_ (Nat.le_refl _) (by omega)
    (iterate 10 (refine RepsA.set ?_ (by first | omega | (simp <;> omega)) (by first | omega | (simp <;> omega)) _))
    exact hr2
  · refine RepRA.mono (N := N) (M := w1.heap.size) ?_ (Nat.le_refl _) (by omega)
    (iterate 10 (refine RepRA.set ?_ (by first | omega | (simp <;> omega)) (by first | omega | (simp <;> omega)) _))
    exact hu2
  · (iterate 10 (refine Keeps.setCell ?_ (by first | omega | (simp <;> omega)) _))
    exact HK.out

set_option maxHeartbeats 4000000 in
theorem hash_full (x : Val) (c : Cmd) (p : Nat) (hk : c.k = 4) (hm : x.size ≤ 1048576) (hf : 20 ≤ x.size) (hp : Parts (fun q : ByteArray × ByteArray => cmpS q.1 c.fld) x.pairs p) (hh : hitB (fun q : ByteArray × ByteArray => cmpS q.1 c.fld) x.pairs p = false) :
    Does 92 x c x { code := 6 } := by
  intro B N W ps is ss hBN hN ho op oi os
  have hmL : x.pairs.length ≤ 140737488355328 := by unfold Val.size at hm; omega
  have hls := ho.lists hm
  have hfin := fun w' (hb : Below W.heap.size W w') => ho.repsA (N := N) (M := W.heap.size) hm hb op oi os
  have n4 : (c.k == 4) = true := by simp [hk]
  obtain ⟨pa, pc, ia, ic, sa, sc, rfl, rfl, rfl⟩ := ho.shapes
  obtain ⟨n0, n1, n2, n3, hb0, hz0⟩ := four_at W (valO x.kind x.text x.count (.slice pa x.pairs.length pc) (.slice ia x.items.length ic) (.slice sa x.scores.length sc)) (cmdC c) (valO 0 ⟨#[]⟩ 0 (.slice none 0 0) (.slice none 0 0) (.slice none 0 0)) (repO 0 ⟨#[]⟩ 0 (.slice none 0 0))
  have hBS := bsearchP 109 #[] c.fld (fun q => cmpS q.1 c.fld) pairCmp_enter (.slice pa x.pairs.length pc) x.pairs p _ ((RowAt.ofOwn lenP ho.p.1 hmL).below hb0) (pairCmp_of c.fld _) hp
  rw [hh] at hBS
  have HF : Hid (∀ w', Below W.heap.size W w' → RepsA B N W.heap.size w' (valV x.kind x.text x.count (.slice pa x.pairs.length pc) (.slice ia x.items.length ic) (.slice sa x.scores.length sc)) x) := hfin
  clear hp hh hk hfin ho
  go_enter Tryz.func92, Tryz.ntmps92
  go_wp2_with fail
  refine hBS.mono ?_
  rintro e w1 ⟨rfl, hb1⟩
  have hB1 := bstep hb0 hb1
  have hC := setField_full x p (c.fld, c.txt) w1 _ _ _ hf (hls.below hB1)
  unfold Back at hC
  have sz1 : W.heap.size + 4 ≤ w1.heap.size := by rw [← hz0]; exact hb1.size
  have m0 := (hb1.block W.heap.size (by omega)).trans n0
  have m1 := (hb1.block (W.heap.size + 1) (by omega)).trans n1
  have m2 := (hb1.block (W.heap.size + 1 + 1) (by omega)).trans n2
  have m3 := (hb1.block (W.heap.size + 1 + 1 + 1) (by omega)).trans n3
  clear n0 n1 n2 n3 hb1 hBS hz0 hb0 hls
  obtain ⟨c0, f0⟩ := block_cells m0
  obtain ⟨c1, f1⟩ := block_cells m1
  go_wp2_with fail
  refine hC.mono ?_
  rintro e w2 ⟨rfl, hb2⟩
  have hB2 := bstep hB1 hb2
  have sz2 := hb2.size
  obtain ⟨c2, f2⟩ := block_cells ((hb2.block _ (by omega)).trans m2)
  obtain ⟨c3, f3⟩ := block_cells ((hb2.block _ (by omega)).trans m3)
  clear m0 m1 m2 m3 c0 f0 c1 f1 hC hb2
  go_wp2_with fail
  refine bodyPost_ret (v := .tuple #[valV x.kind x.text x.count (.slice pa x.pairs.length pc) (.slice ia x.items.length ic) (.slice sa x.scores.length sc), repV 6 ⟨#[]⟩ 0 (.slice none 0 0)]) (by simp [results, Tryz.results92, go_sem, c2, c3]) rfl ⟨_, _, rfl, HF.out _ ?_, ⟨_, rfl, RowAt.nil _ _ _, In.nil _ _ _⟩, Keeps.ofBelow ?_⟩
  all_goals
    (repeat (with_reducible first | exact hB2 | refine Below.drew ?_ | refine Below.setCell ?_ ?_ _))
    all_goals (first | omega | (simp <;> omega))
end Go.Proofs.YtndadgjidihfeaaGreat
