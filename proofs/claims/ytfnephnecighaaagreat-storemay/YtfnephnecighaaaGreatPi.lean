/- What is read from a value's own lists: a field's text, whether a text is there; and that there is no room. -/
import Derived.Test.YtfnephnecighaaaGreatPh
namespace Go.Proofs.YtfnephnecighaaaGreat
open Go.RowKit
set_option linter.unusedVariables false

/-- A value comes back as it was, beside a reply of a code alone. -/
def Back (f : FuncId) (args : Array Value) (v : Value) (code : Int) (w : World) : Prop := Calls Tryz.prog f args w fun e w' => e = .returned (.tuple #[v, repV code ⟨#[]⟩ 0 (.slice none 0 0)]) ∧ Below w.heap.size w w'

set_option maxHeartbeats 1000000 in
theorem addItem_there (kind : Int) (text : ByteArray) (count : Int) (pa ia sa : Option Addr) (np pc ni ic ns sc : Nat) (i : Int) (t : ByteArray) (w : World) :
    Back 137 #[valV kind text count (.slice pa np pc) (.slice ia ni ic) (.slice sa ns sc), .int .i64 i, .bool true, .string t] (valV kind text count (.slice pa np pc) (.slice ia ni ic) (.slice sa ns sc)) 0 w := by
  unfold Back
  go_enter Tryz.func137, Tryz.ntmps137
  go_wp2_with fail
  refine bodyPost_ret (v := .tuple #[valV kind text count (.slice pa np pc) (.slice ia ni ic) (.slice sa ns sc), repV 0 ⟨#[]⟩ 0 (.slice none 0 0)]) (by simp [results, Tryz.results137, go_sem]) rfl ⟨rfl, ?_⟩
  (repeat (with_reducible first | exact balloc _ _ | refine Below.drew ?_ | refine Below.setCell ?_ ?_ _ | refine Below.alloc ?_ ?_ _))
  all_goals (first | omega | (simp <;> omega))

set_option maxHeartbeats 1000000 in
theorem addItem_full (x : Val) (i : Int) (t : ByteArray) (W : World) (ps is ss : Value) (hm : 20 ≤ x.size) (hl : Lists W ps is ss x) :
    Back 137 #[valV x.kind x.text x.count ps is ss, .int .i64 i, .bool false, .string t] (valV x.kind x.text x.count ps is ss) 6 W := by
  have hrep : Reps W (valV x.kind x.text x.count ps is ss) x := ⟨_, _, _, rfl, hl⟩
  unfold Back
  obtain ⟨pa, pc, ia, ic, sa, sc, rfl, rfl, rfl⟩ := hl.shapes
  obtain ⟨n0, n1, n2, hb0, hz0⟩ := three_at W (valO x.kind x.text x.count (.slice pa x.pairs.length pc) (.slice ia x.items.length ic) (.slice sa x.scores.length sc)) (valO 0 ⟨#[]⟩ 0 (.slice none 0 0) (.slice none 0 0) (.slice none 0 0)) (repO 0 ⟨#[]⟩ 0 (.slice none 0 0))
  have hF := isFull_any _ x _ (hrep.below hb0)
  rw [show decide (20 ≤ x.size) = true by simpa using hm] at hF
  clear hrep hl
  go_enter Tryz.func137, Tryz.ntmps137
  go_wp2_with fail
  refine hF.mono ?_
  rintro e w1 ⟨rfl, hb1⟩
  have hB1 := bstep hb0 hb1
  have sz1 : W.heap.size + 3 ≤ w1.heap.size := by rw [← hz0]; exact hb1.size
  have m0 := (hb1.block W.heap.size (by omega)).trans n0
  have m1 := (hb1.block (W.heap.size + 1) (by omega)).trans n1
  have m2 := (hb1.block (W.heap.size + 1 + 1) (by omega)).trans n2
  clear n0 n1 n2 hb1 hF hz0 hb0
  obtain ⟨c0, f0⟩ := block_cells m0
  obtain ⟨c1, f1⟩ := block_cells m1
  obtain ⟨c2, f2⟩ := block_cells m2
  clear m0 m1 m2
  go_wp2_with fail
  refine bodyPost_ret (v := .tuple #[valV x.kind x.text x.count (.slice pa x.pairs.length pc) (.slice ia x.items.length ic) (.slice sa x.scores.length sc), repV 6 ⟨#[]⟩ 0 (.slice none 0 0)]) (by simp [results, Tryz.results137, go_sem, c1, c2]) rfl ⟨rfl, ?_⟩
  (repeat (with_reducible first | exact hB1 | refine Below.drew ?_ | refine Below.setCell ?_ ?_ _))
  all_goals (first | omega | (simp <;> omega))
set_option maxHeartbeats 1000000 in
theorem insertItem_full (x : Val) (i : Int) (t : ByteArray) (W : World) (ps is ss : Value) (hm : 20 ≤ x.size) (hl : Lists W ps is ss x) :
    Back 134 #[valV x.kind x.text x.count ps is ss, .int .i64 i, .string t] (valV x.kind x.text x.count ps is ss) 6 W := by
  have hrep : Reps W (valV x.kind x.text x.count ps is ss) x := ⟨_, _, _, rfl, hl⟩
  unfold Back
  obtain ⟨pa, pc, ia, ic, sa, sc, rfl, rfl, rfl⟩ := hl.shapes
  obtain ⟨n0, n1, n2, hb0, hz0⟩ := three_at W (valO x.kind x.text x.count (.slice pa x.pairs.length pc) (.slice ia x.items.length ic) (.slice sa x.scores.length sc)) (valO 0 ⟨#[]⟩ 0 (.slice none 0 0) (.slice none 0 0) (.slice none 0 0)) (repO 0 ⟨#[]⟩ 0 (.slice none 0 0))
  have hF := isFull_any _ x _ (hrep.below hb0)
  rw [show decide (20 ≤ x.size) = true by simpa using hm] at hF
  clear hrep hl
  go_enter Tryz.func134, Tryz.ntmps134
  go_wp2_with fail
  refine hF.mono ?_
  rintro e w1 ⟨rfl, hb1⟩
  have hB1 := bstep hb0 hb1
  have sz1 : W.heap.size + 3 ≤ w1.heap.size := by rw [← hz0]; exact hb1.size
  have m0 := (hb1.block W.heap.size (by omega)).trans n0
  have m1 := (hb1.block (W.heap.size + 1) (by omega)).trans n1
  have m2 := (hb1.block (W.heap.size + 1 + 1) (by omega)).trans n2
  clear n0 n1 n2 hb1 hF hz0 hb0
  obtain ⟨c0, f0⟩ := block_cells m0
  obtain ⟨c1, f1⟩ := block_cells m1
  obtain ⟨c2, f2⟩ := block_cells m2
  clear m0 m1 m2
  go_wp2_with fail
  refine bodyPost_ret (v := .tuple #[valV x.kind x.text x.count (.slice pa x.pairs.length pc) (.slice ia x.items.length ic) (.slice sa x.scores.length sc), repV 6 ⟨#[]⟩ 0 (.slice none 0 0)]) (by simp [results, Tryz.results134, go_sem, c1, c2]) rfl ⟨rfl, ?_⟩
  (repeat (with_reducible first | exact hB1 | refine Below.drew ?_ | refine Below.setCell ?_ ?_ _))
  all_goals (first | omega | (simp <;> omega))
set_option maxHeartbeats 1000000 in
theorem setField_full (x : Val) (i : Int) (t : ByteArray × ByteArray) (W : World) (ps is ss : Value) (hm : 20 ≤ x.size) (hl : Lists W ps is ss x) :
    Back 131 #[valV x.kind x.text x.count ps is ss, .int .i64 i, .bool false, valP t] (valV x.kind x.text x.count ps is ss) 6 W := by
  have hrep : Reps W (valV x.kind x.text x.count ps is ss) x := ⟨_, _, _, rfl, hl⟩
  unfold Back
  obtain ⟨pa, pc, ia, ic, sa, sc, rfl, rfl, rfl⟩ := hl.shapes
  obtain ⟨n0, -, n1, n2, hb0, hz0⟩ := four_at W (valO x.kind x.text x.count (.slice pa x.pairs.length pc) (.slice ia x.items.length ic) (.slice sa x.scores.length sc)) (.cells #[.string t.1, .string t.2] 67) (valO 0 ⟨#[]⟩ 0 (.slice none 0 0) (.slice none 0 0) (.slice none 0 0)) (repO 0 ⟨#[]⟩ 0 (.slice none 0 0))
  have hF := isFull_any _ x _ (hrep.below hb0)
  rw [show decide (20 ≤ x.size) = true by simpa using hm] at hF
  clear hrep hl
  go_enter Tryz.func131, Tryz.ntmps131
  go_wp2_with fail
  refine hF.mono ?_
  rintro e w1 ⟨rfl, hb1⟩
  have hB1 := bstep hb0 hb1
  have sz1 : W.heap.size + 4 ≤ w1.heap.size := by rw [← hz0]; exact hb1.size
  have m0 := (hb1.block W.heap.size (by omega)).trans n0
  have m1 := (hb1.block (W.heap.size + 1 + 1) (by omega)).trans n1
  have m2 := (hb1.block (W.heap.size + 1 + 1 + 1) (by omega)).trans n2
  clear n0 n1 n2 hb1 hF hz0 hb0
  obtain ⟨c0, f0⟩ := block_cells m0
  obtain ⟨c1, f1⟩ := block_cells m1
  obtain ⟨c2, f2⟩ := block_cells m2
  clear m0 m1 m2
  go_wp2_with fail
  refine bodyPost_ret (v := .tuple #[valV x.kind x.text x.count (.slice pa x.pairs.length pc) (.slice ia x.items.length ic) (.slice sa x.scores.length sc), repV 6 ⟨#[]⟩ 0 (.slice none 0 0)]) (by simp [results, Tryz.results131, go_sem, c1, c2]) rfl ⟨rfl, ?_⟩
  (repeat (with_reducible first | exact hB1 | refine Below.drew ?_ | refine Below.setCell ?_ ?_ _))
  all_goals (first | omega | (simp <;> omega))

set_option maxHeartbeats 4000000 in
theorem set_has (x : Val) (c : Cmd) (p : Nat) (hk : c.k = 13) (hm : x.size ≤ 1048576) (hp : Parts (fun q : ByteArray => cmpS q c.txt) x.items p) (hh : hitB (fun q : ByteArray => cmpS q c.txt) x.items p = true) :
    Does 98 x c x { n := 1 } := by
  intro B N W ps is ss hBN hN ho op oi os
  have hmL : x.items.length ≤ 140737488355328 := by unfold Val.size at hm; omega
  have hfin := fun w' (hb : Below W.heap.size W w') => ho.repsA (N := N) (M := W.heap.size) hm hb op oi os
  have n4 : (c.k == 11) = false := by simp [hk]
  have n5 : (c.k == 12) = false := by simp [hk]
  obtain ⟨pa, pc, ia, ic, sa, sc, rfl, rfl, rfl⟩ := ho.shapes
  obtain ⟨n0, n1, n2, n3, hb0, hz0⟩ := four_at W (valO x.kind x.text x.count (.slice pa x.pairs.length pc) (.slice ia x.items.length ic) (.slice sa x.scores.length sc)) (cmdC c) (valO 0 ⟨#[]⟩ 0 (.slice none 0 0) (.slice none 0 0) (.slice none 0 0)) (repO 0 ⟨#[]⟩ 0 (.slice none 0 0))
  have hBS := bsearchI c.txt (.slice ia x.items.length ic) x.items p _ ((RowAt.ofOwn lenI ho.i.1 hmL).below hb0) hp
  rw [hh] at hBS
  have HF : Hid (∀ w', Below W.heap.size W w' → RepsA B N W.heap.size w' (valV x.kind x.text x.count (.slice pa x.pairs.length pc) (.slice ia x.items.length ic) (.slice sa x.scores.length sc)) x) := hfin
  clear hp hh hk hfin ho
  go_enter Tryz.func98, Tryz.ntmps98
  go_wp2_with fail
  refine hBS.mono ?_
  rintro e w1 ⟨rfl, hb1⟩
  have hB1 := bstep hb0 hb1
  have sz1 : W.heap.size + 4 ≤ w1.heap.size := by rw [← hz0]; exact hb1.size
  have m0 := (hb1.block W.heap.size (by omega)).trans n0
  have m1 := (hb1.block (W.heap.size + 1) (by omega)).trans n1
  have m2 := (hb1.block (W.heap.size + 1 + 1) (by omega)).trans n2
  have m3 := (hb1.block (W.heap.size + 1 + 1 + 1) (by omega)).trans n3
  clear n0 n1 n2 n3 hb1 hBS hz0 hb0
  obtain ⟨c0, f0⟩ := block_cells m0
  obtain ⟨c1, f1⟩ := block_cells m1
  obtain ⟨c2, f2⟩ := block_cells m2
  obtain ⟨c3, f3⟩ := block_cells m3
  clear m0 m1 m2 m3
  go_wp2_with fail
  go_region_with (go_at_call 133; refine (number_any _ _).mono ?_; rintro e w3 ⟨rfl, rfl⟩)
  all_goals
    go_wp2_with fail
    refine bodyPost_ret (v := .tuple #[valV x.kind x.text x.count (.slice pa x.pairs.length pc) (.slice ia x.items.length ic) (.slice sa x.scores.length sc), repV 0 ⟨#[]⟩ 1 (.slice none 0 0)]) (by simp [results, Tryz.results98, go_sem, c2, c3]) rfl ⟨_, _, rfl, HF.out _ ?_, ⟨_, rfl, RowAt.nil _ _ _, In.nil _ _ _⟩, Keeps.ofBelow ?_⟩
    all_goals
      (repeat (with_reducible first | exact hB1 | refine Below.drew ?_ | refine Below.setCell ?_ ?_ _))
      all_goals (first | omega | (simp <;> omega))

set_option maxHeartbeats 4000000 in
theorem hash_get (x : Val) (c : Cmd) (p : Nat) (hk : c.k = 5) (hm : x.size ≤ 1048576) (hp : Parts (fun q : ByteArray × ByteArray => cmpS q.1 c.fld) x.pairs p) (hpl : p < x.pairs.length) (hh : hitB (fun q : ByteArray × ByteArray => cmpS q.1 c.fld) x.pairs p = true) :
    Does 96 x c x { text := x.pairs[p].2 } := by
  intro B N W ps is ss hBN hN ho op oi os
  have hmL : x.pairs.length ≤ 140737488355328 := by unfold Val.size at hm; omega
  have hfin := fun w' (hb : Below W.heap.size W w') => ho.repsA (N := N) (M := W.heap.size) hm hb op oi os
  have n4 : (c.k == 4) = false := by simp [hk]
  have n5 : (c.k == 5) = true := by simp [hk]
  obtain ⟨pa, pc, ia, ic, sa, sc, rfl, rfl, rfl⟩ := ho.shapes
  obtain ⟨g, pc', S, he, hgB, hgb, hc1, hc2, hc3⟩ := own_open ho.p.1 (by omega)
  obtain ⟨rfl, rfl⟩ : pa = some ⟨g, 0, none⟩ ∧ pc = pc' := by cases he; exact ⟨rfl, rfl⟩
  clear he
  obtain ⟨n0, n1, n2, n3, hb0, hz0⟩ := four_at W (valO x.kind x.text x.count (.slice (some ⟨g, 0, none⟩) x.pairs.length pc) (.slice ia x.items.length ic) (.slice sa x.scores.length sc)) (cmdC c) (valO 0 ⟨#[]⟩ 0 (.slice none 0 0) (.slice none 0 0) (.slice none 0 0)) (repO 0 ⟨#[]⟩ 0 (.slice none 0 0))
  have hBS := bsearchP 130 #[] c.fld (fun q => cmpS q.1 c.fld) pairCmp_enter (.slice (some ⟨g, 0, none⟩) x.pairs.length pc) x.pairs p _ ((RowAt.ofOwn lenP ho.p.1 hmL).below hb0) (pairCmp_of c.fld _) hp
  rw [hh] at hBS
  have hgl : g < W.heap.size := (Array.getElem?_eq_some_iff.1 hgb).1
  have HF : Hid (∀ w', Below W.heap.size W w' → RepsA B N W.heap.size w' (valV x.kind x.text x.count (.slice (some ⟨g, 0, none⟩) x.pairs.length pc) (.slice ia x.items.length ic) (.slice sa x.scores.length sc)) x) := hfin
  clear hp hh hk hfin ho
  go_enter Tryz.func96, Tryz.ntmps96
  go_wp2_with fail
  refine hBS.mono ?_
  rintro e w1 ⟨rfl, hb1⟩
  have hB1 := bstep hb0 hb1
  have cI : w1.cell? ⟨g, p * 2 + 1, none⟩ = some (.string x.pairs[p].2) := by
    rw [World.cell?_of_block (a := ⟨g, p * 2 + 1, none⟩) (hB1.block g hgl), (block_cells hgb).1 (p * 2 + 1)]
    have := flat_get 2 encP lenP x.pairs p hpl 1 (by omega)
    rw [List.getElem?_toArray, List.getElem?_append_left (by rw [flat_length lenP]; omega)]
    simpa [encP] using this
  have sz1 : W.heap.size + 4 ≤ w1.heap.size := by rw [← hz0]; exact hb1.size
  have m0 := (hb1.block W.heap.size (by omega)).trans n0
  have m1 := (hb1.block (W.heap.size + 1) (by omega)).trans n1
  have m2 := (hb1.block (W.heap.size + 1 + 1) (by omega)).trans n2
  have m3 := (hb1.block (W.heap.size + 1 + 1 + 1) (by omega)).trans n3
  clear n0 n1 n2 n3 hb1 hBS hz0 hb0 hgb hc3
  obtain ⟨c0, f0⟩ := block_cells m0
  obtain ⟨c1, f1⟩ := block_cells m1
  obtain ⟨c2, f2⟩ := block_cells m2
  obtain ⟨c3, f3⟩ := block_cells m3
  clear m0 m1 m2 m3
  have hil : (p : Int) < (x.pairs.length : Int) := by omega
  have hi0 : (0 : Int) ≤ (p : Int) := by omega
  go_wp2_with fail
  go_region
  all_goals
    go_wp2_with fail
    refine bodyPost_ret (v := .tuple #[valV x.kind x.text x.count (.slice (some ⟨g, 0, none⟩) x.pairs.length pc) (.slice ia x.items.length ic) (.slice sa x.scores.length sc), repV 0 x.pairs[p].2 0 (.slice none 0 0)]) (by simp [results, Tryz.results96, go_sem, c2, c3]) rfl ⟨_, _, rfl, HF.out _ ?_, ⟨_, rfl, RowAt.nil _ _ _, In.nil _ _ _⟩, Keeps.ofBelow ?_⟩
    all_goals
      (repeat (with_reducible first | exact hB1 | refine Below.drew ?_ | refine Below.setCell ?_ ?_ _))
      all_goals (first | omega | (simp <;> omega))

set_option maxHeartbeats 4000000 in
theorem set_add_there (x : Val) (c : Cmd) (p : Nat) (hk : c.k = 11) (hm : x.size ≤ 1048576) (hp : Parts (fun q : ByteArray => cmpS q c.txt) x.items p) (hh : hitB (fun q : ByteArray => cmpS q c.txt) x.items p = true) :
    Does 98 x c x {} := by
  intro B N W ps is ss hBN hN ho op oi os
  have hmL : x.items.length ≤ 140737488355328 := by unfold Val.size at hm; omega
  have hls := ho.lists hm
  have hfin := fun w' (hb : Below W.heap.size W w') => ho.repsA (N := N) (M := W.heap.size) hm hb op oi os
  have n4 : (c.k == 11) = true := by simp [hk]
  obtain ⟨pa, pc, ia, ic, sa, sc, rfl, rfl, rfl⟩ := ho.shapes
  obtain ⟨n0, n1, n2, n3, hb0, hz0⟩ := four_at W (valO x.kind x.text x.count (.slice pa x.pairs.length pc) (.slice ia x.items.length ic) (.slice sa x.scores.length sc)) (cmdC c) (valO 0 ⟨#[]⟩ 0 (.slice none 0 0) (.slice none 0 0) (.slice none 0 0)) (repO 0 ⟨#[]⟩ 0 (.slice none 0 0))
  have hBS := bsearchI c.txt (.slice ia x.items.length ic) x.items p _ ((RowAt.ofOwn lenI ho.i.1 hmL).below hb0) hp
  rw [hh] at hBS
  have HF : Hid (∀ w', Below W.heap.size W w' → RepsA B N W.heap.size w' (valV x.kind x.text x.count (.slice pa x.pairs.length pc) (.slice ia x.items.length ic) (.slice sa x.scores.length sc)) x) := hfin
  clear hp hh hk hfin ho
  go_enter Tryz.func98, Tryz.ntmps98
  go_wp2_with fail
  refine hBS.mono ?_
  rintro e w1 ⟨rfl, hb1⟩
  have hB1 := bstep hb0 hb1
  have hC := addItem_there x.kind x.text x.count pa ia sa x.pairs.length pc x.items.length ic x.scores.length sc p c.txt w1
  unfold Back at hC
  have sz1 : W.heap.size + 4 ≤ w1.heap.size := by rw [← hz0]; exact hb1.size
  have m0 := (hb1.block W.heap.size (by omega)).trans n0
  have m1 := (hb1.block (W.heap.size + 1) (by omega)).trans n1
  have m2 := (hb1.block (W.heap.size + 1 + 1) (by omega)).trans n2
  have m3 := (hb1.block (W.heap.size + 1 + 1 + 1) (by omega)).trans n3
  clear n0 n1 n2 n3 hb1 hBS hz0 hb0 hls
  obtain ⟨c0, f0⟩ := block_cells m0
  obtain ⟨c1, f1⟩ := block_cells m1
  go_wp2_with fail
  refine hC.mono ?_
  rintro e w2 ⟨rfl, hb2⟩
  have hB2 := bstep hB1 hb2
  have sz2 := hb2.size
  obtain ⟨c2, f2⟩ := block_cells ((hb2.block _ (by omega)).trans m2)
  obtain ⟨c3, f3⟩ := block_cells ((hb2.block _ (by omega)).trans m3)
  clear m0 m1 m2 m3 c0 f0 c1 f1 hC hb2
  go_wp2_with fail
  refine bodyPost_ret (v := .tuple #[valV x.kind x.text x.count (.slice pa x.pairs.length pc) (.slice ia x.items.length ic) (.slice sa x.scores.length sc), repV 0 ⟨#[]⟩ 0 (.slice none 0 0)]) (by simp [results, Tryz.results98, go_sem, c2, c3]) rfl ⟨_, _, rfl, HF.out _ ?_, ⟨_, rfl, RowAt.nil _ _ _, In.nil _ _ _⟩, Keeps.ofBelow ?_⟩
  all_goals
    (repeat (with_reducible first | exact hB2 | refine Below.drew ?_ | refine Below.setCell ?_ ?_ _))
    all_goals (first | omega | (simp <;> omega))
set_option maxHeartbeats 4000000 in
theorem set_full (x : Val) (c : Cmd) (p : Nat) (hk : c.k = 11) (hm : x.size ≤ 1048576) (hf : 20 ≤ x.size) (hp : Parts (fun q : ByteArray => cmpS q c.txt) x.items p) (hh : hitB (fun q : ByteArray => cmpS q c.txt) x.items p = false) :
    Does 98 x c x { code := 6 } := by
  intro B N W ps is ss hBN hN ho op oi os
  have hmL : x.items.length ≤ 140737488355328 := by unfold Val.size at hm; omega
  have hls := ho.lists hm
  have hfin := fun w' (hb : Below W.heap.size W w') => ho.repsA (N := N) (M := W.heap.size) hm hb op oi os
  have n4 : (c.k == 11) = true := by simp [hk]
  obtain ⟨pa, pc, ia, ic, sa, sc, rfl, rfl, rfl⟩ := ho.shapes
  obtain ⟨n0, n1, n2, n3, hb0, hz0⟩ := four_at W (valO x.kind x.text x.count (.slice pa x.pairs.length pc) (.slice ia x.items.length ic) (.slice sa x.scores.length sc)) (cmdC c) (valO 0 ⟨#[]⟩ 0 (.slice none 0 0) (.slice none 0 0) (.slice none 0 0)) (repO 0 ⟨#[]⟩ 0 (.slice none 0 0))
  have hBS := bsearchI c.txt (.slice ia x.items.length ic) x.items p _ ((RowAt.ofOwn lenI ho.i.1 hmL).below hb0) hp
  rw [hh] at hBS
  have HF : Hid (∀ w', Below W.heap.size W w' → RepsA B N W.heap.size w' (valV x.kind x.text x.count (.slice pa x.pairs.length pc) (.slice ia x.items.length ic) (.slice sa x.scores.length sc)) x) := hfin
  clear hp hh hk hfin ho
  go_enter Tryz.func98, Tryz.ntmps98
  go_wp2_with fail
  refine hBS.mono ?_
  rintro e w1 ⟨rfl, hb1⟩
  have hB1 := bstep hb0 hb1
  have hC := addItem_full x p c.txt w1 _ _ _ hf (hls.below hB1)
  unfold Back at hC
  have sz1 : W.heap.size + 4 ≤ w1.heap.size := by rw [← hz0]; exact hb1.size
  have m0 := (hb1.block W.heap.size (by omega)).trans n0
  have m1 := (hb1.block (W.heap.size + 1) (by omega)).trans n1
  have m2 := (hb1.block (W.heap.size + 1 + 1) (by omega)).trans n2
  have m3 := (hb1.block (W.heap.size + 1 + 1 + 1) (by omega)).trans n3
  clear n0 n1 n2 n3 hb1 hBS hz0 hb0 hls
  obtain ⟨c0, f0⟩ := block_cells m0
  obtain ⟨c1, f1⟩ := block_cells m1
  go_wp2_with fail
  refine hC.mono ?_
  rintro e w2 ⟨rfl, hb2⟩
  have hB2 := bstep hB1 hb2
  have sz2 := hb2.size
  obtain ⟨c2, f2⟩ := block_cells ((hb2.block _ (by omega)).trans m2)
  obtain ⟨c3, f3⟩ := block_cells ((hb2.block _ (by omega)).trans m3)
  clear m0 m1 m2 m3 c0 f0 c1 f1 hC hb2
  go_wp2_with fail
  refine bodyPost_ret (v := .tuple #[valV x.kind x.text x.count (.slice pa x.pairs.length pc) (.slice ia x.items.length ic) (.slice sa x.scores.length sc), repV 6 ⟨#[]⟩ 0 (.slice none 0 0)]) (by simp [results, Tryz.results98, go_sem, c2, c3]) rfl ⟨_, _, rfl, HF.out _ ?_, ⟨_, rfl, RowAt.nil _ _ _, In.nil _ _ _⟩, Keeps.ofBelow ?_⟩
  all_goals
    (repeat (with_reducible first | exact hB2 | refine Below.drew ?_ | refine Below.setCell ?_ ?_ _))
    all_goals (first | omega | (simp <;> omega))

set_option maxHeartbeats 4000000 in
theorem list_push_full (x : Val) (c : Cmd) (hk : c.k = 7) (hm : x.size ≤ 1048576) (hf : 20 ≤ x.size) : Does 97 x c x { code := 6 } := by
  intro B N W ps is ss hBN hN ho op oi os
  have n7 : (c.k == 7) = true := (by simp [hk])
  have hls := ho.lists hm
  have hfin := fun w' (hb : Below W.heap.size W w') => ho.repsA (N := N) (M := W.heap.size) hm hb op oi os
  obtain ⟨pa, pc, ia, ic, sa, sc, rfl, rfl, rfl⟩ := ho.shapes
  obtain ⟨n0, n1, n2, n3, hb0, hz0⟩ := four_at W (valO x.kind x.text x.count (.slice pa x.pairs.length pc) (.slice ia x.items.length ic) (.slice sa x.scores.length sc)) (cmdC c) (valO 0 ⟨#[]⟩ 0 (.slice none 0 0) (.slice none 0 0) (.slice none 0 0)) (repO 0 ⟨#[]⟩ 0 (.slice none 0 0))
  have hC := insertItem_full x (x.items.length) c.txt _ _ _ _ hf (hls.below hb0)
  unfold Back at hC
  have HF : Hid (∀ w', Below W.heap.size W w' → RepsA B N W.heap.size w' (valV x.kind x.text x.count (.slice pa x.pairs.length pc) (.slice ia x.items.length ic) (.slice sa x.scores.length sc)) x) := hfin
  clear hk ho hfin hls
  go_enter Tryz.func97, Tryz.ntmps97
  go_wp2_with fail
  refine hC.mono ?_
  rintro e w2 ⟨rfl, hb2⟩
  have hB2 := bstep hb0 hb2
  have sz2 := hb2.size
  obtain ⟨c2, f2⟩ := block_cells ((hb2.block _ (by omega)).trans n2)
  obtain ⟨c3, f3⟩ := block_cells ((hb2.block _ (by omega)).trans n3)
  clear n0 n1 n2 n3 hC hb2
  go_wp2_with fail
  refine bodyPost_ret (v := .tuple #[valV x.kind x.text x.count (.slice pa x.pairs.length pc) (.slice ia x.items.length ic) (.slice sa x.scores.length sc), repV 6 ⟨#[]⟩ 0 (.slice none 0 0)]) (by simp [results, Tryz.results97, go_sem, c2, c3]) rfl ⟨_, _, rfl, HF.out _ ?_, ⟨_, rfl, RowAt.nil _ _ _, In.nil _ _ _⟩, Keeps.ofBelow ?_⟩
  all_goals
    (repeat (with_reducible first | exact hB2 | refine Below.drew ?_ | refine Below.setCell ?_ ?_ _))
    all_goals (first | omega | (simp <;> omega))
set_option maxHeartbeats 4000000 in
theorem list_front_full (x : Val) (c : Cmd) (hk : c.k = 8) (hm : x.size ≤ 1048576) (hf : 20 ≤ x.size) : Does 97 x c x { code := 6 } := by
  intro B N W ps is ss hBN hN ho op oi os
  have n7 : (c.k == 7) = false := (by simp [hk]); have n8 : (c.k == 8) = true := (by simp [hk])
  have hls := ho.lists hm
  have hfin := fun w' (hb : Below W.heap.size W w') => ho.repsA (N := N) (M := W.heap.size) hm hb op oi os
  obtain ⟨pa, pc, ia, ic, sa, sc, rfl, rfl, rfl⟩ := ho.shapes
  obtain ⟨n0, n1, n2, n3, hb0, hz0⟩ := four_at W (valO x.kind x.text x.count (.slice pa x.pairs.length pc) (.slice ia x.items.length ic) (.slice sa x.scores.length sc)) (cmdC c) (valO 0 ⟨#[]⟩ 0 (.slice none 0 0) (.slice none 0 0) (.slice none 0 0)) (repO 0 ⟨#[]⟩ 0 (.slice none 0 0))
  have hC := insertItem_full x (0) c.txt _ _ _ _ hf (hls.below hb0)
  unfold Back at hC
  have HF : Hid (∀ w', Below W.heap.size W w' → RepsA B N W.heap.size w' (valV x.kind x.text x.count (.slice pa x.pairs.length pc) (.slice ia x.items.length ic) (.slice sa x.scores.length sc)) x) := hfin
  clear hk ho hfin hls
  go_enter Tryz.func97, Tryz.ntmps97
  go_wp2_with fail
  refine hC.mono ?_
  rintro e w2 ⟨rfl, hb2⟩
  have hB2 := bstep hb0 hb2
  have sz2 := hb2.size
  obtain ⟨c2, f2⟩ := block_cells ((hb2.block _ (by omega)).trans n2)
  obtain ⟨c3, f3⟩ := block_cells ((hb2.block _ (by omega)).trans n3)
  clear n0 n1 n2 n3 hC hb2
  go_wp2_with fail
  refine bodyPost_ret (v := .tuple #[valV x.kind x.text x.count (.slice pa x.pairs.length pc) (.slice ia x.items.length ic) (.slice sa x.scores.length sc), repV 6 ⟨#[]⟩ 0 (.slice none 0 0)]) (by simp [results, Tryz.results97, go_sem, c2, c3]) rfl ⟨_, _, rfl, HF.out _ ?_, ⟨_, rfl, RowAt.nil _ _ _, In.nil _ _ _⟩, Keeps.ofBelow ?_⟩
  all_goals
    (repeat (with_reducible first | exact hB2 | refine Below.drew ?_ | refine Below.setCell ?_ ?_ _))
    all_goals (first | omega | (simp <;> omega))
end Go.Proofs.YtfnephnecighaaaGreat
