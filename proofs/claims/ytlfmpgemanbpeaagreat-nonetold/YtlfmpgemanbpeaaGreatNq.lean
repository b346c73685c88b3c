/- What makes something where there is nothing: the commands of each kind, and perform. -/
import Derived.Test.YtlfmpgemanbpeaaGreatNo
namespace Go.Proofs.YtlfmpgemanbpeaaGreat
open Go.RowKit
set_option linter.unusedVariables false

abbrev cmdB (c : Cmd) : Obj := .cells #[.int .i64 c.k, .string c.key, .string c.fld, .string c.txt, .int .i64 c.n] 34

set_option maxHeartbeats 4000000 in
theorem performHash_nil (c : Cmd) (hk : c.k = 4) : Made 81 #[valV 3 ⟨#[]⟩ 0 (.slice none 0 0) (.slice none 0 0) (.slice none 0 0), c.v] { emptyVal 3 with pairs := [(c.fld, c.txt)] } := by
  intro W
  have n4 : (c.k == 4) = true := by simpa using hk
  clear hk
  go_enter Tryz.func81, Tryz.ntmps81
  go_wp2_with fail
  obtain ⟨n0, n1, n2, n3, hB0, hz0⟩ := four_new W (valO 3 ⟨#[]⟩ 0 (.slice none 0 0) (.slice none 0 0) (.slice none 0 0)) (cmdB c) (valO 0 ⟨#[]⟩ 0 (.slice none 0 0) (.slice none 0 0) (.slice none 0 0)) (repO 0 ⟨#[]⟩ 0 (.slice none 0 0))
  generalize (((W.alloc (valO 3 ⟨#[]⟩ 0 (.slice none 0 0) (.slice none 0 0) (.slice none 0 0))).alloc (cmdB c)).alloc (valO 0 ⟨#[]⟩ 0 (.slice none 0 0) (.slice none 0 0) (.slice none 0 0))).alloc (repO 0 ⟨#[]⟩ 0 (.slice none 0 0)) = W0 at n0 n1 n2 n3 hB0 hz0 ⊢
  refine (bsearchP_nil _ _ _).mono ?_
  rintro e w1 ⟨rfl, hb1⟩
  have hB1 := bstep hB0 hb1
  have sz1 := hb1.size
  have m0 := (hb1.block _ (by omega)).trans n0
  have m1 := (hb1.block _ (by omega)).trans n1
  have m2 := (hb1.block _ (by omega)).trans n2
  have m3 := (hb1.block _ (by omega)).trans n3
  clear n0 n1 n2 n3 hb1
  obtain ⟨c0, f0⟩ := block_cells m0
  obtain ⟨c1, f1⟩ := block_cells m1
  go_wp2_with fail
  refine (setField_nil c.fld c.txt _).mono ?_
  rintro e w2 ⟨v2, u2, rfl, hr2, hu2, hb2⟩
  obtain ⟨pa2, pc2, ia2, ic2, sa2, sc2, rfl⟩ := hr2.reps.shapes
  obtain ⟨la2, lc2, rfl⟩ := hu2.rep.shapes
  have hB2 := bstep hB1 hb2
  have k2 := (hb2.block _ (by omega)).trans m2
  have k3 := (hb2.block _ (by omega)).trans m3
  have hr2 := hr2.mono (B' := W.heap.size + 4) (by omega)
  have hu2 := hu2.mono (B' := W.heap.size + 4) (by omega)
  clear m0 m1 m2 m3 c0 f0 c1 f1 hb2
  obtain ⟨c2, f2⟩ := block_cells k2
  obtain ⟨c3, f3⟩ := block_cells k3
  clear k2 k3
  go_wp2_with fail
  refine bodyPost_ret (v := .tuple #[_, _]) (by simp [results, Tryz.results81, go_sem, c2, c3]; exact ⟨rfl, rfl⟩) rfl ⟨_, _, rfl, ?_, ?_, ?_⟩
  · refine RepsF.mono (B := W.heap.size + 4) ?_ (by omega)
    (iterate 10 (refine RepsF.setCell ?_ (by first | omega | (simp <;> omega)) _))
    exact hr2
  · refine RepRF.mono (B := W.heap.size + 4) ?_ (by omega)
    (iterate 10 (refine RepRF.setCell ?_ (by first | omega | (simp <;> omega)) _))
    exact hu2
  · (iterate 10 (refine Below.setCell ?_ (by first | omega | (simp <;> omega)) _))
    exact hB2
set_option maxHeartbeats 4000000 in
theorem performSet_nil (c : Cmd) (hk : c.k = 11) : Made 83 #[valV 5 ⟨#[]⟩ 0 (.slice none 0 0) (.slice none 0 0) (.slice none 0 0), c.v] { emptyVal 5 with items := [c.txt] } := by
  intro W
  have n4 : (c.k == 11) = true := by simpa using hk
  clear hk
  go_enter Tryz.func83, Tryz.ntmps83
  go_wp2_with fail
  obtain ⟨n0, n1, n2, n3, hB0, hz0⟩ := four_new W (valO 5 ⟨#[]⟩ 0 (.slice none 0 0) (.slice none 0 0) (.slice none 0 0)) (cmdB c) (valO 0 ⟨#[]⟩ 0 (.slice none 0 0) (.slice none 0 0) (.slice none 0 0)) (repO 0 ⟨#[]⟩ 0 (.slice none 0 0))
  generalize (((W.alloc (valO 5 ⟨#[]⟩ 0 (.slice none 0 0) (.slice none 0 0) (.slice none 0 0))).alloc (cmdB c)).alloc (valO 0 ⟨#[]⟩ 0 (.slice none 0 0) (.slice none 0 0) (.slice none 0 0))).alloc (repO 0 ⟨#[]⟩ 0 (.slice none 0 0)) = W0 at n0 n1 n2 n3 hB0 hz0 ⊢
  refine (bsearchI_nil _ _).mono ?_
  rintro e w1 ⟨rfl, hb1⟩
  have hB1 := bstep hB0 hb1
  have sz1 := hb1.size
  have m0 := (hb1.block _ (by omega)).trans n0
  have m1 := (hb1.block _ (by omega)).trans n1
  have m2 := (hb1.block _ (by omega)).trans n2
  have m3 := (hb1.block _ (by omega)).trans n3
  clear n0 n1 n2 n3 hb1
  obtain ⟨c0, f0⟩ := block_cells m0
  obtain ⟨c1, f1⟩ := block_cells m1
  go_wp2_with fail
  refine (addItem_nil c.txt _).mono ?_
  rintro e w2 ⟨v2, u2, rfl, hr2, hu2, hb2⟩
  obtain ⟨pa2, pc2, ia2, ic2, sa2, sc2, rfl⟩ := hr2.reps.shapes
  obtain ⟨la2, lc2, rfl⟩ := hu2.rep.shapes
  have hB2 := bstep hB1 hb2
  have k2 := (hb2.block _ (by omega)).trans m2
  have k3 := (hb2.block _ (by omega)).trans m3
  have hr2 := hr2.mono (B' := W.heap.size + 4) (by omega)
  have hu2 := hu2.mono (B' := W.heap.size + 4) (by omega)
  clear m0 m1 m2 m3 c0 f0 c1 f1 hb2
  obtain ⟨c2, f2⟩ := block_cells k2
  obtain ⟨c3, f3⟩ := block_cells k3
  clear k2 k3
  go_wp2_with fail
  refine bodyPost_ret (v := .tuple #[_, _]) (by simp [results, Tryz.results83, go_sem, c2, c3]; exact ⟨rfl, rfl⟩) rfl ⟨_, _, rfl, ?_, ?_, ?_⟩
  · refine RepsF.mono (B := W.heap.size + 4) ?_ (by omega)
    (iterate 10 (refine RepsF.setCell ?_ (by first | omega | (simp <;> omega)) _))
    exact hr2
  · refine RepRF.mono (B := W.heap.size + 4) ?_ (by omega)
    (iterate 10 (refine RepRF.setCell ?_ (by first | omega | (simp <;> omega)) _))
    exact hu2
  · (iterate 10 (refine Below.setCell ?_ (by first | omega | (simp <;> omega)) _))
    exact hB2
set_option maxHeartbeats 4000000 in
theorem performList_push (c : Cmd) (hk : c.k = 7) : Made 82 #[valV 4 ⟨#[]⟩ 0 (.slice none 0 0) (.slice none 0 0) (.slice none 0 0), c.v] { emptyVal 4 with items := [c.txt] } := by
  intro W
  have n7 : (c.k == 7) = true := by simp [hk]
  clear hk
  go_enter Tryz.func82, Tryz.ntmps82
  go_wp2_with fail
  obtain ⟨n0, n1, n2, n3, hB0, hz0⟩ := four_new W (valO 4 ⟨#[]⟩ 0 (.slice none 0 0) (.slice none 0 0) (.slice none 0 0)) (cmdB c) (valO 0 ⟨#[]⟩ 0 (.slice none 0 0) (.slice none 0 0) (.slice none 0 0)) (repO 0 ⟨#[]⟩ 0 (.slice none 0 0))
  generalize (((W.alloc (valO 4 ⟨#[]⟩ 0 (.slice none 0 0) (.slice none 0 0) (.slice none 0 0))).alloc (cmdB c)).alloc (valO 0 ⟨#[]⟩ 0 (.slice none 0 0) (.slice none 0 0) (.slice none 0 0))).alloc (repO 0 ⟨#[]⟩ 0 (.slice none 0 0)) = W0 at n0 n1 n2 n3 hB0 hz0 ⊢
  refine (insertItem_nil c.txt _).mono ?_
  rintro e w2 ⟨v2, u2, rfl, hr2, hu2, hb2⟩
  obtain ⟨pa2, pc2, ia2, ic2, sa2, sc2, rfl⟩ := hr2.reps.shapes
  obtain ⟨la2, lc2, rfl⟩ := hu2.rep.shapes
  have hB2 := bstep hB0 hb2
  have k2 := (hb2.block _ (by omega)).trans n2
  have k3 := (hb2.block _ (by omega)).trans n3
  have hr2 := hr2.mono (B' := W.heap.size + 4) (by omega)
  have hu2 := hu2.mono (B' := W.heap.size + 4) (by omega)
  clear n0 n1 n2 n3 hb2
  obtain ⟨c2, f2⟩ := block_cells k2
  obtain ⟨c3, f3⟩ := block_cells k3
  clear k2 k3
  go_wp2_with fail
  refine bodyPost_ret (v := .tuple #[_, _]) (by simp [results, Tryz.results82, go_sem, c2, c3]; exact ⟨rfl, rfl⟩) rfl ⟨_, _, rfl, ?_, ?_, ?_⟩
  · refine RepsF.mono (B := W.heap.size + 4) ?_ (by omega)
    (iterate 10 (refine RepsF.setCell ?_ (by first | omega | (simp <;> omega)) _))
    exact hr2
  · refine RepRF.mono (B := W.heap.size + 4) ?_ (by omega)
    (iterate 10 (refine RepRF.setCell ?_ (by first | omega | (simp <;> omega)) _))
    exact hu2
  · (iterate 10 (refine Below.setCell ?_ (by first | omega | (simp <;> omega)) _))
    exact hB2
set_option maxHeartbeats 4000000 in
theorem performList_front (c : Cmd) (hk : c.k = 8) : Made 82 #[valV 4 ⟨#[]⟩ 0 (.slice none 0 0) (.slice none 0 0) (.slice none 0 0), c.v] { emptyVal 4 with items := [c.txt] } := by
  intro W
  have n7 : (c.k == 7) = false := (by simp [hk]); have n8 : (c.k == 8) = true := (by simp [hk])
  clear hk
  go_enter Tryz.func82, Tryz.ntmps82
  go_wp2_with fail
  obtain ⟨n0, n1, n2, n3, hB0, hz0⟩ := four_new W (valO 4 ⟨#[]⟩ 0 (.slice none 0 0) (.slice none 0 0) (.slice none 0 0)) (cmdB c) (valO 0 ⟨#[]⟩ 0 (.slice none 0 0) (.slice none 0 0) (.slice none 0 0)) (repO 0 ⟨#[]⟩ 0 (.slice none 0 0))
  generalize (((W.alloc (valO 4 ⟨#[]⟩ 0 (.slice none 0 0) (.slice none 0 0) (.slice none 0 0))).alloc (cmdB c)).alloc (valO 0 ⟨#[]⟩ 0 (.slice none 0 0) (.slice none 0 0) (.slice none 0 0))).alloc (repO 0 ⟨#[]⟩ 0 (.slice none 0 0)) = W0 at n0 n1 n2 n3 hB0 hz0 ⊢
  refine (insertItem_nil c.txt _).mono ?_
  rintro e w2 ⟨v2, u2, rfl, hr2, hu2, hb2⟩
  obtain ⟨pa2, pc2, ia2, ic2, sa2, sc2, rfl⟩ := hr2.reps.shapes
  obtain ⟨la2, lc2, rfl⟩ := hu2.rep.shapes
  have hB2 := bstep hB0 hb2
  have k2 := (hb2.block _ (by omega)).trans n2
  have k3 := (hb2.block _ (by omega)).trans n3
  have hr2 := hr2.mono (B' := W.heap.size + 4) (by omega)
  have hu2 := hu2.mono (B' := W.heap.size + 4) (by omega)
  clear n0 n1 n2 n3 hb2
  obtain ⟨c2, f2⟩ := block_cells k2
  obtain ⟨c3, f3⟩ := block_cells k3
  clear k2 k3
  go_wp2_with fail
  refine bodyPost_ret (v := .tuple #[_, _]) (by simp [results, Tryz.results82, go_sem, c2, c3]; exact ⟨rfl, rfl⟩) rfl ⟨_, _, rfl, ?_, ?_, ?_⟩
  · refine RepsF.mono (B := W.heap.size + 4) ?_ (by omega)
    (iterate 10 (refine RepsF.setCell ?_ (by first | omega | (simp <;> omega)) _))
    exact hr2
  · refine RepRF.mono (B := W.heap.size + 4) ?_ (by omega)
    (iterate 10 (refine RepRF.setCell ?_ (by first | omega | (simp <;> omega)) _))
    exact hu2
  · (iterate 10 (refine Below.setCell ?_ (by first | omega | (simp <;> omega)) _))
    exact hB2
end Go.Proofs.YtlfmpgemanbpeaaGreat
