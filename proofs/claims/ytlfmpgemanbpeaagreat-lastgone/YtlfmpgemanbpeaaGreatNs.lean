/- What perform makes of an empty value, for each command that makes one with elements. -/
import Derived.Test.YtlfmpgemanbpeaaGreatNq
import Derived.Test.YtlfmpgemanbpeaaGreatNr
namespace Go.Proofs.YtlfmpgemanbpeaaGreat
open Go.RowKit
set_option linter.unusedVariables false

set_option maxHeartbeats 4000000 in
theorem perf_hset_nil (c : Cmd) (hk : c.k = 4) : PerfOk (emptyVal 3) c { emptyVal 3 with pairs := [(c.fld, c.txt)] } { n := 1 } := by
  intro B W ps is ss hB ho
  obtain rfl := ho.p.2 rfl
  obtain rfl := ho.i.2 rfl
  obtain rfl := ho.s.2 rfl
  have D := performHash_nil c hk
  have n1 : (c.k == 1) = false := by simp [hk]
  have n2 : (c.k == 2) = false := by simp [hk]
  have n3 : (c.k == 3) = false := by simp [hk]
  have n17 : (c.k == 17) = false := by simp [hk]
  have n18 : (c.k == 18) = false := by simp [hk]
  clear hk ho
  go_enter Tryz.func63, Tryz.ntmps63
  go_wp2_with fail
  obtain ⟨n0, n1, n2, n3, hB0, hz0⟩ := four_new W (valO 3 ⟨#[]⟩ 0 (.slice none 0 0) (.slice none 0 0) (.slice none 0 0)) (cmdB c) (valO 0 ⟨#[]⟩ 0 (.slice none 0 0) (.slice none 0 0) (.slice none 0 0)) (repO 0 ⟨#[]⟩ 0 (.slice none 0 0))
  refine (D _).mono ?_
  rintro e w2 ⟨v2, u2, rfl, hr2, hu2, hb2⟩
  obtain ⟨pa2, pc2, ia2, ic2, sa2, sc2, rfl⟩ := hr2.reps.shapes
  obtain ⟨la2, lc2, rfl⟩ := hu2.rep.shapes
  have hB2 : Below W.heap.size W w2 := bstep hB0 hb2
  have k2 := (hb2.block (W.heap.size + 1 + 1) (by simp)).trans n2
  have k3 := (hb2.block (W.heap.size + 1 + 1 + 1) (by simp)).trans n3
  have hr2 := hr2.mono (B' := W.heap.size + 4) (by simp)
  have hu2 := hu2.mono (B' := W.heap.size + 4) (by simp)
  clear n0 n1 n2 n3 hb2 hB0 hz0
  obtain ⟨c2, f2⟩ := block_cells k2
  obtain ⟨c3, f3⟩ := block_cells k3
  clear k2 k3
  go_wp2_with fail
  refine bodyPost_ret (v := .tuple #[_, _]) (by simp [results, Tryz.results63, go_sem, c2, c3]; exact ⟨rfl, rfl⟩) rfl ⟨_, _, rfl, ?_, ?_, ?_⟩
  · refine RepsF.mono (B := W.heap.size + 4) ?_ (by omega)
    (iterate 10 (refine RepsF.setCell ?_ (by first | omega | (simp <;> omega)) _))
    exact hr2
  · refine RepRF.mono (B := W.heap.size + 4) ?_ (by omega)
    (iterate 10 (refine RepRF.setCell ?_ (by first | omega | (simp <;> omega)) _))
    exact hu2
  · refine Below.mono (B := W.heap.size) ?_ hB
    (iterate 10 (refine Below.setCell ?_ (by first | omega | (simp <;> omega)) _))
    exact hB2
set_option maxHeartbeats 4000000 in
theorem perf_push_nil (c : Cmd) (hk : c.k = 7) : PerfOk (emptyVal 4) c { emptyVal 4 with items := [c.txt] } { n := 1 } := by
  intro B W ps is ss hB ho
  obtain rfl := ho.p.2 rfl
  obtain rfl := ho.i.2 rfl
  obtain rfl := ho.s.2 rfl
  have D := performList_push c hk
  have n1 : (c.k == 1) = false := by simp [hk]
  have n2 : (c.k == 2) = false := by simp [hk]
  have n3 : (c.k == 3) = false := by simp [hk]
  have n17 : (c.k == 17) = false := by simp [hk]
  have n18 : (c.k == 18) = false := by simp [hk]
  clear hk ho
  go_enter Tryz.func63, Tryz.ntmps63
  go_wp2_with fail
  obtain ⟨n0, n1, n2, n3, hB0, hz0⟩ := four_new W (valO 4 ⟨#[]⟩ 0 (.slice none 0 0) (.slice none 0 0) (.slice none 0 0)) (cmdB c) (valO 0 ⟨#[]⟩ 0 (.slice none 0 0) (.slice none 0 0) (.slice none 0 0)) (repO 0 ⟨#[]⟩ 0 (.slice none 0 0))
  refine (D _).mono ?_
  rintro e w2 ⟨v2, u2, rfl, hr2, hu2, hb2⟩
  obtain ⟨pa2, pc2, ia2, ic2, sa2, sc2, rfl⟩ := hr2.reps.shapes
  obtain ⟨la2, lc2, rfl⟩ := hu2.rep.shapes
  have hB2 : Below W.heap.size W w2 := bstep hB0 hb2
  have k2 := (hb2.block (W.heap.size + 1 + 1) (by simp)).trans n2
  have k3 := (hb2.block (W.heap.size + 1 + 1 + 1) (by simp)).trans n3
  have hr2 := hr2.mono (B' := W.heap.size + 4) (by simp)
  have hu2 := hu2.mono (B' := W.heap.size + 4) (by simp)
  clear n0 n1 n2 n3 hb2 hB0 hz0
  obtain ⟨c2, f2⟩ := block_cells k2
  obtain ⟨c3, f3⟩ := block_cells k3
  clear k2 k3
  go_wp2_with fail
  refine bodyPost_ret (v := .tuple #[_, _]) (by simp [results, Tryz.results63, go_sem, c2, c3]; exact ⟨rfl, rfl⟩) rfl ⟨_, _, rfl, ?_, ?_, ?_⟩
  · refine RepsF.mono (B := W.heap.size + 4) ?_ (by omega)
    (iterate 10 (refine RepsF.setCell ?_ (by first | omega | (simp <;> omega)) _))
    exact hr2
  · refine RepRF.mono (B := W.heap.size + 4) ?_ (by omega)
    (iterate 10 (refine RepRF.setCell ?_ (by first | omega | (simp <;> omega)) _))
    exact hu2
  · refine Below.mono (B := W.heap.size) ?_ hB
    (iterate 10 (refine Below.setCell ?_ (by first | omega | (simp <;> omega)) _))
    exact hB2
set_option maxHeartbeats 4000000 in
theorem perf_front_nil (c : Cmd) (hk : c.k = 8) : PerfOk (emptyVal 4) c { emptyVal 4 with items := [c.txt] } { n := 1 } := by
  intro B W ps is ss hB ho
  obtain rfl := ho.p.2 rfl
  obtain rfl := ho.i.2 rfl
  obtain rfl := ho.s.2 rfl
  have D := performList_front c hk
  have n1 : (c.k == 1) = false := by simp [hk]
  have n2 : (c.k == 2) = false := by simp [hk]
  have n3 : (c.k == 3) = false := by simp [hk]
  have n17 : (c.k == 17) = false := by simp [hk]
  have n18 : (c.k == 18) = false := by simp [hk]
  clear hk ho
  go_enter Tryz.func63, Tryz.ntmps63
  go_wp2_with fail
  obtain ⟨n0, n1, n2, n3, hB0, hz0⟩ := four_new W (valO 4 ⟨#[]⟩ 0 (.slice none 0 0) (.slice none 0 0) (.slice none 0 0)) (cmdB c) (valO 0 ⟨#[]⟩ 0 (.slice none 0 0) (.slice none 0 0) (.slice none 0 0)) (repO 0 ⟨#[]⟩ 0 (.slice none 0 0))
  refine (D _).mono ?_
  rintro e w2 ⟨v2, u2, rfl, hr2, hu2, hb2⟩
  obtain ⟨pa2, pc2, ia2, ic2, sa2, sc2, rfl⟩ := hr2.reps.shapes
  obtain ⟨la2, lc2, rfl⟩ := hu2.rep.shapes
  have hB2 : Below W.heap.size W w2 := bstep hB0 hb2
  have k2 := (hb2.block (W.heap.size + 1 + 1) (by simp)).trans n2
  have k3 := (hb2.block (W.heap.size + 1 + 1 + 1) (by simp)).trans n3
  have hr2 := hr2.mono (B' := W.heap.size + 4) (by simp)
  have hu2 := hu2.mono (B' := W.heap.size + 4) (by simp)
  clear n0 n1 n2 n3 hb2 hB0 hz0
  obtain ⟨c2, f2⟩ := block_cells k2
  obtain ⟨c3, f3⟩ := block_cells k3
  clear k2 k3
  go_wp2_with fail
  refine bodyPost_ret (v := .tuple #[_, _]) (by simp [results, Tryz.results63, go_sem, c2, c3]; exact ⟨rfl, rfl⟩) rfl ⟨_, _, rfl, ?_, ?_, ?_⟩
  · refine RepsF.mono (B := W.heap.size + 4) ?_ (by omega)
    (iterate 10 (refine RepsF.setCell ?_ (by first | omega | (simp <;> omega)) _))
    exact hr2
  · refine RepRF.mono (B := W.heap.size + 4) ?_ (by omega)
    (iterate 10 (refine RepRF.setCell ?_ (by first | omega | (simp <;> omega)) _))
    exact hu2
  · refine Below.mono (B := W.heap.size) ?_ hB
    (iterate 10 (refine Below.setCell ?_ (by first | omega | (simp <;> omega)) _))
    exact hB2
set_option maxHeartbeats 4000000 in
theorem perf_sadd_nil (c : Cmd) (hk : c.k = 11) : PerfOk (emptyVal 5) c { emptyVal 5 with items := [c.txt] } { n := 1 } := by
  intro B W ps is ss hB ho
  obtain rfl := ho.p.2 rfl
  obtain rfl := ho.i.2 rfl
  obtain rfl := ho.s.2 rfl
  have D := performSet_nil c hk
  have n1 : (c.k == 1) = false := by simp [hk]
  have n2 : (c.k == 2) = false := by simp [hk]
  have n3 : (c.k == 3) = false := by simp [hk]
  have n17 : (c.k == 17) = false := by simp [hk]
  have n18 : (c.k == 18) = false := by simp [hk]
  clear hk ho
  go_enter Tryz.func63, Tryz.ntmps63
  go_wp2_with fail
  obtain ⟨n0, n1, n2, n3, hB0, hz0⟩ := four_new W (valO 5 ⟨#[]⟩ 0 (.slice none 0 0) (.slice none 0 0) (.slice none 0 0)) (cmdB c) (valO 0 ⟨#[]⟩ 0 (.slice none 0 0) (.slice none 0 0) (.slice none 0 0)) (repO 0 ⟨#[]⟩ 0 (.slice none 0 0))
  refine (D _).mono ?_
  rintro e w2 ⟨v2, u2, rfl, hr2, hu2, hb2⟩
  obtain ⟨pa2, pc2, ia2, ic2, sa2, sc2, rfl⟩ := hr2.reps.shapes
  obtain ⟨la2, lc2, rfl⟩ := hu2.rep.shapes
  have hB2 : Below W.heap.size W w2 := bstep hB0 hb2
  have k2 := (hb2.block (W.heap.size + 1 + 1) (by simp)).trans n2
  have k3 := (hb2.block (W.heap.size + 1 + 1 + 1) (by simp)).trans n3
  have hr2 := hr2.mono (B' := W.heap.size + 4) (by simp)
  have hu2 := hu2.mono (B' := W.heap.size + 4) (by simp)
  clear n0 n1 n2 n3 hb2 hB0 hz0
  obtain ⟨c2, f2⟩ := block_cells k2
  obtain ⟨c3, f3⟩ := block_cells k3
  clear k2 k3
  go_wp2_with fail
  refine bodyPost_ret (v := .tuple #[_, _]) (by simp [results, Tryz.results63, go_sem, c2, c3]; exact ⟨rfl, rfl⟩) rfl ⟨_, _, rfl, ?_, ?_, ?_⟩
  · refine RepsF.mono (B := W.heap.size + 4) ?_ (by omega)
    (iterate 10 (refine RepsF.setCell ?_ (by first | omega | (simp <;> omega)) _))
    exact hr2
  · refine RepRF.mono (B := W.heap.size + 4) ?_ (by omega)
    (iterate 10 (refine RepRF.setCell ?_ (by first | omega | (simp <;> omega)) _))
    exact hu2
  · refine Below.mono (B := W.heap.size) ?_ hB
    (iterate 10 (refine Below.setCell ?_ (by first | omega | (simp <;> omega)) _))
    exact hB2
set_option maxHeartbeats 4000000 in
theorem perf_zadd_nil (c : Cmd) (hk : c.k = 14) : PerfOk (emptyVal 6) c { emptyVal 6 with scores := [(c.txt, c.n)] } { n := 1 } := by
  intro B W ps is ss hB ho
  obtain rfl := ho.p.2 rfl
  obtain rfl := ho.i.2 rfl
  obtain rfl := ho.s.2 rfl
  have D := performRank_nil c hk
  have n1 : (c.k == 1) = false := by simp [hk]
  have n2 : (c.k == 2) = false := by simp [hk]
  have n3 : (c.k == 3) = false := by simp [hk]
  have n17 : (c.k == 17) = false := by simp [hk]
  have n18 : (c.k == 18) = false := by simp [hk]
  clear hk ho
  go_enter Tryz.func63, Tryz.ntmps63
  go_wp2_with fail
  obtain ⟨n0, n1, n2, n3, hB0, hz0⟩ := four_new W (valO 6 ⟨#[]⟩ 0 (.slice none 0 0) (.slice none 0 0) (.slice none 0 0)) (cmdB c) (valO 0 ⟨#[]⟩ 0 (.slice none 0 0) (.slice none 0 0) (.slice none 0 0)) (repO 0 ⟨#[]⟩ 0 (.slice none 0 0))
  refine (D _).mono ?_
  rintro e w2 ⟨v2, u2, rfl, hr2, hu2, hb2⟩
  obtain ⟨pa2, pc2, ia2, ic2, sa2, sc2, rfl⟩ := hr2.reps.shapes
  obtain ⟨la2, lc2, rfl⟩ := hu2.rep.shapes
  have hB2 : Below W.heap.size W w2 := bstep hB0 hb2
  have k2 := (hb2.block (W.heap.size + 1 + 1) (by simp)).trans n2
  have k3 := (hb2.block (W.heap.size + 1 + 1 + 1) (by simp)).trans n3
  have hr2 := hr2.mono (B' := W.heap.size + 4) (by simp)
  have hu2 := hu2.mono (B' := W.heap.size + 4) (by simp)
  clear n0 n1 n2 n3 hb2 hB0 hz0
  obtain ⟨c2, f2⟩ := block_cells k2
  obtain ⟨c3, f3⟩ := block_cells k3
  clear k2 k3
  go_wp2_with fail
  refine bodyPost_ret (v := .tuple #[_, _]) (by simp [results, Tryz.results63, go_sem, c2, c3]; exact ⟨rfl, rfl⟩) rfl ⟨_, _, rfl, ?_, ?_, ?_⟩
  · refine RepsF.mono (B := W.heap.size + 4) ?_ (by omega)
    (iterate 10 (refine RepsF.setCell ?_ (by first | omega | (simp <;> omega)) _))
    exact hr2
  · refine RepRF.mono (B := W.heap.size + 4) ?_ (by omega)
    (iterate 10 (refine RepRF.setCell ?_ (by first | omega | (simp <;> omega)) _))
    exact hu2
  · refine Below.mono (B := W.heap.size) ?_ hB
    (iterate 10 (refine Below.setCell ?_ (by first | omega | (simp <;> omega)) _))
    exact hB2
end Go.Proofs.YtlfmpgemanbpeaaGreat
