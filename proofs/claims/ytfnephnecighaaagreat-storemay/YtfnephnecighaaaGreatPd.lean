/- Out of what is done with a value of a kind: what perform makes. -/
import Derived.Test.YtfnephnecighaaaGreatPc
namespace Go.Proofs.YtfnephnecighaaaGreat
open Go.RowKit
set_option linter.unusedVariables false

/-- A command that is for values of one kind. -/
def ofKind (k : Int) : Prop := (k == 1) = false ∧ (k == 2) = false ∧ (k == 3) = false ∧ (k == 17) = false ∧ (k == 18) = false

set_option maxHeartbeats 4000000 in
theorem perf_hash (x : Val) (c : Cmd) (y : Val) (r : Rep) (hx : x.kind = 3) (hk : ofKind c.k) (hd : Does 96 x c y r) : PerfOk x c y r := by
  intro B W ps is ss hB ho
  obtain ⟨n0, n1, n2, n3, hb0, hz0⟩ := four_at W (valO x.kind x.text x.count ps is ss) (cmdC c) (valO 0 ⟨#[]⟩ 0 (.slice none 0 0) (.slice none 0 0) (.slice none 0 0)) (repO 0 ⟨#[]⟩ 0 (.slice none 0 0))
  have hD := hd B W.heap.size _ ps is ss hB hb0.size (ho.kept hb0) (fun k h => (ho.p.1.lt k h).2) (fun k h => (ho.i.1.lt k h).2) (fun k h => (ho.s.1.lt k h).2)
  obtain ⟨pa, pc, ia, ic, sa, sc, rfl, rfl, rfl⟩ := ho.shapes
  obtain ⟨m1, m2, m3, m17, m18⟩ := hk
  have t1 : (x.kind == 3) = true := by simp [hx]
  have t2 : (x.kind == 4) = false := by simp [hx]
  have t3 : (x.kind == 5) = false := by simp [hx]
  clear hx ho hd
  go_enter Tryz.func57, Tryz.ntmps57
  go_wp2_with fail
  refine hD.mono ?_
  rintro e w2 ⟨v2, u2, rfl, hr2, hu2, hK2⟩
  obtain ⟨pa2, pc2, ia2, ic2, sa2, sc2, rfl⟩ := hr2.repsF.reps.shapes
  obtain ⟨la2, lc2, rfl⟩ := hu2.repRF.rep.shapes
  have k2 := (hK2.block (W.heap.size + 1 + 1) (by omega) (.inr (by omega))).trans n2
  have k3 := (hK2.block (W.heap.size + 1 + 1 + 1) (by omega) (.inr (by omega))).trans n3
  have sz2 := hK2.size
  have hK : Keeps B W.heap.size W w2 := (Keeps.ofBelow hb0).trans hK2
  have HK : Hid (Keeps B W.heap.size W w2) := hK
  clear n0 n1 n2 n3 hD hK2 hK
  obtain ⟨c2, f2⟩ := block_cells k2
  obtain ⟨c3, f3⟩ := block_cells k3
  clear k2 k3
  go_wp2_with fail
  refine bodyPost_ret (v := .tuple #[_, _]) (by simp [results, Tryz.results57, go_sem, c2, c3]; exact ⟨rfl, rfl⟩) rfl ⟨_, _, rfl, RepsA.repsF (N := W.heap.size) (M := W.heap.size + 4) ?_, RepRA.repRF (N := W.heap.size) (M := W.heap.size + 4) ?_, Keeps.below (N := W.heap.size) ?_ hB⟩
  · (iterate 10 (refine RepsA.set ?_ (by first | omega | (simp <;> omega)) (by first | omega | (simp <;> omega)) _))
    rw [← hz0]
    exact hr2
  · (iterate 10 (refine RepRA.set ?_ (by first | omega | (simp <;> omega)) (by first | omega | (simp <;> omega)) _))
    rw [← hz0]
    exact hu2
  · (iterate 10 (refine Keeps.setCell ?_ (by first | omega | (simp <;> omega)) _))
    exact HK.out
set_option maxHeartbeats 4000000 in
theorem perf_list (x : Val) (c : Cmd) (y : Val) (r : Rep) (hx : x.kind = 4) (hk : ofKind c.k) (hd : Does 97 x c y r) : PerfOk x c y r := by
  intro B W ps is ss hB ho
  obtain ⟨n0, n1, n2, n3, hb0, hz0⟩ := four_at W (valO x.kind x.text x.count ps is ss) (cmdC c) (valO 0 ⟨#[]⟩ 0 (.slice none 0 0) (.slice none 0 0) (.slice none 0 0)) (repO 0 ⟨#[]⟩ 0 (.slice none 0 0))
  have hD := hd B W.heap.size _ ps is ss hB hb0.size (ho.kept hb0) (fun k h => (ho.p.1.lt k h).2) (fun k h => (ho.i.1.lt k h).2) (fun k h => (ho.s.1.lt k h).2)
  obtain ⟨pa, pc, ia, ic, sa, sc, rfl, rfl, rfl⟩ := ho.shapes
  obtain ⟨m1, m2, m3, m17, m18⟩ := hk
  have t1 : (x.kind == 3) = false := by simp [hx]
  have t2 : (x.kind == 4) = true := by simp [hx]
  have t3 : (x.kind == 5) = false := by simp [hx]
  clear hx ho hd
  go_enter Tryz.func57, Tryz.ntmps57
  go_wp2_with fail
  refine hD.mono ?_
  rintro e w2 ⟨v2, u2, rfl, hr2, hu2, hK2⟩
  obtain ⟨pa2, pc2, ia2, ic2, sa2, sc2, rfl⟩ := hr2.repsF.reps.shapes
  obtain ⟨la2, lc2, rfl⟩ := hu2.repRF.rep.shapes
  have k2 := (hK2.block (W.heap.size + 1 + 1) (by omega) (.inr (by omega))).trans n2
  have k3 := (hK2.block (W.heap.size + 1 + 1 + 1) (by omega) (.inr (by omega))).trans n3
  have sz2 := hK2.size
  have hK : Keeps B W.heap.size W w2 := (Keeps.ofBelow hb0).trans hK2
  have HK : Hid (Keeps B W.heap.size W w2) := hK
  clear n0 n1 n2 n3 hD hK2 hK
  obtain ⟨c2, f2⟩ := block_cells k2
  obtain ⟨c3, f3⟩ := block_cells k3
  clear k2 k3
  go_wp2_with fail
  refine bodyPost_ret (v := .tuple #[_, _]) (by simp [results, Tryz.results57, go_sem, c2, c3]; exact ⟨rfl, rfl⟩) rfl ⟨_, _, rfl, RepsA.repsF (N := W.heap.size) (M := W.heap.size + 4) ?_, RepRA.repRF (N := W.heap.size) (M := W.heap.size + 4) ?_, Keeps.below (N := W.heap.size) ?_ hB⟩
  · (iterate 10 (refine RepsA.set ?_ (by first | omega | (simp <;> omega)) (by first | omega | (simp <;> omega)) _))
    rw [← hz0]
    exact hr2
  · (iterate 10 (refine RepRA.set ?_ (by first | omega | (simp <;> omega)) (by first | omega | (simp <;> omega)) _))
    rw [← hz0]
    exact hu2
  · (iterate 10 (refine Keeps.setCell ?_ (by first | omega | (simp <;> omega)) _))
    exact HK.out
set_option maxHeartbeats 4000000 in
theorem perf_set (x : Val) (c : Cmd) (y : Val) (r : Rep) (hx : x.kind = 5) (hk : ofKind c.k) (hd : Does 98 x c y r) : PerfOk x c y r := by
  intro B W ps is ss hB ho
  obtain ⟨n0, n1, n2, n3, hb0, hz0⟩ := four_at W (valO x.kind x.text x.count ps is ss) (cmdC c) (valO 0 ⟨#[]⟩ 0 (.slice none 0 0) (.slice none 0 0) (.slice none 0 0)) (repO 0 ⟨#[]⟩ 0 (.slice none 0 0))
  have hD := hd B W.heap.size _ ps is ss hB hb0.size (ho.kept hb0) (fun k h => (ho.p.1.lt k h).2) (fun k h => (ho.i.1.lt k h).2) (fun k h => (ho.s.1.lt k h).2)
  obtain ⟨pa, pc, ia, ic, sa, sc, rfl, rfl, rfl⟩ := ho.shapes
  obtain ⟨m1, m2, m3, m17, m18⟩ := hk
  have t1 : (x.kind == 3) = false := by simp [hx]
  have t2 : (x.kind == 4) = false := by simp [hx]
  have t3 : (x.kind == 5) = true := by simp [hx]
  clear hx ho hd
  go_enter Tryz.func57, Tryz.ntmps57
  go_wp2_with fail
  refine hD.mono ?_
  rintro e w2 ⟨v2, u2, rfl, hr2, hu2, hK2⟩
  obtain ⟨pa2, pc2, ia2, ic2, sa2, sc2, rfl⟩ := hr2.repsF.reps.shapes
  obtain ⟨la2, lc2, rfl⟩ := hu2.repRF.rep.shapes
  have k2 := (hK2.block (W.heap.size + 1 + 1) (by omega) (.inr (by omega))).trans n2
  have k3 := (hK2.block (W.heap.size + 1 + 1 + 1) (by omega) (.inr (by omega))).trans n3
  have sz2 := hK2.size
  have hK : Keeps B W.heap.size W w2 := (Keeps.ofBelow hb0).trans hK2
  have HK : Hid (Keeps B W.heap.size W w2) := hK
  clear n0 n1 n2 n3 hD hK2 hK
  obtain ⟨c2, f2⟩ := block_cells k2
  obtain ⟨c3, f3⟩ := block_cells k3
  clear k2 k3
  go_wp2_with fail
  refine bodyPost_ret (v := .tuple #[_, _]) (by simp [results, Tryz.results57, go_sem, c2, c3]; exact ⟨rfl, rfl⟩) rfl ⟨_, _, rfl, RepsA.repsF (N := W.heap.size) (M := W.heap.size + 4) ?_, RepRA.repRF (N := W.heap.size) (M := W.heap.size + 4) ?_, Keeps.below (N := W.heap.size) ?_ hB⟩
  · (iterate 10 (refine RepsA.set ?_ (by first | omega | (simp <;> omega)) (by first | omega | (simp <;> omega)) _))
    rw [← hz0]
    exact hr2
  · (iterate 10 (refine RepRA.set ?_ (by first | omega | (simp <;> omega)) (by first | omega | (simp <;> omega)) _))
    rw [← hz0]
    exact hu2
  · (iterate 10 (refine Keeps.setCell ?_ (by first | omega | (simp <;> omega)) _))
    exact HK.out
set_option maxHeartbeats 4000000 in
theorem perf_rank (x : Val) (c : Cmd) (y : Val) (r : Rep) (hx : x.kind = 6) (hk : ofKind c.k) (hd : Does 99 x c y r) : PerfOk x c y r := by
  intro B W ps is ss hB ho
  obtain ⟨n0, n1, n2, n3, hb0, hz0⟩ := four_at W (valO x.kind x.text x.count ps is ss) (cmdC c) (valO 0 ⟨#[]⟩ 0 (.slice none 0 0) (.slice none 0 0) (.slice none 0 0)) (repO 0 ⟨#[]⟩ 0 (.slice none 0 0))
  have hD := hd B W.heap.size _ ps is ss hB hb0.size (ho.kept hb0) (fun k h => (ho.p.1.lt k h).2) (fun k h => (ho.i.1.lt k h).2) (fun k h => (ho.s.1.lt k h).2)
  obtain ⟨pa, pc, ia, ic, sa, sc, rfl, rfl, rfl⟩ := ho.shapes
  obtain ⟨m1, m2, m3, m17, m18⟩ := hk
  have t1 : (x.kind == 3) = false := by simp [hx]
  have t2 : (x.kind == 4) = false := by simp [hx]
  have t3 : (x.kind == 5) = false := by simp [hx]
  clear hx ho hd
  go_enter Tryz.func57, Tryz.ntmps57
  go_wp2_with fail
  refine hD.mono ?_
  rintro e w2 ⟨v2, u2, rfl, hr2, hu2, hK2⟩
  obtain ⟨pa2, pc2, ia2, ic2, sa2, sc2, rfl⟩ := hr2.repsF.reps.shapes
  obtain ⟨la2, lc2, rfl⟩ := hu2.repRF.rep.shapes
  have k2 := (hK2.block (W.heap.size + 1 + 1) (by omega) (.inr (by omega))).trans n2
  have k3 := (hK2.block (W.heap.size + 1 + 1 + 1) (by omega) (.inr (by omega))).trans n3
  have sz2 := hK2.size
  have hK : Keeps B W.heap.size W w2 := (Keeps.ofBelow hb0).trans hK2
  have HK : Hid (Keeps B W.heap.size W w2) := hK
  clear n0 n1 n2 n3 hD hK2 hK
  obtain ⟨c2, f2⟩ := block_cells k2
  obtain ⟨c3, f3⟩ := block_cells k3
  clear k2 k3
  go_wp2_with fail
  refine bodyPost_ret (v := .tuple #[_, _]) (by simp [results, Tryz.results57, go_sem, c2, c3]; exact ⟨rfl, rfl⟩) rfl ⟨_, _, rfl, RepsA.repsF (N := W.heap.size) (M := W.heap.size + 4) ?_, RepRA.repRF (N := W.heap.size) (M := W.heap.size + 4) ?_, Keeps.below (N := W.heap.size) ?_ hB⟩
  · (iterate 10 (refine RepsA.set ?_ (by first | omega | (simp <;> omega)) (by first | omega | (simp <;> omega)) _))
    rw [← hz0]
    exact hr2
  · (iterate 10 (refine RepRA.set ?_ (by first | omega | (simp <;> omega)) (by first | omega | (simp <;> omega)) _))
    rw [← hz0]
    exact hu2
  · (iterate 10 (refine Keeps.setCell ?_ (by first | omega | (simp <;> omega)) _))
    exact HK.out
end Go.Proofs.YtfnephnecighaaaGreat
