/- Out of what is done with a value of a kind: what perform makes. -/
import Derived.Test.YtgpdnhammdgndaaGreatMpJ
namespace Go.Proofs.YtgpdnhammdgndaaGreat
open Go.RowKit
set_option linter.unusedVariables false

/-- A command that is for values of one kind. -/
def ofKind (k : Int) : Prop := (k == 1) = false ∧ (k == 2) = false ∧ (k == 3) = false ∧ (k == 17) = false ∧ (k == 18) = false

set_option maxHeartbeats 4000000 in
theorem perf_hash (x : Val) (c : Cmd) (y : Val) (r : Rep) (hx : x.kind = 3) (hk : ofKind c.k) (hd : Does 66 x c y r) : PerfOk x c y r := by
  intro B W ps is ss hB ho
  obtain ⟨n0, n1, n2, n3, hb0, hz0⟩ := four_at W (valO x.kind x.text x.count ps is ss) (cmdC c) (valO 0 ⟨#[]⟩ 0 (.slice none 0 0) (.slice none 0 0) (.slice none 0 0)) (repO 0 ⟨#[]⟩ 0 (.slice none 0 0))
  have hD := hd B W.heap.size _ ps is ss hB hb0.size (ho.kept hb0) (fun k h => (ho.p.1.lt k h).2) (fun k h => (ho.i.1.lt k h).2) (fun k h => (ho.s.1.lt k h).2)
  obtain ⟨pa, pc, ia, ic, sa, sc, rfl, rfl, rfl⟩ := ho.shapes
  obtain ⟨m1, m2, m3, m17, m18⟩ := hk
  have t1 : (x.kind == 3) = true := by simp [hx]
  have t2 : (x.kind == 4) = false := by simp [hx]
  have t3 : (x.kind == 5) = false := by simp [hx]
  clear hx ho hd
  go_enter Tryz.func39, Tryz.ntmps39
  go_wp2_with fail
  refine hD.mono ?_
  rintro e w2 ⟨v2, u2, rfl, hr2, hu2, hK2⟩
  obtain ⟨pa2, pc2, ia2, ic2, sa2, sc2, rfl⟩ := hr2.repsF.reps.shapes
  obtain ⟨la2, lc2, rfl⟩ := hu2.repRF.rep.shapes
  have k2 := (hK2.block (W.heap.size + 1 + 1) (by omega) (.inr (by omega))).trans n2
  have k3 := (hK2.block (W.heap.size + 1 + 1 + 1) (by omega) (.inr (by omega))).trans n3
  have sz2 := hK2.size
  have hK : Keeps B W.heap.size W w2 := (Keeps.ofBelow hb0).trans hK2
  have HK : Hid (Keeps B W.heap.size W w2) := hK
  clear n0 n1 n2 n3 hD hK2 hK
  obtain ⟨c2, f2⟩ := block_cells k2
  obtain ⟨c3, f3⟩ := block_cells k3
  clear k2 k3
  go_wp2_with fail
  refine bodyPost_ret (v := .tuple #[_, _]) (by simp [results, Tryz.results39, go_sem, c2, c3]; exact ⟨rfl, rfl⟩) rfl ⟨_, _, rfl, RepsA.repsF (N := W.heap.size) (M := W.heap.size + 4) ?_, RepRA.repRF (N := W.heap.size) (M := W.heap.size + 4) ?_, Keeps.below (N := W.heap.size) ?_ hB⟩
  · (iterate 10 (refine RepsA.set ?_ (by first | omega | (simp <;> omega)) (by first | omega | (simp <;> omega)) _))
    rw [← hz0]
    exact hr2
  · (iterate 10 (refine RepRA.set ?_ (by first | omega | (simp <;> omega)) (by first | omega | (simp <;> omega)) _))
    rw [← hz0]
    exact hu2
  · (iterate 10 (refine Keeps.setCell ?_ (by first | omega | (simp <;> omega)) _))
    exact HK.out
set_option maxHeartbeats 4000000 in
theorem perf_list (x : Val) (c : Cmd) (y : Val) (r : Rep) (hx : x.kind = 4) (hk : ofKind c.k) (hd : Does 67 x c y r) : PerfOk x c y r := by
  intro B W ps is ss hB ho
  obtain ⟨n0, n1, n2, n3, hb0, hz0⟩ := four_at W (valO x.kind x.text x.count ps is ss) (cmdC c) (valO 0 ⟨#[]⟩ 0 (.slice none 0 0) (.slice none 0 0) (.slice none 0 0)) (repO 0 ⟨#[]⟩ 0 (.slice none 0 0))
  have hD := hd B W.heap.size _ ps is ss hB hb0.size (ho.kept hb0) (fun k h => (ho.p.1.lt k h).2) (fun k h => (ho.i.1.lt k h).2) (fun k h => (ho.s.1.lt k h).2)
  obtain ⟨pa, pc, ia, ic, sa, sc, rfl, rfl, rfl⟩ := ho.shapes
  obtain ⟨m1, m2, m3, m17, m18⟩ := hk
  have t1 : (x.kind == 3) = false := by simp [hx]
  have t2 : (x.kind == 4) = true := by simp [hx]
  have t3 : (x.kind == 5) = false := by simp [hx]
  clear hx ho hd
  go_enter Tryz.func39, Tryz.ntmps39
  go_wp2_with fail
  refine hD.mono ?_
  rintro e w2 ⟨v2, u2, rfl, hr2, hu2, hK2⟩
  obtain ⟨pa2, pc2, ia2, ic2, sa2, sc2, rfl⟩ := hr2.repsF.reps.shapes
  obtain ⟨la2, lc2, rfl⟩ := hu2.repRF.rep.shapes
  have k2 := (hK2.block (W.heap.size + 1 + 1) (by omega) (.inr (by omega))).trans n2
  have k3 := (hK2.block (W.heap.size + 1 + 1 + 1) (by omega) (.inr (by omega))).trans n3
  have sz2 := hK2.size
  have hK : Keeps B W.heap.size W w2 := (Keeps.ofBelow hb0).trans hK2
  have HK : Hid (Keeps B W.heap.size W w2) := hK
  clear n0 n1 n2 n3 hD hK2 hK
  obtain ⟨c2, f2⟩ := block_cells k2
  obtain ⟨c3, f3⟩ := block_cells k3
  clear k2 k3
  go_wp2_with fail
  refine bodyPost_ret (v := .tuple #[_, _]) (by simp [results, Tryz.results39, go_sem, c2, c3]; exact ⟨rfl, rfl⟩) rfl ⟨_, _, rfl, RepsA.repsF (N := W.heap.size) (M := W.heap.size + 4) ?_, RepRA.repRF (N := W.heap.size) (M := W.heap.size + 4) ?_, Keeps.below (N := W.heap.size) ?_ hB⟩
  · (iterate 10 (refine RepsA.set ?_ (by first | omega | (simp <;> omega)) (by first | omega | (simp <;> omega)) _))
    rw [← hz0]
    exact hr2
  · (iterate 10 (refine RepRA.set ?_ (by first | omega | (simp <;> omega)) (by first | omega | (simp <;> omega)) _))
    rw [← hz0]
    exact hu2
  · (iterate 10 (refine Keeps.setCell ?_ (by first | omega | (simp <;> omega)) _))
    exact HK.out
set_option maxHeartbeats 4000000 in
theorem perf_set (x : Val) (c : Cmd) (y : Val) (r : Rep) (hx : x.kind = 5) (hk : ofKind c.k) (hd : Does 68 x c y r) : PerfOk x c y r := by
  intro B W ps is ss hB ho
  obtain ⟨n0, n1, n2, n3, hb0, hz0⟩ := four_at W (valO x.kind x.text x.count ps is ss) (cmdC c) (valO 0 ⟨#[]⟩ 0 (.slice none 0 0) (.slice none 0 0) (.slice none 0 0)) (repO 0 ⟨#[]⟩ 0 (.slice none 0 0))
  have hD := hd B W.heap.size _ ps is ss hB hb0.size (ho.kept hb0) (fun k h => (ho.p.1.lt k h).2) (fun k h => (ho.i.1.lt k h).2) (fun k h => (ho.s.1.lt k h).2)
  obtain ⟨pa, pc, ia, ic, sa, sc, rfl, rfl, rfl⟩ := ho.shapes
  obtain ⟨m1, m2, m3, m17, m18⟩ := hk
  have t1 : (x.kind == 3) = false := by simp [hx]
  have t2 : (x.kind == 4) = false := by simp [hx]
  have t3 : (x.kind == 5) = true := by simp [hx]
  clear hx ho hd
  go_enter Tryz.func39, Tryz.ntmps39
  go_wp2_with fail
  refine hD.mono ?_
  rintro e w2 ⟨v2, u2, rfl, hr2, hu2, hK2⟩
  obtain ⟨pa2, pc2, ia2, ic2, sa2, sc2, rfl⟩ := hr2.repsF.reps.shapes
  obtain ⟨la2, lc2, rfl⟩ := hu2.repRF.rep.shapes
  have k2 := (hK2.block (W.heap.size + 1 + 1) (by omega) (.inr (by omega))).trans n2
  have k3 := (hK2.block (W.heap.size + 1 + 1 + 1) (by omega) (.inr (by omega))).trans n3
  have sz2 := hK2.size
  have hK : Keeps B W.heap.size W w2 := (Keeps.ofBelow hb0).trans hK2
  have HK : Hid (Keeps B W.heap.size W w2) := hK
  clear n0 n1 n2 n3 hD hK2 hK
  obtain ⟨c2, f2⟩ := block_cells k2
  obtain ⟨c3, f3⟩ := block_cells k3
  clear k2 k3
  go_wp2_with fail
  refine bodyPost_ret (v := .tuple #[_, _]) (by simp [results, Tryz.results39, go_sem, c2, c3]; exact ⟨rfl, rfl⟩) rfl ⟨_, _, rfl, RepsA.repsF (N := W.heap.size) (M := W.heap.size + 4) ?_, RepRA.repRF (N := W.heap.size) (M := W.heap.size + 4) ?_, Keeps.below (N := W.heap.size) ?_ hB⟩
  · (iterate 10 (refine RepsA.set ?_ (by first | omega | (simp <;> omega)) (by first | omega | (simp <;> omega)) _))
    rw [← hz0]
    exact hr2
  · (iterate 10 (refine RepRA.set ?_ (by first | omega | (simp <;> omega)) (by first | omega | (simp <;> omega)) _))
    rw [← hz0]
    exact hu2
  · (iterate 10 (refine Keeps.setCell ?_ (by first | omega | (simp <;> omega)) _))
    exact HK.out
set_option maxHeartbeats 4000000 in
theorem perf_rank (x : Val) (c : Cmd) (y : Val) (r : Rep) (hx : x.kind = 6) (hk : ofKind c.k) (hd : Does 69 x c y r) : PerfOk x c y r := by
  intro B W ps is ss hB ho
  obtain ⟨n0, n1, n2, n3, hb0, hz0⟩ := four_at W (valO x.kind x.text x.count ps is ss) (cmdC c) (valO 0 ⟨#[]⟩ 0 (.slice none 0 0) (.slice none 0 0) (.slice none 0 0)) (repO 0 ⟨#[]⟩ 0 (.slice none 0 0))
  have hD := hd B W.heap.size _ ps is ss hB hb0.size (ho.kept hb0) (fun k h => (ho.p.1.lt k h).2) (fun k h => (ho.i.1.lt k h).2) (fun k h => (ho.s.1.lt k h).2)
  obtain ⟨pa, pc, ia, ic, sa, sc, rfl, rfl, rfl⟩ := ho.shapes
  obtain ⟨m1, m2, m3, m17, m18⟩ := hk
  have t1 : (x.kind == 3) = false := by simp [hx]
  have t2 : (x.kind == 4) = false := by simp [hx]
  have t3 : (x.kind == 5) = false := by simp [hx]
  clear hx ho hd
  go_enter Tryz.func39, Tryz.ntmps39
  go_wp2_with fail
  refine hD.mono ?_
  rintro e w2 ⟨v2, u2, rfl, hr2, hu2, hK2⟩
  obtain ⟨pa2, pc2, ia2, ic2, sa2, sc2, rfl⟩ := hr2.repsF.reps.shapes
  obtain ⟨la2, lc2, rfl⟩ := hu2.repRF.rep.shapes
  have k2 := (hK2.block (W.heap.size + 1 + 1) (by omega) (.inr (by omega))).trans n2
  have k3 := (hK2.block (W.heap.size + 1 + 1 + 1) (by omega) (.inr (by omega))).trans n3
  have sz2 := hK2.size
  have hK : Keeps B W.heap.size W w2 := (Keeps.ofBelow hb0).trans hK2
  have HK : Hid (Keeps B W.heap.size W w2) := hK
  clear n0 n1 n2 n3 hD hK2 hK
  obtain ⟨c2, f2⟩ := block_cells k2
  obtain ⟨c3, f3⟩ := block_cells k3
  clear k2 k3
  go_wp2_with fail
  refine bodyPost_ret (v := .tuple #[_, _]) (by simp [results, Tryz.results39, go_sem, c2, c3]; exact ⟨rfl, rfl⟩) rfl ⟨_, _, rfl, RepsA.repsF (N := W.heap.size) (M := W.heap.size + 4) ?_, RepRA.repRF (N := W.heap.size) (M := W.heap.size + 4) ?_, Keeps.below (N := W.heap.size) ?_ hB⟩
  · (iterate 10 (refine RepsA.set ?_ (by first | omega | (simp <;> omega)) (by first | omega | (simp <;> omega)) _))
    rw [← hz0]
    exact hr2
  · (iterate 10 (refine RepRA.set ?_ (by first | omega | (simp <;> omega)) (by first | omega | (simp <;> omega)) _))
    rw [← hz0]
    exact hu2
  · (iterate 10 (refine Keeps.setCell ?_ (by first | omega | (simp <;> omega)) _))
    exact HK.out
end Go.Proofs.YtgpdnhammdgndaaGreat

/- How many elements a value has, and their names: the commands Len and All. -/
namespace Go.Proofs.YtgpdnhammdgndaaGreat
open Go.RowKit
set_option linter.unusedVariables false

set_option maxHeartbeats 4000000 in
theorem perf_len (x : Val) (c : Cmd) (hk : c.k = 17) (hm : x.size ≤ 1048576) : PerfOk x c x { n := (x.size : Int) } := by
  intro B W ps is ss hB ho
  have hl := ho.lists hm
  have fp := From.own ho.p.1
  have fi := From.own ho.i.1
  have fs := From.own ho.s.1
  have hb0 := perfW_below x c ps is ss W
  have hE := fun w' (hb : Below W.heap.size W w') => elements_any (valV x.kind x.text x.count ps is ss) x w' ⟨_, _, _, rfl, hl.below hb⟩
  obtain ⟨pa, pc, ia, ic, sa, sc, rfl, rfl, rfl⟩ := ho.shapes
  have hfin : ∀ w', Below W.heap.size W w' → RepsF B w' (valV x.kind x.text x.count (.slice pa x.pairs.length pc) (.slice ia x.items.length ic) (.slice sa x.scores.length sc)) x := fun w' h => ⟨_, _, _, rfl, hl.below h, fp, fi, fs⟩
  have HF : Hid (∀ w', Below W.heap.size W w' → RepsF B w' (valV x.kind x.text x.count (.slice pa x.pairs.length pc) (.slice ia x.items.length ic) (.slice sa x.scores.length sc)) x) := hfin
  have HE : Hid (∀ w', Below W.heap.size W w' → Calls Tryz.prog 25 #[valV x.kind x.text x.count (.slice pa x.pairs.length pc) (.slice ia x.items.length ic) (.slice sa x.scores.length sc)] w' fun e w'' => e = .returned (.int .i64 (x.size : Nat)) ∧ Below w'.heap.size w' w'') := hE
  have n1 : (c.k == 1) = false := by simp [hk]
  have n2 : (c.k == 2) = false := by simp [hk]
  have n3 : (c.k == 3) = false := by simp [hk]
  have n17 : (c.k == 17) = true := by simp [hk]
  clear hk ho hl hfin hE
  go_enter Tryz.func39, Tryz.ntmps39
  go_wp2_with fail
  go_region_with (go_at_call 25; refine (HE.out _ ?_).mono ?_; exact hb0.drew; rintro e w1 ⟨rfl, hb1⟩; obtain ⟨ha1, hk1⟩ := same_block (hb1.block W.heap.size (by simp <;> omega)); obtain ⟨hd1, he1⟩ := same_block (hb1.block (W.heap.size + 1 + 1) (by simp <;> omega)); obtain ⟨hg1, hi1⟩ := same_block (hb1.block (W.heap.size + 1 + 1 + 1) (by simp <;> omega)))
  all_goals
    have hB1 := bstep hb0.drew hb1
    clear hb1
    go_wp2_with fail
    refine bodyPost_ret (v := .tuple #[valV x.kind x.text x.count (.slice pa x.pairs.length pc) (.slice ia x.items.length ic) (.slice sa x.scores.length sc), repV 0 ⟨#[]⟩ (x.size : Nat) (.slice none 0 0)]) (by simp [results, Tryz.results39, go_sem, hd1, hg1]) rfl ⟨_, _, rfl, HF.out _ ?_, ⟨_, rfl, RowAt.nil _ _ _, From.nil _⟩, Below.mono (B := W.heap.size) ?_ hB⟩
    all_goals
      (repeat (with_reducible first | exact hB1 | refine Below.drew ?_ | refine Below.setCell ?_ ?_ _))
      all_goals (first | omega | (simp <;> omega))

set_option maxHeartbeats 4000000 in
theorem perf_all (x : Val) (c : Cmd) (hk : c.k = 18) (hm : x.size ≤ 1048576) : PerfOk x c x { list := x.names } := by
  intro B W ps is ss hB ho
  have hl := ho.lists hm
  have fp := From.own ho.p.1
  have fi := From.own ho.i.1
  have fs := From.own ho.s.1
  have hnl : x.names.length ≤ 140737488355328 := by unfold Val.size at hm; simp [Val.names]; omega
  have hb0 := perfW_below x c ps is ss W
  have hz0 := perfW_size x c ps is ss W
  have hE := fun w' (hb : Below W.heap.size W w') => names_any (valV x.kind x.text x.count ps is ss) x w' ⟨_, _, _, rfl, hl.below hb⟩ hm
  obtain ⟨pa, pc, ia, ic, sa, sc, rfl, rfl, rfl⟩ := ho.shapes
  have hfin : ∀ w', Below W.heap.size W w' → RepsF B w' (valV x.kind x.text x.count (.slice pa x.pairs.length pc) (.slice ia x.items.length ic) (.slice sa x.scores.length sc)) x := fun w' h => ⟨_, _, _, rfl, hl.below h, fp, fi, fs⟩
  have HF : Hid (∀ w', Below W.heap.size W w' → RepsF B w' (valV x.kind x.text x.count (.slice pa x.pairs.length pc) (.slice ia x.items.length ic) (.slice sa x.scores.length sc)) x) := hfin
  have HE : Hid (∀ w', Below W.heap.size W w' → Calls Tryz.prog 65 #[valV x.kind x.text x.count (.slice pa x.pairs.length pc) (.slice ia x.items.length ic) (.slice sa x.scores.length sc)] w' fun e w'' => ∃ r, e = .returned r ∧ w''.ownsRow w'.heap.size 9 1 r x.names.length (x.names.flatMap encI) ∧ Below w'.heap.size w' w'') := hE
  have HNL : Hid (x.names.length ≤ 140737488355328) := hnl
  have n1 : (c.k == 1) = false := by simp [hk]
  have n2 : (c.k == 2) = false := by simp [hk]
  have n3 : (c.k == 3) = false := by simp [hk]
  have n17 : (c.k == 17) = false := by simp [hk]
  have n18 : (c.k == 18) = true := by simp [hk]
  clear hk ho hl hfin hE hnl
  generalize x.names = L at HE HNL ⊢
  go_enter Tryz.func39, Tryz.ntmps39
  go_wp2_with fail
  go_region_with (go_at_call 65; refine (HE.out _ ?_).mono ?_; exact hb0.drew; rintro e w1 ⟨r1, rfl, ho1, hb1⟩; obtain ⟨la, lc, rfl⟩ := ownsRow_shape ho1; obtain ⟨ha1, hk1⟩ := same_block (hb1.block W.heap.size (by simp <;> omega)); obtain ⟨hd1, he1⟩ := same_block (hb1.block (W.heap.size + 1 + 1) (by simp <;> omega)); obtain ⟨hg1, hi1⟩ := same_block (hb1.block (W.heap.size + 1 + 1 + 1) (by simp <;> omega)))
  all_goals
    have hB1 := bstep hb0.drew hb1
    have hrow : RowAt 1 encI w1 (.slice la L.length lc) L := RowAt.ofOwn lenI ho1 HNL.out
    have hfr : From (W.heap.size + 4) (.slice la L.length lc) := (From.own ho1).mono (Nat.le_of_eq hz0.symm)
    have hru : RepRF (W.heap.size + 4) w1 (repV 0 ⟨#[]⟩ 0 (.slice la L.length lc)) { list := L } := ⟨_, rfl, hrow, hfr⟩
    clear hb1 ho1 hrow hfr
    go_wp2_with fail
    refine bodyPost_ret (v := .tuple #[valV x.kind x.text x.count (.slice pa x.pairs.length pc) (.slice ia x.items.length ic) (.slice sa x.scores.length sc), repV 0 ⟨#[]⟩ 0 (.slice la L.length lc)]) (by simp [results, Tryz.results39, go_sem, hd1, hg1]) rfl ⟨_, _, rfl, HF.out _ ?_, RepRF.mono (B := W.heap.size + 4) ?_ (by omega), Below.mono (B := W.heap.size) ?_ hB⟩
    rotate_left
    · (repeat (with_reducible first | exact hru | refine RepRF.drew ?_ | refine RepRF.setCell ?_ ?_ _))
      all_goals (first | omega | (simp <;> omega))
    all_goals
      (repeat (with_reducible first | exact hB1 | refine Below.drew ?_ | refine Below.setCell ?_ ?_ _))
      all_goals (first | omega | (simp <;> omega))
end Go.Proofs.YtgpdnhammdgndaaGreat
