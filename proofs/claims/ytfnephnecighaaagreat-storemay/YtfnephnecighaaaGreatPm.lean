/- How many elements a value has, and their names: the commands Len and All. -/
import Derived.Test.YtfnephnecighaaaGreatPd
namespace Go.Proofs.YtfnephnecighaaaGreat
open Go.RowKit
set_option linter.unusedVariables false

set_option maxHeartbeats 4000000 in
theorem perf_len (x : Val) (c : Cmd) (hk : c.k = 17) (hm : x.size ≤ 1048576) : PerfOk x c x { n := (x.size : Int) } := by
  intro B W ps is ss hB ho
  have hl := ho.lists hm
  have fp := From.own ho.p.1
  have fi := From.own ho.i.1
  have fs := From.own ho.s.1
  have hb0 := perfW_below x c ps is ss W
  have hE := fun w' (hb : Below W.heap.size W w') => elements_any (valV x.kind x.text x.count ps is ss) x w' ⟨_, _, _, rfl, hl.below hb⟩
  obtain ⟨pa, pc, ia, ic, sa, sc, rfl, rfl, rfl⟩ := ho.shapes
  have hfin : ∀ w', Below W.heap.size W w' → RepsF B w' (valV x.kind x.text x.count (.slice pa x.pairs.length pc) (.slice ia x.items.length ic) (.slice sa x.scores.length sc)) x := fun w' h => ⟨_, _, _, rfl, hl.below h, fp, fi, fs⟩
  have HF : Hid (∀ w', Below W.heap.size W w' → RepsF B w' (valV x.kind x.text x.count (.slice pa x.pairs.length pc) (.slice ia x.items.length ic) (.slice sa x.scores.length sc)) x) := hfin
  have HE : Hid (∀ w', Below W.heap.size W w' → Calls Tryz.prog 32 #[valV x.kind x.text x.count (.slice pa x.pairs.length pc) (.slice ia x.items.length ic) (.slice sa x.scores.length sc)] w' fun e w'' => e = .returned (.int .i64 (x.size : Nat)) ∧ Below w'.heap.size w' w'') := hE
  have n1 : (c.k == 1) = false := by simp [hk]
  have n2 : (c.k == 2) = false := by simp [hk]
  have n3 : (c.k == 3) = false := by simp [hk]
  have n17 : (c.k == 17) = true := by simp [hk]
  clear hk ho hl hfin hE
  go_enter Tryz.func57, Tryz.ntmps57
  go_wp2_with fail
  go_region_with (go_at_call 32; refine (HE.out _ ?_).mono ?_; exact hb0.drew; rintro e w1 ⟨rfl, hb1⟩; obtain ⟨ha1, hk1⟩ := same_block (hb1.block W.heap.size (by simp <;> omega)); obtain ⟨hd1, he1⟩ := same_block (hb1.block (W.heap.size + 1 + 1) (by simp <;> omega)); obtain ⟨hg1, hi1⟩ := same_block (hb1.block (W.heap.size + 1 + 1 + 1) (by simp <;> omega)))
  all_goals
    have hB1 := bstep hb0.drew hb1
    clear hb1
    go_wp2_with fail
    refine bodyPost_ret (v := .tuple #[valV x.kind x.text x.count (.slice pa x.pairs.length pc) (.slice ia x.items.length ic) (.slice sa x.scores.length sc), repV 0 ⟨#[]⟩ (x.size : Nat) (.slice none 0 0)]) (by simp [results, Tryz.results57, go_sem, hd1, hg1]) rfl ⟨_, _, rfl, HF.out _ ?_, ⟨_, rfl, RowAt.nil _ _ _, From.nil _⟩, Below.mono (B := W.heap.size) ?_ hB⟩
    all_goals
      (repeat (with_reducible first | exact hB1 | refine Below.drew ?_ | refine Below.setCell ?_ ?_ _))
      all_goals (first | omega | (simp <;> omega))

set_option maxHeartbeats 4000000 in
theorem perf_all (x : Val) (c : Cmd) (hk : c.k = 18) (hm : x.size ≤ 1048576) : PerfOk x c x { list := x.names } := by
  intro B W ps is ss hB ho
  have hl := ho.lists hm
  have fp := From.own ho.p.1
  have fi := From.own ho.i.1
  have fs := From.own ho.s.1
  have hnl : x.names.length ≤ 140737488355328 := by unfold Val.size at hm; simp [Val.names]; omega
  have hb0 := perfW_below x c ps is ss W
  have hz0 := perfW_size x c ps is ss W
  have hE := fun w' (hb : Below W.heap.size W w') => names_any (valV x.kind x.text x.count ps is ss) x w' ⟨_, _, _, rfl, hl.below hb⟩ hm
  obtain ⟨pa, pc, ia, ic, sa, sc, rfl, rfl, rfl⟩ := ho.shapes
  have hfin : ∀ w', Below W.heap.size W w' → RepsF B w' (valV x.kind x.text x.count (.slice pa x.pairs.length pc) (.slice ia x.items.length ic) (.slice sa x.scores.length sc)) x := fun w' h => ⟨_, _, _, rfl, hl.below h, fp, fi, fs⟩
  have HF : Hid (∀ w', Below W.heap.size W w' → RepsF B w' (valV x.kind x.text x.count (.slice pa x.pairs.length pc) (.slice ia x.items.length ic) (.slice sa x.scores.length sc)) x) := hfin
  have HE : Hid (∀ w', Below W.heap.size W w' → Calls Tryz.prog 95 #[valV x.kind x.text x.count (.slice pa x.pairs.length pc) (.slice ia x.items.length ic) (.slice sa x.scores.length sc)] w' fun e w'' => ∃ r, e = .returned r ∧ w''.ownsRow w'.heap.size 9 1 r x.names.length (x.names.flatMap encI) ∧ Below w'.heap.size w' w'') := hE
  have HNL : Hid (x.names.length ≤ 140737488355328) := hnl
  have n1 : (c.k == 1) = false := by simp [hk]
  have n2 : (c.k == 2) = false := by simp [hk]
  have n3 : (c.k == 3) = false := by simp [hk]
  have n17 : (c.k == 17) = false := by simp [hk]
  have n18 : (c.k == 18) = true := by simp [hk]
  clear hk ho hl hfin hE hnl
  generalize x.names = L at HE HNL ⊢
  go_enter Tryz.func57, Tryz.ntmps57
  go_wp2_with fail
  go_region_with (go_at_call 95; refine (HE.out _ ?_).mono ?_; exact hb0.drew; rintro e w1 ⟨r1, rfl, ho1, hb1⟩; obtain ⟨la, lc, rfl⟩ := ownsRow_shape ho1; obtain ⟨ha1, hk1⟩ := same_block (hb1.block W.heap.size (by simp <;> omega)); obtain ⟨hd1, he1⟩ := same_block (hb1.block (W.heap.size + 1 + 1) (by simp <;> omega)); obtain ⟨hg1, hi1⟩ := same_block (hb1.block (W.heap.size + 1 + 1 + 1) (by simp <;> omega)))
  all_goals
    have hB1 := bstep hb0.drew hb1
    have hrow : RowAt 1 encI w1 (.slice la L.length lc) L := RowAt.ofOwn lenI ho1 HNL.out
    have hfr : From (W.heap.size + 4) (.slice la L.length lc) := (From.own ho1).mono (Nat.le_of_eq hz0.symm)
    have hru : RepRF (W.heap.size + 4) w1 (repV 0 ⟨#[]⟩ 0 (.slice la L.length lc)) { list := L } := ⟨_, rfl, hrow, hfr⟩
    clear hb1 ho1 hrow hfr
    go_wp2_with fail
    refine bodyPost_ret (v := .tuple #[valV x.kind x.text x.count (.slice pa x.pairs.length pc) (.slice ia x.items.length ic) (.slice sa x.scores.length sc), repV 0 ⟨#[]⟩ 0 (.slice la L.length lc)]) (by simp [results, Tryz.results57, go_sem, hd1, hg1]) rfl ⟨_, _, rfl, HF.out _ ?_, RepRF.mono (B := W.heap.size + 4) ?_ (by omega), Below.mono (B := W.heap.size) ?_ hB⟩
    rotate_left
    · (repeat (with_reducible first | exact hru | refine RepRF.drew ?_ | refine RepRF.setCell ?_ ?_ _))
      all_goals (first | omega | (simp <;> omega))
    all_goals
      (repeat (with_reducible first | exact hB1 | refine Below.drew ?_ | refine Below.setCell ?_ ?_ _))
      all_goals (first | omega | (simp <;> omega))
end Go.Proofs.YtfnephnecighaaaGreat
