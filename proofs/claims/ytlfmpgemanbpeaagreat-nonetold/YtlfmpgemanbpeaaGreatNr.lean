/- What makes something where there is nothing: a member with a number. -/
import Derived.Test.YtlfmpgemanbpeaaGreatNo
namespace Go.Proofs.YtlfmpgemanbpeaaGreat
open Go.RowKit
set_option linter.unusedVariables false

abbrev cmdB' (c : Cmd) : Obj := .cells #[.int .i64 c.k, .string c.key, .string c.fld, .string c.txt, .int .i64 c.n] 34

set_option maxHeartbeats 8000000 in
theorem performRank_nil (c : Cmd) (hk : c.k = 14) : Made 84 #[valV 6 ⟨#[]⟩ 0 (.slice none 0 0) (.slice none 0 0) (.slice none 0 0), c.v] { emptyVal 6 with scores := [(c.txt, c.n)] } := by
  intro W
  have n4 : (c.k == 14) = true := by simpa using hk
  clear hk
  have HF : Hid (∀ W, Calls Tryz.prog 109 #[valV 6 ⟨#[]⟩ 0 (.slice none 0 0) (.slice none 0 0) (.slice none 0 0)] W fun e w' => e = .returned (.bool false) ∧ Below W.heap.size W w') := full_none 6
  go_enter Tryz.func84, Tryz.ntmps84
  go_wp2_with fail
  obtain ⟨n0, n1, n2, n3, hB0, hz0⟩ := four_new W (valO 6 ⟨#[]⟩ 0 (.slice none 0 0) (.slice none 0 0) (.slice none 0 0)) (cmdB' c) (valO 0 ⟨#[]⟩ 0 (.slice none 0 0) (.slice none 0 0) (.slice none 0 0)) (repO 0 ⟨#[]⟩ 0 (.slice none 0 0))
  generalize (((W.alloc (valO 6 ⟨#[]⟩ 0 (.slice none 0 0) (.slice none 0 0) (.slice none 0 0))).alloc (cmdB' c)).alloc (valO 0 ⟨#[]⟩ 0 (.slice none 0 0) (.slice none 0 0) (.slice none 0 0))).alloc (repO 0 ⟨#[]⟩ 0 (.slice none 0 0)) = W0 at n0 n1 n2 n3 hB0 hz0 ⊢
  refine (indexS_nil _ _).mono ?_
  rintro e w1 ⟨rfl, hb1⟩
  have hB1 := bstep hB0 hb1
  have sz1 := hb1.size
  have m0 := (hb1.block _ (by omega)).trans n0
  have m1 := (hb1.block _ (by omega)).trans n1
  have m2 := (hb1.block _ (by omega)).trans n2
  have m3 := (hb1.block _ (by omega)).trans n3
  clear n0 n1 n2 n3 hb1
  obtain ⟨c0, f0⟩ := block_cells m0
  obtain ⟨c1, f1⟩ := block_cells m1
  go_wp2_with fail
  refine (HF.out _).mono ?_
  rintro e w2 ⟨rfl, hb2⟩
  have hB2 := bstep hB1 hb2
  have sz2 := hb2.size
  have m0 := (hb2.block _ (by omega)).trans m0
  have m1 := (hb2.block _ (by omega)).trans m1
  have m2 := (hb2.block _ (by omega)).trans m2
  have m3 := (hb2.block _ (by omega)).trans m3
  clear hb2 c0 f0 c1 f1
  obtain ⟨c0, f0⟩ := block_cells m0
  obtain ⟨c1, f1⟩ := block_cells m1
  go_wp2_with fail
  go_region_with (first
    | (go_at_call 111; refine (withoutScore_none _).mono ?_; rintro e w3 ⟨rfl, rfl⟩)
    | (go_at_call 110; refine (insertScore_nil _ _ _).mono ?_; rintro e w4 ⟨r4, rfl, ho4, hb4⟩; obtain ⟨a4, c4, rfl⟩ := ownsRow_shape ho4.1; obtain ⟨d0, g0⟩ := same_block (hb4.block W.heap.size (by simp; omega)); obtain ⟨d1, g1⟩ := same_block (hb4.block (W.heap.size + 1) (by simp; omega)); have q4 : W.heap.size < w4.heap.size := Nat.lt_of_lt_of_le (by simp; omega) hb4.size))
  all_goals
    have sz4 : w2.heap.size ≤ w4.heap.size := hb4.size
    have hB4 := bstep hB2.drew hb4
    have k0 := (hb4.block W.heap.size (show _ < w2.heap.size by omega)).trans m0
    have k2 := (hb4.block (W.heap.size + 1 + 1) (show _ < w2.heap.size by omega)).trans m2
    have k3 := (hb4.block (W.heap.size + 1 + 1 + 1) (show _ < w2.heap.size by omega)).trans m3
    have hl4 := RowAt.ofOwn lenS ho4.1 (by simp)
    have fr4 := (From.own ho4.1).mono (B' := W.heap.size + 4) (show _ ≤ w2.heap.size by omega)
    clear hb4 ho4 c0 f0 c1 f1 d0 g0 d1 g1
    obtain ⟨c0, f0⟩ := block_cells k0
    obtain ⟨c2, f2⟩ := block_cells k2
    obtain ⟨c3, f3⟩ := block_cells k3
    clear k0 k2 k3
    have q0 : W.heap.size < w4.heap.size := by omega
    go_wp2_with fail
    go_region_with (go_at_call 102; refine (number_any _ _).mono ?_; rintro e w5 ⟨rfl, rfl⟩)
  all_goals
    go_wp2_with fail
    refine bodyPost_ret (v := .tuple #[valV 6 ⟨#[]⟩ 0 (.slice none 0 0) (.slice none 0 0) (.slice a4 1 c4), repV 0 ⟨#[]⟩ 1 (.slice none 0 0)]) (by simp [results, Tryz.results84, go_sem, c2, c3]) rfl ⟨_, _, rfl, ?_, ⟨_, rfl, RowAt.nil _ _ _, From.nil _⟩, ?_⟩
    · refine RepsF.mono (B := W.heap.size + 4) ?_ (by omega)
      refine RepsF.drew ?_
      (iterate 11 (refine RepsF.setCell ?_ (by first | omega | (simp <;> omega)) _))
      exact ⟨_, _, _, rfl, ⟨RowAt.nil _ _ _, RowAt.nil _ _ _, hl4⟩, From.nil _, From.nil _, fr4⟩
    · refine Below.drew ?_
      (iterate 11 (refine Below.setCell ?_ (by first | omega | (simp <;> omega)) _))
      exact hB4
end Go.Proofs.YtlfmpgemanbpeaaGreat
