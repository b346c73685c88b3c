/- What makes something where there is nothing: lists, sets and members. -/
import Derived.Test.YtlfmpgemanbpeaaGreatNm
namespace Go.Proofs.YtlfmpgemanbpeaaGreat
open Go.RowKit
set_option linter.unusedVariables false

theorem three_new (w : World) (o0 o1 o2 : Obj) : (((w.alloc o0).alloc o1).alloc o2).heap[w.heap.size]? = some o0 ∧ (((w.alloc o0).alloc o1).alloc o2).heap[w.heap.size + 1]? = some o1 ∧
    (((w.alloc o0).alloc o1).alloc o2).heap[w.heap.size + 1 + 1]? = some o2 ∧ Below w.heap.size w (((w.alloc o0).alloc o1).alloc o2) ∧ (((w.alloc o0).alloc o1).alloc o2).heap.size = w.heap.size + 3 := by
  refine ⟨?_, ?_, ?_, ((balloc w _).alloc (by simp) _).alloc (by simp; omega) _, by simp⟩
  · rw [Below.heap_alloc _ _ _ (by simp; omega), Below.heap_alloc _ _ _ (by simp)]
    show ((_ : Array Obj).push _)[_]? = _
    simp
  · rw [Below.heap_alloc _ _ _ (by simp)]
    show ((_ : Array Obj).push _)[_]? = _
    rw [Array.getElem?_push, if_pos (by simp)]
  · show ((_ : Array Obj).push _)[_]? = _
    rw [Array.getElem?_push, if_pos (by simp)]

set_option maxHeartbeats 4000000 in
theorem insertItem_nil (txt : ByteArray) : Made 103 #[valV 4 ⟨#[]⟩ 0 (.slice none 0 0) (.slice none 0 0) (.slice none 0 0), .int .i64 0, .string txt] { emptyVal 4 with items := [txt] } := by
  intro W
  have HF : Hid (∀ W, Calls Tryz.prog 109 #[valV 4 ⟨#[]⟩ 0 (.slice none 0 0) (.slice none 0 0) (.slice none 0 0)] W fun e w' => e = .returned (.bool false) ∧ Below W.heap.size W w') := full_none 4
  go_enter Tryz.func103, Tryz.ntmps103
  go_wp2_with fail
  obtain ⟨n0, n1, n2, hB0, hz0⟩ := three_new W (valO 4 ⟨#[]⟩ 0 (.slice none 0 0) (.slice none 0 0) (.slice none 0 0)) (valO 0 ⟨#[]⟩ 0 (.slice none 0 0) (.slice none 0 0) (.slice none 0 0)) (repO 0 ⟨#[]⟩ 0 (.slice none 0 0))
  generalize ((W.alloc (valO 4 ⟨#[]⟩ 0 (.slice none 0 0) (.slice none 0 0) (.slice none 0 0))).alloc (valO 0 ⟨#[]⟩ 0 (.slice none 0 0) (.slice none 0 0) (.slice none 0 0))).alloc (repO 0 ⟨#[]⟩ 0 (.slice none 0 0)) = W0 at n0 n1 n2 hB0 hz0 ⊢
  refine (HF.out _).mono ?_
  rintro e w1 ⟨rfl, hb1⟩
  have hB1 := bstep hB0 hb1
  have sz1 := hb1.size
  have m0 := (hb1.block _ (by omega)).trans n0
  have m1 := (hb1.block _ (by omega)).trans n1
  have m2 := (hb1.block _ (by omega)).trans n2
  clear n0 n1 n2 hb1
  obtain ⟨c0, f0⟩ := block_cells m0
  go_wp2_with fail
  refine (insertI_nil _ _ _ (row_lit1 w1 txt 9 _ rfl)).mono ?_
  rintro e w2 ⟨r, rfl, ho2, hb2⟩
  obtain ⟨a2, c2, rfl⟩ := ownsRow_shape ho2.1
  have hl2 := RowAt.ofOwn lenI ho2.1 (by simp)
  have fr2 := (From.own ho2.1).mono (B' := W.heap.size + 3) (by simp; omega)
  have hB2 := bstep (hB1.alloc hB1.size (.cells #[.string txt] 9)) hb2
  have sz2 : w1.heap.size < w2.heap.size := by have := hb2.size; simp at this; omega
  have k0 := (hb2.block W.heap.size (by simp; omega)).trans ((Below.heap_alloc _ _ _ (by omega)).trans m0)
  have k1 := (hb2.block (W.heap.size + 1) (by simp; omega)).trans ((Below.heap_alloc _ _ _ (by omega)).trans m1)
  have k2 := (hb2.block (W.heap.size + 1 + 1) (by simp; omega)).trans ((Below.heap_alloc _ _ _ (by omega)).trans m2)
  clear m0 m1 m2 c0 f0 hb2 ho2
  obtain ⟨c0, f0⟩ := block_cells k0
  obtain ⟨c1, f1⟩ := block_cells k1
  obtain ⟨c2', f2⟩ := block_cells k2
  clear k0 k1 k2
  have q0 : W.heap.size < w2.heap.size := by omega
  go_wp2_with fail
  go_region
  all_goals
    (try go_wp2_with fail)
    refine bodyPost_ret (v := .tuple #[valV 4 ⟨#[]⟩ 0 (.slice none 0 0) (.slice a2 1 c2) (.slice none 0 0), repV 0 ⟨#[]⟩ 1 (.slice none 0 0)]) (by simp [results, Tryz.results103, go_sem, c2', c1]) rfl ⟨_, _, rfl, ?_, ⟨_, rfl, RowAt.nil _ _ _, From.nil _⟩, ?_⟩
    · refine RepsF.mono (B := W.heap.size + 3) ?_ (by omega)
      refine RepsF.drew ?_
      (iterate 11 (refine RepsF.setCell ?_ (by first | omega | (simp <;> omega)) _))
      exact ⟨_, _, _, rfl, ⟨RowAt.nil _ _ _, hl2, RowAt.nil _ _ _⟩, From.nil _, fr2, From.nil _⟩
    · refine Below.drew ?_
      (iterate 11 (refine Below.setCell ?_ (by first | omega | (simp <;> omega)) _))
      exact hB2
set_option maxHeartbeats 4000000 in
theorem addItem_nil (txt : ByteArray) : Made 106 #[valV 5 ⟨#[]⟩ 0 (.slice none 0 0) (.slice none 0 0) (.slice none 0 0), .int .i64 0, .bool false, .string txt] { emptyVal 5 with items := [txt] } := by
  intro W
  have HF : Hid (∀ W, Calls Tryz.prog 109 #[valV 5 ⟨#[]⟩ 0 (.slice none 0 0) (.slice none 0 0) (.slice none 0 0)] W fun e w' => e = .returned (.bool false) ∧ Below W.heap.size W w') := full_none 5
  go_enter Tryz.func106, Tryz.ntmps106
  go_wp2_with fail
  obtain ⟨n0, n1, n2, hB0, hz0⟩ := three_new W (valO 5 ⟨#[]⟩ 0 (.slice none 0 0) (.slice none 0 0) (.slice none 0 0)) (valO 0 ⟨#[]⟩ 0 (.slice none 0 0) (.slice none 0 0) (.slice none 0 0)) (repO 0 ⟨#[]⟩ 0 (.slice none 0 0))
  generalize ((W.alloc (valO 5 ⟨#[]⟩ 0 (.slice none 0 0) (.slice none 0 0) (.slice none 0 0))).alloc (valO 0 ⟨#[]⟩ 0 (.slice none 0 0) (.slice none 0 0) (.slice none 0 0))).alloc (repO 0 ⟨#[]⟩ 0 (.slice none 0 0)) = W0 at n0 n1 n2 hB0 hz0 ⊢
  refine (HF.out _).mono ?_
  rintro e w1 ⟨rfl, hb1⟩
  have hB1 := bstep hB0 hb1
  have sz1 := hb1.size
  have m0 := (hb1.block _ (by omega)).trans n0
  have m1 := (hb1.block _ (by omega)).trans n1
  have m2 := (hb1.block _ (by omega)).trans n2
  clear n0 n1 n2 hb1
  obtain ⟨c0, f0⟩ := block_cells m0
  go_wp2_with fail
  refine (insertI_nil _ _ _ (row_lit1 w1 txt 9 _ rfl)).mono ?_
  rintro e w2 ⟨r, rfl, ho2, hb2⟩
  obtain ⟨a2, c2, rfl⟩ := ownsRow_shape ho2.1
  have hl2 := RowAt.ofOwn lenI ho2.1 (by simp)
  have fr2 := (From.own ho2.1).mono (B' := W.heap.size + 3) (by simp; omega)
  have hB2 := bstep (hB1.alloc hB1.size (.cells #[.string txt] 9)) hb2
  have sz2 : w1.heap.size < w2.heap.size := by have := hb2.size; simp at this; omega
  have k0 := (hb2.block W.heap.size (by simp; omega)).trans ((Below.heap_alloc _ _ _ (by omega)).trans m0)
  have k1 := (hb2.block (W.heap.size + 1) (by simp; omega)).trans ((Below.heap_alloc _ _ _ (by omega)).trans m1)
  have k2 := (hb2.block (W.heap.size + 1 + 1) (by simp; omega)).trans ((Below.heap_alloc _ _ _ (by omega)).trans m2)
  clear m0 m1 m2 c0 f0 hb2 ho2
  obtain ⟨c0, f0⟩ := block_cells k0
  obtain ⟨c1, f1⟩ := block_cells k1
  obtain ⟨c2', f2⟩ := block_cells k2
  clear k0 k1 k2
  have q0 : W.heap.size < w2.heap.size := by omega
  go_wp2_with fail
  skip
  all_goals
    (try go_wp2_with fail)
    refine bodyPost_ret (v := .tuple #[valV 5 ⟨#[]⟩ 0 (.slice none 0 0) (.slice a2 1 c2) (.slice none 0 0), repV 0 ⟨#[]⟩ 1 (.slice none 0 0)]) (by simp [results, Tryz.results106, go_sem, c2', c1]) rfl ⟨_, _, rfl, ?_, ⟨_, rfl, RowAt.nil _ _ _, From.nil _⟩, ?_⟩
    · refine RepsF.mono (B := W.heap.size + 3) ?_ (by omega)
      skip
      (iterate 11 (refine RepsF.setCell ?_ (by first | omega | (simp <;> omega)) _))
      exact ⟨_, _, _, rfl, ⟨RowAt.nil _ _ _, hl2, RowAt.nil _ _ _⟩, From.nil _, fr2, From.nil _⟩
    · skip
      (iterate 11 (refine Below.setCell ?_ (by first | omega | (simp <;> omega)) _))
      exact hB2

set_option maxHeartbeats 1000000 in
theorem withoutScore_none (w : World) : Calls Tryz.prog 111 #[.slice none 0 0, .int .i64 (-1)] w fun e w' => e = .returned (.slice none 0 0) ∧ w = w' := by
  go_enter Tryz.func111, Tryz.ntmps111
  go_wp2_with fail
  go_ret
  exact ⟨rfl, rfl⟩

set_option maxHeartbeats 2000000 in
theorem insertScore_nil (m : ByteArray) (n : Int) (w : World) : Calls Tryz.prog 110 #[.slice none 0 0, .agg #[.string m, .int .i64 n]] w fun e w' => ∃ r, e = .returned r ∧ OwnL w.heap.size 48 2 encS w' r [(m, n)] ∧ Below w.heap.size w w' := by
  go_enter Tryz.func110, Tryz.ntmps110
  go_wp2_with fail
  refine (bsearchS_nil _ _ _ _).mono ?_
  rintro e w1 ⟨rfl, hb1⟩
  have hB1 := bstep (balloc _ _) hb1
  have k0 := (hb1.block w.heap.size (by simp)).trans (show (w.alloc (.cells #[.string m, .int .i64 n] 48)).heap[w.heap.size]? = some (.cells #[.string m, .int .i64 n] 48) by show ((_ : Array Obj).push _)[_]? = _; simp)
  obtain ⟨c0, f0⟩ := block_cells k0
  go_wp2_with fail
  refine (insertS_nil _ _ _ (row_litS w1 (m, n) 48)).mono ?_
  rintro e w2 ⟨r, rfl, ho2, hb2⟩
  have hB2 := bstep (hB1.alloc hB1.size _) hb2
  have ho2 := ho2.base (B' := w.heap.size) (Nat.le_trans hB1.size (by simp))
  go_wp2_with fail
  go_ret
  exact ⟨_, rfl, ho2, hB2⟩
end Go.Proofs.YtlfmpgemanbpeaaGreat
