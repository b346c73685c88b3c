/- What makes something where there is nothing: perform at an empty value, for each command that makes one with elements. -/
import Derived.Test.YtlfmpgemanbpeaaGreatNn
import Derived.Deep.RegionWith
namespace Go.Proofs.YtlfmpgemanbpeaaGreat
open Go.RowKit
set_option linter.unusedVariables false

theorem four_new (w : World) (o0 o1 o2 o3 : Obj) : ((((w.alloc o0).alloc o1).alloc o2).alloc o3).heap[w.heap.size]? = some o0 ∧ ((((w.alloc o0).alloc o1).alloc o2).alloc o3).heap[w.heap.size + 1]? = some o1 ∧
    ((((w.alloc o0).alloc o1).alloc o2).alloc o3).heap[w.heap.size + 1 + 1]? = some o2 ∧ ((((w.alloc o0).alloc o1).alloc o2).alloc o3).heap[w.heap.size + 1 + 1 + 1]? = some o3 ∧
    Below w.heap.size w ((((w.alloc o0).alloc o1).alloc o2).alloc o3) ∧ ((((w.alloc o0).alloc o1).alloc o2).alloc o3).heap.size = w.heap.size + 4 := by
  refine ⟨?_, ?_, ?_, ?_, (((balloc w _).alloc (by simp) _).alloc (by simp; omega) _).alloc (by simp; omega) _, by simp⟩
  · rw [Below.heap_alloc _ _ _ (by simp; omega), Below.heap_alloc _ _ _ (by simp; omega), Below.heap_alloc _ _ _ (by simp)]
    show ((_ : Array Obj).push _)[_]? = _
    simp
  · rw [Below.heap_alloc _ _ _ (by simp <;> omega), Below.heap_alloc _ _ _ (by simp)]
    show ((_ : Array Obj).push _)[_]? = _
    rw [Array.getElem?_push, if_pos (by simp)]
  · rw [Below.heap_alloc _ _ _ (by simp)]
    show ((_ : Array Obj).push _)[_]? = _
    rw [Array.getElem?_push, if_pos (by simp)]
  · show ((_ : Array Obj).push _)[_]? = _
    rw [Array.getElem?_push, if_pos (by simp)]

theorem row_litP (w : World) (x : ByteArray × ByteArray) (e : TypeId) : RowAt 2 encP (w.alloc (.cells #[.string x.1, .string x.2] e)) (.slice (some ⟨w.heap.size, 0, none⟩) 1 1) [x] := by
  refine ⟨by simp, _, 1, rfl, by simp, by omega, .inr ⟨w.heap.size, 0, rfl, by simp, ?_⟩⟩
  intro i hi c hc
  obtain rfl : i = 0 := by simpa using hi
  have : c = 0 ∨ c = 1 := by omega
  rcases this with rfl | rfl <;> simp [encP]
theorem row_litS (w : World) (x : ByteArray × Int) (e : TypeId) : RowAt 2 encS (w.alloc (.cells #[.string x.1, .int .i64 x.2] e)) (.slice (some ⟨w.heap.size, 0, none⟩) 1 1) [x] := by
  refine ⟨by simp, _, 1, rfl, by simp, by omega, .inr ⟨w.heap.size, 0, rfl, by simp, ?_⟩⟩
  intro i hi c hc
  obtain rfl : i = 0 := by simpa using hi
  have : c = 0 ∨ c = 1 := by omega
  rcases this with rfl | rfl <;> simp [encS]

/-- What is made: a value, and a reply that says one. -/
def Made (f : FuncId) (args : Array Value) (y : Val) : Prop :=
  ∀ W : World, Calls Tryz.prog f args W fun e w' => ∃ v u, e = .returned (.tuple #[v, u]) ∧ RepsF W.heap.size w' v y ∧ RepRF W.heap.size w' u { n := 1 } ∧ Below W.heap.size W w'

theorem full_none (kind : Int) (W : World) : Calls Tryz.prog 109 #[valV kind ⟨#[]⟩ 0 (.slice none 0 0) (.slice none 0 0) (.slice none 0 0)] W fun e w' => e = .returned (.bool false) ∧ Below W.heap.size W w' :=
  isFull_any _ (emptyVal kind) W ⟨_, _, _, rfl, Lists.empty W kind⟩

set_option maxHeartbeats 4000000 in
theorem setField_nil (fld txt : ByteArray) : Made 100 #[valV 3 ⟨#[]⟩ 0 (.slice none 0 0) (.slice none 0 0) (.slice none 0 0), .int .i64 0, .bool false, .agg #[.string fld, .string txt]] { emptyVal 3 with pairs := [(fld, txt)] } := by
  intro W
  have HF : Hid (∀ W, Calls Tryz.prog 109 #[valV 3 ⟨#[]⟩ 0 (.slice none 0 0) (.slice none 0 0) (.slice none 0 0)] W fun e w' => e = .returned (.bool false) ∧ Below W.heap.size W w') := full_none 3
  go_enter Tryz.func100, Tryz.ntmps100
  go_wp2_with fail
  obtain ⟨n0, n1, n2, n3, hB0, hz0⟩ := four_new W (valO 3 ⟨#[]⟩ 0 (.slice none 0 0) (.slice none 0 0) (.slice none 0 0)) (.cells #[.string fld, .string txt] 62) (valO 0 ⟨#[]⟩ 0 (.slice none 0 0) (.slice none 0 0) (.slice none 0 0)) (repO 0 ⟨#[]⟩ 0 (.slice none 0 0))
  generalize (((W.alloc (valO 3 ⟨#[]⟩ 0 (.slice none 0 0) (.slice none 0 0) (.slice none 0 0))).alloc (.cells #[.string fld, .string txt] 62)).alloc (valO 0 ⟨#[]⟩ 0 (.slice none 0 0) (.slice none 0 0) (.slice none 0 0))).alloc (repO 0 ⟨#[]⟩ 0 (.slice none 0 0)) = W0 at n0 n1 n2 n3 hB0 hz0 ⊢
  refine (HF.out _).mono ?_
  rintro e w1 ⟨rfl, hb1⟩
  have hB1 := bstep hB0 hb1
  have sz1 := hb1.size
  have m0 := (hb1.block _ (by omega)).trans n0
  have m1 := (hb1.block _ (by omega)).trans n1
  have m2 := (hb1.block _ (by omega)).trans n2
  have m3 := (hb1.block _ (by omega)).trans n3
  clear n0 n1 n2 n3 hb1
  obtain ⟨c0, f0⟩ := block_cells m0
  obtain ⟨c1, f1⟩ := block_cells m1
  go_wp2_with fail
  refine (insertP_nil _ _ _ (row_litP w1 (fld, txt) 62)).mono ?_
  rintro e w2 ⟨r, rfl, ho2, hb2⟩
  obtain ⟨a2, c2, rfl⟩ := ownsRow_shape ho2.1
  have hl2 := RowAt.ofOwn lenP ho2.1 (by simp)
  have fr2 := (From.own ho2.1).mono (B' := W.heap.size + 4) (by simp; omega)
  have hB2 := bstep (hB1.alloc hB1.size (.cells #[.string fld, .string txt] 62)) hb2
  have sz2 : w1.heap.size < w2.heap.size := by have := hb2.size; simp at this; omega
  have k0 := (hb2.block W.heap.size (by simp; omega)).trans ((Below.heap_alloc _ _ _ (by omega)).trans m0)
  have k2 := (hb2.block (W.heap.size + 1 + 1) (by simp; omega)).trans ((Below.heap_alloc _ _ _ (by omega)).trans m2)
  have k3 := (hb2.block (W.heap.size + 1 + 1 + 1) (by simp; omega)).trans ((Below.heap_alloc _ _ _ (by omega)).trans m3)
  clear m0 m1 m2 m3 c0 f0 c1 f1 hb2 ho2
  obtain ⟨c0, f0⟩ := block_cells k0
  obtain ⟨c2', f2⟩ := block_cells k2
  obtain ⟨c3, f3⟩ := block_cells k3
  clear k0 k2 k3
  have q0 : W.heap.size < w2.heap.size := by omega
  go_wp2_with fail
  go_region_with (go_at_call 102; refine (number_any _ _).mono ?_; rintro e w3 ⟨rfl, rfl⟩)
  all_goals
    go_wp2_with fail
    refine bodyPost_ret (v := .tuple #[valV 3 ⟨#[]⟩ 0 (.slice a2 1 c2) (.slice none 0 0) (.slice none 0 0), repV 0 ⟨#[]⟩ 1 (.slice none 0 0)]) (by simp [results, Tryz.results100, go_sem, c2', c3]) rfl ⟨_, _, rfl, ?_, ⟨_, rfl, RowAt.nil _ _ _, From.nil _⟩, ?_⟩
    · refine RepsF.mono (B := W.heap.size + 4) ?_ (by omega)
      refine RepsF.drew ?_
      (iterate 11 (refine RepsF.setCell ?_ (by first | omega | (simp <;> omega)) _))
      exact ⟨_, _, _, rfl, ⟨hl2, RowAt.nil _ _ _, RowAt.nil _ _ _⟩, fr2, From.nil _, From.nil _⟩
    · refine Below.drew ?_
      (iterate 11 (refine Below.setCell ?_ (by first | omega | (simp <;> omega)) _))
      exact hB2
end Go.Proofs.YtlfmpgemanbpeaaGreat
