/- A machine that is new; whether machines that have nothing are the same. -/
import Derived.Test.YtafkdbogfgffbaaBa
namespace Go.Proofs.Ytafkdbogfgffbaa
open Go.RowKit
set_option linter.unusedVariables false

theorem blk_same {w w' : World} {b : Nat} (h : w'.heap[b]? = w.heap[b]?) : (∀ o, w'.cell? ⟨b, o, none⟩ = w.cell? ⟨b, o, none⟩) ∧ (∀ o, w'.frozen? ⟨b, o, none⟩ = w.frozen? ⟨b, o, none⟩) := same_block h
abbrev nilV : Value := .slice none 0 0
abbrev machV (now : Int) (es : Value) (next : Int) (cs : Value) : Value := .agg #[.int .i64 now, es, .int .i64 next, cs]

set_option maxHeartbeats 400000 in
theorem newMachine_any (w : World) : Calls Try.prog 29 #[] w fun e w' => e = .returned (machV 0 nilV 1 nilV) ∧ Below w.heap.size w w' := by
  go_enter Try.func29, Try.ntmps29
  go_wp2_with fail
  refine bodyPost_ret (v := machV 0 nilV 1 nilV) (by simp [results, Try.results29, go_sem]) rfl ⟨rfl, ?_⟩
  (repeat (with_reducible first | exact balloc _ _ | refine Below.drew ?_ | refine Below.setCell ?_ ?_ _))
  all_goals (first | omega | (simp <;> omega))
set_option maxHeartbeats 400000 in
theorem emptyMachine_any (w : World) : Calls Try.prog 30 #[] w fun e w' => e = .returned (machV 0 nilV 1 nilV) ∧ Below w.heap.size w w' := by
  go_enter Try.func30, Try.ntmps30
  go_wp2_with fail
  refine bodyPost_ret (v := machV 0 nilV 1 nilV) (by simp [results, Try.results30, go_sem]) rfl ⟨rfl, ?_⟩
  (repeat (with_reducible first | exact balloc _ _ | refine Below.drew ?_ | refine Below.setCell ?_ ?_ _))
  all_goals (first | omega | (simp <;> omega))
set_option maxHeartbeats 1000000 in
theorem sameStore_nil (w : World) : Calls Try.prog 59 #[.agg #[.int .i64 0, nilV], .agg #[.int .i64 0, nilV]] w fun e w' => e = .returned (.bool true) ∧ Below w.heap.size w w' := by
  go_enter Try.func59, Try.ntmps59
  go_wp2
  go_loop [5] (fun i => i = .int .i64 0) (fun _ => 0)
  case atStart => exact rfl
  case round =>
    subst hrel
    go_wp2
    go_ret
    exact ⟨rfl, (balloc _ _).alloc (by simp) _⟩

set_option maxHeartbeats 1000000 in
theorem sameMachine_nil (w : World) : Calls Try.prog 45 #[machV 0 nilV 1 nilV, machV 0 nilV 1 nilV] w fun e w' => e = .returned (.bool true) ∧ Below w.heap.size w w' := by
  go_enter Try.func45, Try.ntmps45
  have hb0 := (balloc w (.cells #[.int .i64 0, nilV, .int .i64 1, nilV] 27)).alloc (by simp) (.cells #[.int .i64 0, nilV, .int .i64 1, nilV] 27)
  go_wp2_with fail
  refine (sameStore_nil _).mono ?_
  rintro e w1 ⟨rfl, hb1⟩
  have hB1 := bstep hb0 hb1
  obtain ⟨hc1, hf1⟩ := blk_same (hb1.block w.heap.size (by simp; omega))
  obtain ⟨hd1, he1⟩ := blk_same (hb1.block (w.heap.size + 1) (by simp))
  clear hb1
  go_wp2_with fail
  go_loop [5] (fun i => i = .int .i64 0) (fun _ => 0)
  case atStart => exact rfl
  case round =>
    subst hrel
    go_wp2
    go_ret
    exact ⟨rfl, hB1⟩
end Go.Proofs.Ytafkdbogfgffbaa
