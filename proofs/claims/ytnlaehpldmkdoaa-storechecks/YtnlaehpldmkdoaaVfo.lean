/- A value that has what its kind has not: rostrumref.ValueFault says so. -/
import Derived.Test.YtnlaehpldmkdoaaVf2
import Derived.Test.YtnlaehpldmkdoaaBz
namespace Go.Proofs.Ytnlaehpldmkdoaa
open Go.RowKit
set_option linter.unusedVariables false
set_option maxRecDepth 100000

set_option maxHeartbeats 2000000 in
theorem formF_1_2 (x : Val) (pa ia sa : Option Addr) (pc ic sc : Nat) (w : World) (b1 : x.pairs.length ≤ 140737488355328) (b2 : x.items.length ≤ 140737488355328) (b3 : x.scores.length ≤ 140737488355328) (e0 : inB x.kind 1 6 = true) (hk1 : (x.kind != 1) = false) (hk2 : (x.kind != 2) = true) (hk3 : (x.kind != 3) = true) (hk4 : (x.kind == 4) = false) (hk5 : (x.kind == 5) = false) (hk6 : (x.kind != 6) = true) (hz2 : (x.count != 0) = true) :
    Calls Try.prog 16 #[valV x.kind x.text x.count (.slice pa x.pairs.length pc) (.slice ia x.items.length ic) (.slice sa x.scores.length sc)] w fun e w' => e = .returned (.int .i64 8) ∧ Below w.heap.size w w' := by
  go_enter Try.func16, Try.ntmps16
  go_wp2_with (go_at_call 43; refine (in_any _ _ _ _).mono ?_; rintro e w3 ⟨rfl, rfl⟩; rw [e0])
  go_ret
  exact ⟨rfl, balloc _ _⟩
set_option maxHeartbeats 2000000 in
theorem formF_1_3 (x : Val) (pa ia sa : Option Addr) (pc ic sc : Nat) (w : World) (b1 : x.pairs.length ≤ 140737488355328) (b2 : x.items.length ≤ 140737488355328) (b3 : x.scores.length ≤ 140737488355328) (e0 : inB x.kind 1 6 = true) (hk1 : (x.kind != 1) = false) (hk2 : (x.kind != 2) = true) (hk3 : (x.kind != 3) = true) (hk4 : (x.kind == 4) = false) (hk5 : (x.kind == 5) = false) (hk6 : (x.kind != 6) = true) (hz2 : (x.count != 0) = false) (hz3 : decide (0 < x.pairs.length) = true) :
    Calls Try.prog 16 #[valV x.kind x.text x.count (.slice pa x.pairs.length pc) (.slice ia x.items.length ic) (.slice sa x.scores.length sc)] w fun e w' => e = .returned (.int .i64 8) ∧ Below w.heap.size w w' := by
  go_enter Try.func16, Try.ntmps16
  go_wp2_with (go_at_call 43; refine (in_any _ _ _ _).mono ?_; rintro e w3 ⟨rfl, rfl⟩; rw [e0])
  go_ret
  exact ⟨rfl, balloc _ _⟩
set_option maxHeartbeats 2000000 in
theorem formF_1_4 (x : Val) (pa ia sa : Option Addr) (pc ic sc : Nat) (w : World) (b1 : x.pairs.length ≤ 140737488355328) (b2 : x.items.length ≤ 140737488355328) (b3 : x.scores.length ≤ 140737488355328) (e0 : inB x.kind 1 6 = true) (hk1 : (x.kind != 1) = false) (hk2 : (x.kind != 2) = true) (hk3 : (x.kind != 3) = true) (hk4 : (x.kind == 4) = false) (hk5 : (x.kind == 5) = false) (hk6 : (x.kind != 6) = true) (hz2 : (x.count != 0) = false) (hz3 : decide (0 < x.pairs.length) = false) (hz4 : decide (0 < x.items.length) = true) :
    Calls Try.prog 16 #[valV x.kind x.text x.count (.slice pa x.pairs.length pc) (.slice ia x.items.length ic) (.slice sa x.scores.length sc)] w fun e w' => e = .returned (.int .i64 8) ∧ Below w.heap.size w w' := by
  go_enter Try.func16, Try.ntmps16
  go_wp2_with (go_at_call 43; refine (in_any _ _ _ _).mono ?_; rintro e w3 ⟨rfl, rfl⟩; rw [e0])
  go_ret
  exact ⟨rfl, balloc _ _⟩
set_option maxHeartbeats 2000000 in
theorem formF_1_5 (x : Val) (pa ia sa : Option Addr) (pc ic sc : Nat) (w : World) (b1 : x.pairs.length ≤ 140737488355328) (b2 : x.items.length ≤ 140737488355328) (b3 : x.scores.length ≤ 140737488355328) (e0 : inB x.kind 1 6 = true) (hk1 : (x.kind != 1) = false) (hk2 : (x.kind != 2) = true) (hk3 : (x.kind != 3) = true) (hk4 : (x.kind == 4) = false) (hk5 : (x.kind == 5) = false) (hk6 : (x.kind != 6) = true) (hz2 : (x.count != 0) = false) (hz3 : decide (0 < x.pairs.length) = false) (hz4 : decide (0 < x.items.length) = false) (hz5 : decide (0 < x.scores.length) = true) :
    Calls Try.prog 16 #[valV x.kind x.text x.count (.slice pa x.pairs.length pc) (.slice ia x.items.length ic) (.slice sa x.scores.length sc)] w fun e w' => e = .returned (.int .i64 8) ∧ Below w.heap.size w w' := by
  go_enter Try.func16, Try.ntmps16
  go_wp2_with (go_at_call 43; refine (in_any _ _ _ _).mono ?_; rintro e w3 ⟨rfl, rfl⟩; rw [e0])
  go_ret
  exact ⟨rfl, balloc _ _⟩
set_option maxHeartbeats 2000000 in
theorem formF_2_1 (x : Val) (pa ia sa : Option Addr) (pc ic sc : Nat) (w : World) (b1 : x.pairs.length ≤ 140737488355328) (b2 : x.items.length ≤ 140737488355328) (b3 : x.scores.length ≤ 140737488355328) (e0 : inB x.kind 1 6 = true) (hk1 : (x.kind != 1) = true) (hk2 : (x.kind != 2) = false) (hk3 : (x.kind != 3) = true) (hk4 : (x.kind == 4) = false) (hk5 : (x.kind == 5) = false) (hk6 : (x.kind != 6) = true) (hz1 : x.text.toList.isEmpty = false) :
    Calls Try.prog 16 #[valV x.kind x.text x.count (.slice pa x.pairs.length pc) (.slice ia x.items.length ic) (.slice sa x.scores.length sc)] w fun e w' => e = .returned (.int .i64 8) ∧ Below w.heap.size w w' := by
  go_enter Try.func16, Try.ntmps16
  go_wp2_with (go_at_call 43; refine (in_any _ _ _ _).mono ?_; rintro e w3 ⟨rfl, rfl⟩; rw [e0])
  go_ret
  exact ⟨rfl, balloc _ _⟩
set_option maxHeartbeats 2000000 in
theorem formF_2_3 (x : Val) (pa ia sa : Option Addr) (pc ic sc : Nat) (w : World) (b1 : x.pairs.length ≤ 140737488355328) (b2 : x.items.length ≤ 140737488355328) (b3 : x.scores.length ≤ 140737488355328) (e0 : inB x.kind 1 6 = true) (hk1 : (x.kind != 1) = true) (hk2 : (x.kind != 2) = false) (hk3 : (x.kind != 3) = true) (hk4 : (x.kind == 4) = false) (hk5 : (x.kind == 5) = false) (hk6 : (x.kind != 6) = true) (hz1 : x.text.toList.isEmpty = true) (hz3 : decide (0 < x.pairs.length) = true) :
    Calls Try.prog 16 #[valV x.kind x.text x.count (.slice pa x.pairs.length pc) (.slice ia x.items.length ic) (.slice sa x.scores.length sc)] w fun e w' => e = .returned (.int .i64 8) ∧ Below w.heap.size w w' := by
  go_enter Try.func16, Try.ntmps16
  go_wp2_with (go_at_call 43; refine (in_any _ _ _ _).mono ?_; rintro e w3 ⟨rfl, rfl⟩; rw [e0])
  go_ret
  exact ⟨rfl, balloc _ _⟩
set_option maxHeartbeats 2000000 in
theorem formF_2_4 (x : Val) (pa ia sa : Option Addr) (pc ic sc : Nat) (w : World) (b1 : x.pairs.length ≤ 140737488355328) (b2 : x.items.length ≤ 140737488355328) (b3 : x.scores.length ≤ 140737488355328) (e0 : inB x.kind 1 6 = true) (hk1 : (x.kind != 1) = true) (hk2 : (x.kind != 2) = false) (hk3 : (x.kind != 3) = true) (hk4 : (x.kind == 4) = false) (hk5 : (x.kind == 5) = false) (hk6 : (x.kind != 6) = true) (hz1 : x.text.toList.isEmpty = true) (hz3 : decide (0 < x.pairs.length) = false) (hz4 : decide (0 < x.items.length) = true) :
    Calls Try.prog 16 #[valV x.kind x.text x.count (.slice pa x.pairs.length pc) (.slice ia x.items.length ic) (.slice sa x.scores.length sc)] w fun e w' => e = .returned (.int .i64 8) ∧ Below w.heap.size w w' := by
  go_enter Try.func16, Try.ntmps16
  go_wp2_with (go_at_call 43; refine (in_any _ _ _ _).mono ?_; rintro e w3 ⟨rfl, rfl⟩; rw [e0])
  go_ret
  exact ⟨rfl, balloc _ _⟩
set_option maxHeartbeats 2000000 in
theorem formF_2_5 (x : Val) (pa ia sa : Option Addr) (pc ic sc : Nat) (w : World) (b1 : x.pairs.length ≤ 140737488355328) (b2 : x.items.length ≤ 140737488355328) (b3 : x.scores.length ≤ 140737488355328) (e0 : inB x.kind 1 6 = true) (hk1 : (x.kind != 1) = true) (hk2 : (x.kind != 2) = false) (hk3 : (x.kind != 3) = true) (hk4 : (x.kind == 4) = false) (hk5 : (x.kind == 5) = false) (hk6 : (x.kind != 6) = true) (hz1 : x.text.toList.isEmpty = true) (hz3 : decide (0 < x.pairs.length) = false) (hz4 : decide (0 < x.items.length) = false) (hz5 : decide (0 < x.scores.length) = true) :
    Calls Try.prog 16 #[valV x.kind x.text x.count (.slice pa x.pairs.length pc) (.slice ia x.items.length ic) (.slice sa x.scores.length sc)] w fun e w' => e = .returned (.int .i64 8) ∧ Below w.heap.size w w' := by
  go_enter Try.func16, Try.ntmps16
  go_wp2_with (go_at_call 43; refine (in_any _ _ _ _).mono ?_; rintro e w3 ⟨rfl, rfl⟩; rw [e0])
  go_ret
  exact ⟨rfl, balloc _ _⟩
set_option maxHeartbeats 2000000 in
theorem formF_3_1 (x : Val) (pa ia sa : Option Addr) (pc ic sc : Nat) (w : World) (b1 : x.pairs.length ≤ 140737488355328) (b2 : x.items.length ≤ 140737488355328) (b3 : x.scores.length ≤ 140737488355328) (e0 : inB x.kind 1 6 = true) (hk1 : (x.kind != 1) = true) (hk2 : (x.kind != 2) = true) (hk3 : (x.kind != 3) = false) (hk4 : (x.kind == 4) = false) (hk5 : (x.kind == 5) = false) (hk6 : (x.kind != 6) = true) (hz1 : x.text.toList.isEmpty = false) :
    Calls Try.prog 16 #[valV x.kind x.text x.count (.slice pa x.pairs.length pc) (.slice ia x.items.length ic) (.slice sa x.scores.length sc)] w fun e w' => e = .returned (.int .i64 8) ∧ Below w.heap.size w w' := by
  go_enter Try.func16, Try.ntmps16
  go_wp2_with (go_at_call 43; refine (in_any _ _ _ _).mono ?_; rintro e w3 ⟨rfl, rfl⟩; rw [e0])
  go_ret
  exact ⟨rfl, balloc _ _⟩
set_option maxHeartbeats 2000000 in
theorem formF_3_2 (x : Val) (pa ia sa : Option Addr) (pc ic sc : Nat) (w : World) (b1 : x.pairs.length ≤ 140737488355328) (b2 : x.items.length ≤ 140737488355328) (b3 : x.scores.length ≤ 140737488355328) (e0 : inB x.kind 1 6 = true) (hk1 : (x.kind != 1) = true) (hk2 : (x.kind != 2) = true) (hk3 : (x.kind != 3) = false) (hk4 : (x.kind == 4) = false) (hk5 : (x.kind == 5) = false) (hk6 : (x.kind != 6) = true) (hz1 : x.text.toList.isEmpty = true) (hz2 : (x.count != 0) = true) :
    Calls Try.prog 16 #[valV x.kind x.text x.count (.slice pa x.pairs.length pc) (.slice ia x.items.length ic) (.slice sa x.scores.length sc)] w fun e w' => e = .returned (.int .i64 8) ∧ Below w.heap.size w w' := by
  go_enter Try.func16, Try.ntmps16
  go_wp2_with (go_at_call 43; refine (in_any _ _ _ _).mono ?_; rintro e w3 ⟨rfl, rfl⟩; rw [e0])
  go_ret
  exact ⟨rfl, balloc _ _⟩
set_option maxHeartbeats 2000000 in
theorem formF_3_4 (x : Val) (pa ia sa : Option Addr) (pc ic sc : Nat) (w : World) (b1 : x.pairs.length ≤ 140737488355328) (b2 : x.items.length ≤ 140737488355328) (b3 : x.scores.length ≤ 140737488355328) (e0 : inB x.kind 1 6 = true) (hk1 : (x.kind != 1) = true) (hk2 : (x.kind != 2) = true) (hk3 : (x.kind != 3) = false) (hk4 : (x.kind == 4) = false) (hk5 : (x.kind == 5) = false) (hk6 : (x.kind != 6) = true) (hz1 : x.text.toList.isEmpty = true) (hz2 : (x.count != 0) = false) (hz4 : decide (0 < x.items.length) = true) :
    Calls Try.prog 16 #[valV x.kind x.text x.count (.slice pa x.pairs.length pc) (.slice ia x.items.length ic) (.slice sa x.scores.length sc)] w fun e w' => e = .returned (.int .i64 8) ∧ Below w.heap.size w w' := by
  go_enter Try.func16, Try.ntmps16
  go_wp2_with (go_at_call 43; refine (in_any _ _ _ _).mono ?_; rintro e w3 ⟨rfl, rfl⟩; rw [e0])
  go_ret
  exact ⟨rfl, balloc _ _⟩
set_option maxHeartbeats 2000000 in
theorem formF_3_5 (x : Val) (pa ia sa : Option Addr) (pc ic sc : Nat) (w : World) (b1 : x.pairs.length ≤ 140737488355328) (b2 : x.items.length ≤ 140737488355328) (b3 : x.scores.length ≤ 140737488355328) (e0 : inB x.kind 1 6 = true) (hk1 : (x.kind != 1) = true) (hk2 : (x.kind != 2) = true) (hk3 : (x.kind != 3) = false) (hk4 : (x.kind == 4) = false) (hk5 : (x.kind == 5) = false) (hk6 : (x.kind != 6) = true) (hz1 : x.text.toList.isEmpty = true) (hz2 : (x.count != 0) = false) (hz4 : decide (0 < x.items.length) = false) (hz5 : decide (0 < x.scores.length) = true) :
    Calls Try.prog 16 #[valV x.kind x.text x.count (.slice pa x.pairs.length pc) (.slice ia x.items.length ic) (.slice sa x.scores.length sc)] w fun e w' => e = .returned (.int .i64 8) ∧ Below w.heap.size w w' := by
  go_enter Try.func16, Try.ntmps16
  go_wp2_with (go_at_call 43; refine (in_any _ _ _ _).mono ?_; rintro e w3 ⟨rfl, rfl⟩; rw [e0])
  go_ret
  exact ⟨rfl, balloc _ _⟩
set_option maxHeartbeats 2000000 in
theorem formF_4_1 (x : Val) (pa ia sa : Option Addr) (pc ic sc : Nat) (w : World) (b1 : x.pairs.length ≤ 140737488355328) (b2 : x.items.length ≤ 140737488355328) (b3 : x.scores.length ≤ 140737488355328) (e0 : inB x.kind 1 6 = true) (hk1 : (x.kind != 1) = true) (hk2 : (x.kind != 2) = true) (hk3 : (x.kind != 3) = true) (hk4 : (x.kind == 4) = true) (hk5 : (x.kind == 5) = false) (hk6 : (x.kind != 6) = true) (hz1 : x.text.toList.isEmpty = false) :
    Calls Try.prog 16 #[valV x.kind x.text x.count (.slice pa x.pairs.length pc) (.slice ia x.items.length ic) (.slice sa x.scores.length sc)] w fun e w' => e = .returned (.int .i64 8) ∧ Below w.heap.size w w' := by
  go_enter Try.func16, Try.ntmps16
  go_wp2_with (go_at_call 43; refine (in_any _ _ _ _).mono ?_; rintro e w3 ⟨rfl, rfl⟩; rw [e0])
  go_ret
  exact ⟨rfl, balloc _ _⟩
set_option maxHeartbeats 2000000 in
theorem formF_4_2 (x : Val) (pa ia sa : Option Addr) (pc ic sc : Nat) (w : World) (b1 : x.pairs.length ≤ 140737488355328) (b2 : x.items.length ≤ 140737488355328) (b3 : x.scores.length ≤ 140737488355328) (e0 : inB x.kind 1 6 = true) (hk1 : (x.kind != 1) = true) (hk2 : (x.kind != 2) = true) (hk3 : (x.kind != 3) = true) (hk4 : (x.kind == 4) = true) (hk5 : (x.kind == 5) = false) (hk6 : (x.kind != 6) = true) (hz1 : x.text.toList.isEmpty = true) (hz2 : (x.count != 0) = true) :
    Calls Try.prog 16 #[valV x.kind x.text x.count (.slice pa x.pairs.length pc) (.slice ia x.items.length ic) (.slice sa x.scores.length sc)] w fun e w' => e = .returned (.int .i64 8) ∧ Below w.heap.size w w' := by
  go_enter Try.func16, Try.ntmps16
  go_wp2_with (go_at_call 43; refine (in_any _ _ _ _).mono ?_; rintro e w3 ⟨rfl, rfl⟩; rw [e0])
  go_ret
  exact ⟨rfl, balloc _ _⟩
set_option maxHeartbeats 2000000 in
theorem formF_4_3 (x : Val) (pa ia sa : Option Addr) (pc ic sc : Nat) (w : World) (b1 : x.pairs.length ≤ 140737488355328) (b2 : x.items.length ≤ 140737488355328) (b3 : x.scores.length ≤ 140737488355328) (e0 : inB x.kind 1 6 = true) (hk1 : (x.kind != 1) = true) (hk2 : (x.kind != 2) = true) (hk3 : (x.kind != 3) = true) (hk4 : (x.kind == 4) = true) (hk5 : (x.kind == 5) = false) (hk6 : (x.kind != 6) = true) (hz1 : x.text.toList.isEmpty = true) (hz2 : (x.count != 0) = false) (hz3 : decide (0 < x.pairs.length) = true) :
    Calls Try.prog 16 #[valV x.kind x.text x.count (.slice pa x.pairs.length pc) (.slice ia x.items.length ic) (.slice sa x.scores.length sc)] w fun e w' => e = .returned (.int .i64 8) ∧ Below w.heap.size w w' := by
  go_enter Try.func16, Try.ntmps16
  go_wp2_with (go_at_call 43; refine (in_any _ _ _ _).mono ?_; rintro e w3 ⟨rfl, rfl⟩; rw [e0])
  go_ret
  exact ⟨rfl, balloc _ _⟩
set_option maxHeartbeats 2000000 in
theorem formF_4_5 (x : Val) (pa ia sa : Option Addr) (pc ic sc : Nat) (w : World) (b1 : x.pairs.length ≤ 140737488355328) (b2 : x.items.length ≤ 140737488355328) (b3 : x.scores.length ≤ 140737488355328) (e0 : inB x.kind 1 6 = true) (hk1 : (x.kind != 1) = true) (hk2 : (x.kind != 2) = true) (hk3 : (x.kind != 3) = true) (hk4 : (x.kind == 4) = true) (hk5 : (x.kind == 5) = false) (hk6 : (x.kind != 6) = true) (hz1 : x.text.toList.isEmpty = true) (hz2 : (x.count != 0) = false) (hz3 : decide (0 < x.pairs.length) = false) (hz5 : decide (0 < x.scores.length) = true) :
    Calls Try.prog 16 #[valV x.kind x.text x.count (.slice pa x.pairs.length pc) (.slice ia x.items.length ic) (.slice sa x.scores.length sc)] w fun e w' => e = .returned (.int .i64 8) ∧ Below w.heap.size w w' := by
  go_enter Try.func16, Try.ntmps16
  go_wp2_with (go_at_call 43; refine (in_any _ _ _ _).mono ?_; rintro e w3 ⟨rfl, rfl⟩; rw [e0])
  go_ret
  exact ⟨rfl, balloc _ _⟩
set_option maxHeartbeats 2000000 in
theorem formF_5_1 (x : Val) (pa ia sa : Option Addr) (pc ic sc : Nat) (w : World) (b1 : x.pairs.length ≤ 140737488355328) (b2 : x.items.length ≤ 140737488355328) (b3 : x.scores.length ≤ 140737488355328) (e0 : inB x.kind 1 6 = true) (hk1 : (x.kind != 1) = true) (hk2 : (x.kind != 2) = true) (hk3 : (x.kind != 3) = true) (hk4 : (x.kind == 4) = false) (hk5 : (x.kind == 5) = true) (hk6 : (x.kind != 6) = true) (hz1 : x.text.toList.isEmpty = false) :
    Calls Try.prog 16 #[valV x.kind x.text x.count (.slice pa x.pairs.length pc) (.slice ia x.items.length ic) (.slice sa x.scores.length sc)] w fun e w' => e = .returned (.int .i64 8) ∧ Below w.heap.size w w' := by
  go_enter Try.func16, Try.ntmps16
  go_wp2_with (go_at_call 43; refine (in_any _ _ _ _).mono ?_; rintro e w3 ⟨rfl, rfl⟩; rw [e0])
  go_ret
  exact ⟨rfl, balloc _ _⟩
set_option maxHeartbeats 2000000 in
theorem formF_5_2 (x : Val) (pa ia sa : Option Addr) (pc ic sc : Nat) (w : World) (b1 : x.pairs.length ≤ 140737488355328) (b2 : x.items.length ≤ 140737488355328) (b3 : x.scores.length ≤ 140737488355328) (e0 : inB x.kind 1 6 = true) (hk1 : (x.kind != 1) = true) (hk2 : (x.kind != 2) = true) (hk3 : (x.kind != 3) = true) (hk4 : (x.kind == 4) = false) (hk5 : (x.kind == 5) = true) (hk6 : (x.kind != 6) = true) (hz1 : x.text.toList.isEmpty = true) (hz2 : (x.count != 0) = true) :
    Calls Try.prog 16 #[valV x.kind x.text x.count (.slice pa x.pairs.length pc) (.slice ia x.items.length ic) (.slice sa x.scores.length sc)] w fun e w' => e = .returned (.int .i64 8) ∧ Below w.heap.size w w' := by
  go_enter Try.func16, Try.ntmps16
  go_wp2_with (go_at_call 43; refine (in_any _ _ _ _).mono ?_; rintro e w3 ⟨rfl, rfl⟩; rw [e0])
  go_ret
  exact ⟨rfl, balloc _ _⟩
set_option maxHeartbeats 2000000 in
theorem formF_5_3 (x : Val) (pa ia sa : Option Addr) (pc ic sc : Nat) (w : World) (b1 : x.pairs.length ≤ 140737488355328) (b2 : x.items.length ≤ 140737488355328) (b3 : x.scores.length ≤ 140737488355328) (e0 : inB x.kind 1 6 = true) (hk1 : (x.kind != 1) = true) (hk2 : (x.kind != 2) = true) (hk3 : (x.kind != 3) = true) (hk4 : (x.kind == 4) = false) (hk5 : (x.kind == 5) = true) (hk6 : (x.kind != 6) = true) (hz1 : x.text.toList.isEmpty = true) (hz2 : (x.count != 0) = false) (hz3 : decide (0 < x.pairs.length) = true) :
    Calls Try.prog 16 #[valV x.kind x.text x.count (.slice pa x.pairs.length pc) (.slice ia x.items.length ic) (.slice sa x.scores.length sc)] w fun e w' => e = .returned (.int .i64 8) ∧ Below w.heap.size w w' := by
  go_enter Try.func16, Try.ntmps16
  go_wp2_with (go_at_call 43; refine (in_any _ _ _ _).mono ?_; rintro e w3 ⟨rfl, rfl⟩; rw [e0])
  go_ret
  exact ⟨rfl, balloc _ _⟩
set_option maxHeartbeats 2000000 in
theorem formF_5_5 (x : Val) (pa ia sa : Option Addr) (pc ic sc : Nat) (w : World) (b1 : x.pairs.length ≤ 140737488355328) (b2 : x.items.length ≤ 140737488355328) (b3 : x.scores.length ≤ 140737488355328) (e0 : inB x.kind 1 6 = true) (hk1 : (x.kind != 1) = true) (hk2 : (x.kind != 2) = true) (hk3 : (x.kind != 3) = true) (hk4 : (x.kind == 4) = false) (hk5 : (x.kind == 5) = true) (hk6 : (x.kind != 6) = true) (hz1 : x.text.toList.isEmpty = true) (hz2 : (x.count != 0) = false) (hz3 : decide (0 < x.pairs.length) = false) (hz5 : decide (0 < x.scores.length) = true) :
    Calls Try.prog 16 #[valV x.kind x.text x.count (.slice pa x.pairs.length pc) (.slice ia x.items.length ic) (.slice sa x.scores.length sc)] w fun e w' => e = .returned (.int .i64 8) ∧ Below w.heap.size w w' := by
  go_enter Try.func16, Try.ntmps16
  go_wp2_with (go_at_call 43; refine (in_any _ _ _ _).mono ?_; rintro e w3 ⟨rfl, rfl⟩; rw [e0])
  go_ret
  exact ⟨rfl, balloc _ _⟩
set_option maxHeartbeats 2000000 in
theorem formF_6_1 (x : Val) (pa ia sa : Option Addr) (pc ic sc : Nat) (w : World) (b1 : x.pairs.length ≤ 140737488355328) (b2 : x.items.length ≤ 140737488355328) (b3 : x.scores.length ≤ 140737488355328) (e0 : inB x.kind 1 6 = true) (hk1 : (x.kind != 1) = true) (hk2 : (x.kind != 2) = true) (hk3 : (x.kind != 3) = true) (hk4 : (x.kind == 4) = false) (hk5 : (x.kind == 5) = false) (hk6 : (x.kind != 6) = false) (hz1 : x.text.toList.isEmpty = false) :
    Calls Try.prog 16 #[valV x.kind x.text x.count (.slice pa x.pairs.length pc) (.slice ia x.items.length ic) (.slice sa x.scores.length sc)] w fun e w' => e = .returned (.int .i64 8) ∧ Below w.heap.size w w' := by
  go_enter Try.func16, Try.ntmps16
  go_wp2_with (go_at_call 43; refine (in_any _ _ _ _).mono ?_; rintro e w3 ⟨rfl, rfl⟩; rw [e0])
  go_ret
  exact ⟨rfl, balloc _ _⟩
set_option maxHeartbeats 2000000 in
theorem formF_6_2 (x : Val) (pa ia sa : Option Addr) (pc ic sc : Nat) (w : World) (b1 : x.pairs.length ≤ 140737488355328) (b2 : x.items.length ≤ 140737488355328) (b3 : x.scores.length ≤ 140737488355328) (e0 : inB x.kind 1 6 = true) (hk1 : (x.kind != 1) = true) (hk2 : (x.kind != 2) = true) (hk3 : (x.kind != 3) = true) (hk4 : (x.kind == 4) = false) (hk5 : (x.kind == 5) = false) (hk6 : (x.kind != 6) = false) (hz1 : x.text.toList.isEmpty = true) (hz2 : (x.count != 0) = true) :
    Calls Try.prog 16 #[valV x.kind x.text x.count (.slice pa x.pairs.length pc) (.slice ia x.items.length ic) (.slice sa x.scores.length sc)] w fun e w' => e = .returned (.int .i64 8) ∧ Below w.heap.size w w' := by
  go_enter Try.func16, Try.ntmps16
  go_wp2_with (go_at_call 43; refine (in_any _ _ _ _).mono ?_; rintro e w3 ⟨rfl, rfl⟩; rw [e0])
  go_ret
  exact ⟨rfl, balloc _ _⟩
set_option maxHeartbeats 2000000 in
theorem formF_6_3 (x : Val) (pa ia sa : Option Addr) (pc ic sc : Nat) (w : World) (b1 : x.pairs.length ≤ 140737488355328) (b2 : x.items.length ≤ 140737488355328) (b3 : x.scores.length ≤ 140737488355328) (e0 : inB x.kind 1 6 = true) (hk1 : (x.kind != 1) = true) (hk2 : (x.kind != 2) = true) (hk3 : (x.kind != 3) = true) (hk4 : (x.kind == 4) = false) (hk5 : (x.kind == 5) = false) (hk6 : (x.kind != 6) = false) (hz1 : x.text.toList.isEmpty = true) (hz2 : (x.count != 0) = false) (hz3 : decide (0 < x.pairs.length) = true) :
    Calls Try.prog 16 #[valV x.kind x.text x.count (.slice pa x.pairs.length pc) (.slice ia x.items.length ic) (.slice sa x.scores.length sc)] w fun e w' => e = .returned (.int .i64 8) ∧ Below w.heap.size w w' := by
  go_enter Try.func16, Try.ntmps16
  go_wp2_with (go_at_call 43; refine (in_any _ _ _ _).mono ?_; rintro e w3 ⟨rfl, rfl⟩; rw [e0])
  go_ret
  exact ⟨rfl, balloc _ _⟩
set_option maxHeartbeats 2000000 in
theorem formF_6_4 (x : Val) (pa ia sa : Option Addr) (pc ic sc : Nat) (w : World) (b1 : x.pairs.length ≤ 140737488355328) (b2 : x.items.length ≤ 140737488355328) (b3 : x.scores.length ≤ 140737488355328) (e0 : inB x.kind 1 6 = true) (hk1 : (x.kind != 1) = true) (hk2 : (x.kind != 2) = true) (hk3 : (x.kind != 3) = true) (hk4 : (x.kind == 4) = false) (hk5 : (x.kind == 5) = false) (hk6 : (x.kind != 6) = false) (hz1 : x.text.toList.isEmpty = true) (hz2 : (x.count != 0) = false) (hz3 : decide (0 < x.pairs.length) = false) (hz4 : decide (0 < x.items.length) = true) :
    Calls Try.prog 16 #[valV x.kind x.text x.count (.slice pa x.pairs.length pc) (.slice ia x.items.length ic) (.slice sa x.scores.length sc)] w fun e w' => e = .returned (.int .i64 8) ∧ Below w.heap.size w w' := by
  go_enter Try.func16, Try.ntmps16
  go_wp2_with (go_at_call 43; refine (in_any _ _ _ _).mono ?_; rintro e w3 ⟨rfl, rfl⟩; rw [e0])
  go_ret
  exact ⟨rfl, balloc _ _⟩

theorem foreign_parts (x : Val) : x.foreign = ((x.kind != 1 && !x.text.toList.isEmpty) || (x.kind != 2 && x.count != 0) || (x.kind != 3 && decide (0 < x.pairs.length)) || (!(x.kind == 4 || x.kind == 5) && decide (0 < x.items.length)) || (x.kind != 6 && decide (0 < x.scores.length))) := by
  unfold Val.foreign foreignN
  have h1 : (x.kind != 4 && x.kind != 5) = !(x.kind == 4 || x.kind == 5) := by cases h : (x.kind == 4) <;> cases h' : (x.kind == 5) <;> simp [bne, h, h']
  rw [h1]

theorem valueFault_form (x : Val) (pa ia sa : Option Addr) (pc ic sc : Nat) (w : World) (b1 : x.pairs.length ≤ 140737488355328) (b2 : x.items.length ≤ 140737488355328) (b3 : x.scores.length ≤ 140737488355328)
    (hk : ¬ (x.kind < 1 ∨ 6 < x.kind)) (hf : x.foreign = true) :
    Calls Try.prog 16 #[valV x.kind x.text x.count (.slice pa x.pairs.length pc) (.slice ia x.items.length ic) (.slice sa x.scores.length sc)] w fun e w' => e = .returned (.int .i64 x.fault) ∧ Below w.heap.size w w' := by
  have e0 : inB x.kind 1 6 = true := by simp [inB]; omega
  rw [fault_form hk hf]
  have hkk : x.kind = 1 ∨ x.kind = 2 ∨ x.kind = 3 ∨ x.kind = 4 ∨ x.kind = 5 ∨ x.kind = 6 := by omega
  rw [foreign_parts] at hf
  rcases hkk with h | h | h | h | h | h
  · have hk1 : (x.kind != 1) = false := by rw [h]; rfl
    have hk2 : (x.kind != 2) = true := by rw [h]; rfl
    have hk3 : (x.kind != 3) = true := by rw [h]; rfl
    have hk4 : (x.kind == 4) = false := by rw [h]; rfl
    have hk5 : (x.kind == 5) = false := by rw [h]; rfl
    have hk6 : (x.kind != 6) = true := by rw [h]; rfl
    rw [hk1, hk2, hk3, hk4, hk5, hk6] at hf
    cases hz2 : (x.count != 0) with
    | true => exact formF_1_2 x pa ia sa pc ic sc w b1 b2 b3 e0 hk1 hk2 hk3 hk4 hk5 hk6 hz2
    | false =>
      cases hz3 : decide (0 < x.pairs.length) with
      | true => exact formF_1_3 x pa ia sa pc ic sc w b1 b2 b3 e0 hk1 hk2 hk3 hk4 hk5 hk6 hz2 hz3
      | false =>
        cases hz4 : decide (0 < x.items.length) with
        | true => exact formF_1_4 x pa ia sa pc ic sc w b1 b2 b3 e0 hk1 hk2 hk3 hk4 hk5 hk6 hz2 hz3 hz4
        | false =>
          cases hz5 : decide (0 < x.scores.length) with
          | true => exact formF_1_5 x pa ia sa pc ic sc w b1 b2 b3 e0 hk1 hk2 hk3 hk4 hk5 hk6 hz2 hz3 hz4 hz5
          | false =>
            rw [hz2, hz3, hz4, hz5] at hf; simp at hf
  · have hk1 : (x.kind != 1) = true := by rw [h]; rfl
    have hk2 : (x.kind != 2) = false := by rw [h]; rfl
    have hk3 : (x.kind != 3) = true := by rw [h]; rfl
    have hk4 : (x.kind == 4) = false := by rw [h]; rfl
    have hk5 : (x.kind == 5) = false := by rw [h]; rfl
    have hk6 : (x.kind != 6) = true := by rw [h]; rfl
    rw [hk1, hk2, hk3, hk4, hk5, hk6] at hf
    cases hz1 : x.text.toList.isEmpty with
    | false => exact formF_2_1 x pa ia sa pc ic sc w b1 b2 b3 e0 hk1 hk2 hk3 hk4 hk5 hk6 hz1
    | true =>
      cases hz3 : decide (0 < x.pairs.length) with
      | true => exact formF_2_3 x pa ia sa pc ic sc w b1 b2 b3 e0 hk1 hk2 hk3 hk4 hk5 hk6 hz1 hz3
      | false =>
        cases hz4 : decide (0 < x.items.length) with
        | true => exact formF_2_4 x pa ia sa pc ic sc w b1 b2 b3 e0 hk1 hk2 hk3 hk4 hk5 hk6 hz1 hz3 hz4
        | false =>
          cases hz5 : decide (0 < x.scores.length) with
          | true => exact formF_2_5 x pa ia sa pc ic sc w b1 b2 b3 e0 hk1 hk2 hk3 hk4 hk5 hk6 hz1 hz3 hz4 hz5
          | false =>
            rw [hz1, hz3, hz4, hz5] at hf; simp at hf
  · have hk1 : (x.kind != 1) = true := by rw [h]; rfl
    have hk2 : (x.kind != 2) = true := by rw [h]; rfl
    have hk3 : (x.kind != 3) = false := by rw [h]; rfl
    have hk4 : (x.kind == 4) = false := by rw [h]; rfl
    have hk5 : (x.kind == 5) = false := by rw [h]; rfl
    have hk6 : (x.kind != 6) = true := by rw [h]; rfl
    rw [hk1, hk2, hk3, hk4, hk5, hk6] at hf
    cases hz1 : x.text.toList.isEmpty with
    | false => exact formF_3_1 x pa ia sa pc ic sc w b1 b2 b3 e0 hk1 hk2 hk3 hk4 hk5 hk6 hz1
    | true =>
      cases hz2 : (x.count != 0) with
      | true => exact formF_3_2 x pa ia sa pc ic sc w b1 b2 b3 e0 hk1 hk2 hk3 hk4 hk5 hk6 hz1 hz2
      | false =>
        cases hz4 : decide (0 < x.items.length) with
        | true => exact formF_3_4 x pa ia sa pc ic sc w b1 b2 b3 e0 hk1 hk2 hk3 hk4 hk5 hk6 hz1 hz2 hz4
        | false =>
          cases hz5 : decide (0 < x.scores.length) with
          | true => exact formF_3_5 x pa ia sa pc ic sc w b1 b2 b3 e0 hk1 hk2 hk3 hk4 hk5 hk6 hz1 hz2 hz4 hz5
          | false =>
            rw [hz1, hz2, hz4, hz5] at hf; simp at hf
  · have hk1 : (x.kind != 1) = true := by rw [h]; rfl
    have hk2 : (x.kind != 2) = true := by rw [h]; rfl
    have hk3 : (x.kind != 3) = true := by rw [h]; rfl
    have hk4 : (x.kind == 4) = true := by rw [h]; rfl
    have hk5 : (x.kind == 5) = false := by rw [h]; rfl
    have hk6 : (x.kind != 6) = true := by rw [h]; rfl
    rw [hk1, hk2, hk3, hk4, hk5, hk6] at hf
    cases hz1 : x.text.toList.isEmpty with
    | false => exact formF_4_1 x pa ia sa pc ic sc w b1 b2 b3 e0 hk1 hk2 hk3 hk4 hk5 hk6 hz1
    | true =>
      cases hz2 : (x.count != 0) with
      | true => exact formF_4_2 x pa ia sa pc ic sc w b1 b2 b3 e0 hk1 hk2 hk3 hk4 hk5 hk6 hz1 hz2
      | false =>
        cases hz3 : decide (0 < x.pairs.length) with
        | true => exact formF_4_3 x pa ia sa pc ic sc w b1 b2 b3 e0 hk1 hk2 hk3 hk4 hk5 hk6 hz1 hz2 hz3
        | false =>
          cases hz5 : decide (0 < x.scores.length) with
          | true => exact formF_4_5 x pa ia sa pc ic sc w b1 b2 b3 e0 hk1 hk2 hk3 hk4 hk5 hk6 hz1 hz2 hz3 hz5
          | false =>
            rw [hz1, hz2, hz3, hz5] at hf; simp at hf
  · have hk1 : (x.kind != 1) = true := by rw [h]; rfl
    have hk2 : (x.kind != 2) = true := by rw [h]; rfl
    have hk3 : (x.kind != 3) = true := by rw [h]; rfl
    have hk4 : (x.kind == 4) = false := by rw [h]; rfl
    have hk5 : (x.kind == 5) = true := by rw [h]; rfl
    have hk6 : (x.kind != 6) = true := by rw [h]; rfl
    rw [hk1, hk2, hk3, hk4, hk5, hk6] at hf
    cases hz1 : x.text.toList.isEmpty with
    | false => exact formF_5_1 x pa ia sa pc ic sc w b1 b2 b3 e0 hk1 hk2 hk3 hk4 hk5 hk6 hz1
    | true =>
      cases hz2 : (x.count != 0) with
      | true => exact formF_5_2 x pa ia sa pc ic sc w b1 b2 b3 e0 hk1 hk2 hk3 hk4 hk5 hk6 hz1 hz2
      | false =>
        cases hz3 : decide (0 < x.pairs.length) with
        | true => exact formF_5_3 x pa ia sa pc ic sc w b1 b2 b3 e0 hk1 hk2 hk3 hk4 hk5 hk6 hz1 hz2 hz3
        | false =>
          cases hz5 : decide (0 < x.scores.length) with
          | true => exact formF_5_5 x pa ia sa pc ic sc w b1 b2 b3 e0 hk1 hk2 hk3 hk4 hk5 hk6 hz1 hz2 hz3 hz5
          | false =>
            rw [hz1, hz2, hz3, hz5] at hf; simp at hf
  · have hk1 : (x.kind != 1) = true := by rw [h]; rfl
    have hk2 : (x.kind != 2) = true := by rw [h]; rfl
    have hk3 : (x.kind != 3) = true := by rw [h]; rfl
    have hk4 : (x.kind == 4) = false := by rw [h]; rfl
    have hk5 : (x.kind == 5) = false := by rw [h]; rfl
    have hk6 : (x.kind != 6) = false := by rw [h]; rfl
    rw [hk1, hk2, hk3, hk4, hk5, hk6] at hf
    cases hz1 : x.text.toList.isEmpty with
    | false => exact formF_6_1 x pa ia sa pc ic sc w b1 b2 b3 e0 hk1 hk2 hk3 hk4 hk5 hk6 hz1
    | true =>
      cases hz2 : (x.count != 0) with
      | true => exact formF_6_2 x pa ia sa pc ic sc w b1 b2 b3 e0 hk1 hk2 hk3 hk4 hk5 hk6 hz1 hz2
      | false =>
        cases hz3 : decide (0 < x.pairs.length) with
        | true => exact formF_6_3 x pa ia sa pc ic sc w b1 b2 b3 e0 hk1 hk2 hk3 hk4 hk5 hk6 hz1 hz2 hz3
        | false =>
          cases hz4 : decide (0 < x.items.length) with
          | true => exact formF_6_4 x pa ia sa pc ic sc w b1 b2 b3 e0 hk1 hk2 hk3 hk4 hk5 hk6 hz1 hz2 hz3 hz4
          | false =>
            rw [hz1, hz2, hz3, hz4] at hf; simp at hf
end Go.Proofs.Ytnlaehpldmkdoaa
