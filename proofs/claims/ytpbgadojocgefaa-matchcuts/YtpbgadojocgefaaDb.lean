/- Calls: what the program's check and the document's answer make of them. -/
import Derived.Test.YtpbgadojocgefaaCc
namespace Go.Proofs.Ytpbgadojocgefaa
open Go.RowKit
set_option linter.unusedVariables false

abbrev callV (cl seq k : Int) (key fld txt : ByteArray) (n : Int) : Value := .agg #[.int .i64 cl, .int .i64 seq, .int .i64 k, .string key, .string fld, .string txt, .int .i64 n]
def numB (n : Int) : Bool := decide (1 ≤ n) && decide (n ≤ 1048576)
def emptyB (seq k : Int) (key fld txt : ByteArray) (n : Int) : Bool := decide (seq = 0) && (decide (k = 0) && key.toList == [] && fld.toList == [] && txt.toList == [] && decide (n = 0))
def callFault (cl seq k : Int) (key fld txt : ByteArray) (n : Int) : Int :=
  if cl = 0 then if emptyB seq k key fld txt n = true then 0 else 8
  else if (numB cl && numB seq) = true then cmdFault k key fld txt n else 2

set_option maxHeartbeats 400000 in
theorem isNumber_any (n : Int) (w : World) : Calls Try.prog 36 #[.int .i64 n] w fun e w' => e = .returned (.bool (numB n)) ∧ w = w' := by
  go_enter Try.func36, Try.ntmps36
  go_wp2
  all_goals (go_ret; exact ⟨ret_bool (by unfold numB; simp; omega), rfl⟩)
set_option maxHeartbeats 400000 in
theorem numberMay_any (n : Int) (w : World) : Calls Try.prog 39 #[.int .i64 n] w fun e w' => e = .returned (.bool (numB n)) ∧ w = w' := by
  go_enter Try.func39, Try.ntmps39
  go_wp2_with (go_at_call 32; refine (in_any _ _ _ _).mono ?_; rintro e w' ⟨rfl, rfl⟩)
  all_goals (go_ret; exact ⟨ret_bool (by simp [numB, inB]), rfl⟩)

set_option maxHeartbeats 2000000 in
theorem callFault_any (cl seq k : Int) (key fld txt : ByteArray) (n : Int) (w : World) :
    Calls Try.prog 40 #[callV cl seq k key fld txt n] w fun e w' => e = .returned (.int .i64 (callFault cl seq k key fld txt n)) ∧ Below w.heap.size w w' := by
  by_cases h0 : cl = 0
  · subst h0
    go_enter Try.func40, Try.ntmps40
    go_wp2_with fail
    all_goals (go_ret; refine ⟨ret_int ?_, balloc _ _⟩; simp_all [callFault, emptyB])
  · have n0 : (cl == 0) = false := by simpa using h0
    go_enter Try.func40, Try.ntmps40
    go_wp2_with (first
      | (go_at_call 39; refine (numberMay_any _ _).mono ?_; rintro e w1 ⟨rfl, rfl⟩)
      | (go_at_call 44; refine (commandFault_any _ _ _ _ _ _).mono ?_; rintro e w2 ⟨rfl, hb2⟩; have hB2 := bstep (balloc _ _) hb2))
    all_goals (go_ret; refine ⟨ret_int ?_, by first | exact hB2 | exact balloc _ _⟩; simp_all [callFault])

set_option maxHeartbeats 2000000 in
theorem checkCall_any (cl seq k : Int) (key fld txt : ByteArray) (n : Int) (w : World) :
    Calls Try.prog 43 #[callV cl seq k key fld txt n] w fun e w' => e = .returned (.int .i64 (callFault cl seq k key fld txt n)) ∧ Below w.heap.size w w' := by
  by_cases h0 : cl = 0
  · subst h0
    go_enter Try.func43, Try.ntmps43
    go_wp2_with fail
    all_goals (go_ret; refine ⟨ret_int ?_, balloc _ _⟩; simp_all [callFault, emptyB])
  · have n0 : (cl == 0) = false := by simpa using h0
    go_enter Try.func43, Try.ntmps43
    go_wp2_with (first
      | (go_at_call 36; refine (isNumber_any _ _).mono ?_; rintro e w1 ⟨rfl, rfl⟩)
      | (go_at_call 47; refine (checkCommand_any _ _ _ _ _ _).mono ?_; rintro e w2 ⟨rfl, hb2⟩; have hB2 := bstep (balloc _ _) hb2))
    all_goals (go_ret; refine ⟨ret_int ?_, by first | exact hB2 | exact balloc _ _⟩; simp_all [callFault])
end Go.Proofs.Ytpbgadojocgefaa
