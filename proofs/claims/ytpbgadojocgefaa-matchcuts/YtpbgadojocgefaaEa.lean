/- Items: what the program's check and the document's answer make of them. -/
import Derived.Test.YtpbgadojocgefaaDb
namespace Go.Proofs.Ytpbgadojocgefaa
open Go.RowKit
set_option linter.unusedVariables false

abbrev itemV (t u : Int) (p : Bool) (cl seq k : Int) (key fld txt : ByteArray) (n : Int) : Value :=
  .agg #[.int .i64 t, .int .i64 u, .bool p, .int .i64 cl, .int .i64 seq, .int .i64 k, .string key, .string fld, .string txt, .int .i64 n]
def timeB (n : Int) : Bool := decide (0 ≤ n) && decide (n ≤ 1073741824)
def itemFault (t u : Int) (p : Bool) (cl seq k : Int) (key fld txt : ByteArray) (n : Int) : Int :=
  if (numB t && timeB u) = true then
    if p = true then if (decide (cl = 0) && emptyB seq k key fld txt n) = true then 0 else 8
    else callFault cl seq k key fld txt n
  else 2

set_option maxHeartbeats 400000 in
theorem isTime_any (n : Int) (w : World) : Calls Try.prog 42 #[.int .i64 n] w fun e w' => e = .returned (.bool (timeB n)) ∧ w = w' := by
  go_enter Try.func42, Try.ntmps42
  go_wp2
  all_goals (go_ret; exact ⟨ret_bool (by unfold timeB; simp; omega), rfl⟩)

theorem inTime_any (n : Int) (w : World) : Calls Try.prog 32 #[.int .i64 n, .int .i64 0, .int .i64 1073741824] w fun e w' => e = .returned (.bool (timeB n)) ∧ w = w' := by
  rw [show timeB n = inB n 0 1073741824 from rfl]; exact in_any _ _ _ _

set_option maxHeartbeats 4000000 in
theorem itemFault_any (t u : Int) (p : Bool) (cl seq k : Int) (key fld txt : ByteArray) (n : Int) (w : World) :
    Calls Try.prog 33 #[itemV t u p cl seq k key fld txt n] w fun e w' => e = .returned (.int .i64 (itemFault t u p cl seq k key fld txt n)) ∧ Below w.heap.size w w' := by
  cases p
  · go_enter Try.func33, Try.ntmps33
    go_wp2_with (first
      | (go_at_call 39; refine (numberMay_any _ _).mono ?_; rintro e w1 ⟨rfl, rfl⟩)
      | (go_at_call 32; refine (inTime_any _ _).mono ?_; rintro e w1 ⟨rfl, rfl⟩)
      | (go_at_call 40; refine (callFault_any _ _ _ _ _ _ _ _).mono ?_; rintro e w2 ⟨rfl, hb2⟩; have hB2 := bstep (balloc _ _) hb2))
    all_goals (go_ret; refine ⟨ret_int ?_, by first | exact hB2 | exact balloc _ _⟩; simp_all [itemFault])
  · go_enter Try.func33, Try.ntmps33
    go_wp2_with (first
      | (go_at_call 39; refine (numberMay_any _ _).mono ?_; rintro e w1 ⟨rfl, rfl⟩)
      | (go_at_call 32; refine (inTime_any _ _).mono ?_; rintro e w1 ⟨rfl, rfl⟩)
      | (go_at_call 40; refine (callFault_any _ _ _ _ _ _ _ _).mono ?_; rintro e w2 ⟨rfl, hb2⟩; have hB2 := bstep (balloc _ _) hb2))
    all_goals (go_ret; refine ⟨ret_int ?_, by first | exact hB2 | exact balloc _ _⟩; simp_all [itemFault, emptyB])

set_option maxHeartbeats 4000000 in
theorem checkItem_any (t u : Int) (p : Bool) (cl seq k : Int) (key fld txt : ByteArray) (n : Int) (w : World) :
    Calls Try.prog 37 #[itemV t u p cl seq k key fld txt n] w fun e w' => e = .returned (.int .i64 (itemFault t u p cl seq k key fld txt n)) ∧ Below w.heap.size w w' := by
  cases p
  · go_enter Try.func37, Try.ntmps37
    go_wp2_with (first
      | (go_at_call 36; refine (isNumber_any _ _).mono ?_; rintro e w1 ⟨rfl, rfl⟩)
      | (go_at_call 42; refine (isTime_any _ _).mono ?_; rintro e w1 ⟨rfl, rfl⟩)
      | (go_at_call 43; refine (checkCall_any _ _ _ _ _ _ _ _).mono ?_; rintro e w2 ⟨rfl, hb2⟩; have hB2 := bstep (balloc _ _) hb2))
    all_goals (go_ret; refine ⟨ret_int ?_, by first | exact hB2 | exact balloc _ _⟩; simp_all [itemFault])
  · go_enter Try.func37, Try.ntmps37
    go_wp2_with (first
      | (go_at_call 36; refine (isNumber_any _ _).mono ?_; rintro e w1 ⟨rfl, rfl⟩)
      | (go_at_call 42; refine (isTime_any _ _).mono ?_; rintro e w1 ⟨rfl, rfl⟩)
      | (go_at_call 43; refine (checkCall_any _ _ _ _ _ _ _ _).mono ?_; rintro e w2 ⟨rfl, hb2⟩; have hB2 := bstep (balloc _ _) hb2))
    all_goals (go_ret; refine ⟨ret_int ?_, by first | exact hB2 | exact balloc _ _⟩; simp_all [itemFault, emptyB])
end Go.Proofs.Ytpbgadojocgefaa
