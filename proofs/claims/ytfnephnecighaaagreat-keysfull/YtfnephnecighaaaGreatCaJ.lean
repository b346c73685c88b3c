/- Contracts of the small functions on commands: each returns what its plain twin says; the world is as it was. -/
import Derived.Test.YtfnephnecighaaaGreatRows
import Derived.WalkKit
import Derived.WalkSpells
import Derived.WalkLawsBesides
namespace Go.Proofs.YtfnephnecighaaaGreat
open Go.RowKit

theorem ret_bool {a b : Bool} (h : a = b) : Ending.returned (.bool a) = .returned (.bool b) := by rw [h]
theorem ret_int {k : IntKind} {a b : Int} (h : a = b) : Ending.returned (.int k a) = .returned (.int k b) := by rw [h]

def isCountB (n : Int) : Bool := decide (-1099511627776 ≤ n) && decide (n ≤ 1099511627776)
def inB (n lo hi : Int) : Bool := decide (lo ≤ n) && decide (n ≤ hi)
def isNameB (s : ByteArray) : Bool := decide (1 ≤ s.size) && decide (s.size ≤ 12)
def isTextB (s : ByteArray) : Bool := decide (s.size ≤ 20)
def hasKeyB (k : Int) : Bool := decide (k ≠ 22)
def hasFieldB (k : Int) : Bool := decide (k = 4 ∨ k = 5 ∨ k = 6)
def hasTextB (k : Int) : Bool := decide (k = 1 ∨ k = 4 ∨ k = 7 ∨ k = 8 ∨ k = 11 ∨ k = 12 ∨ k = 13 ∨ k = 14 ∨ k = 15 ∨ k = 16)
def hasNumberB (k : Int) : Bool := decide (k = 3 ∨ k = 14 ∨ k = 20)
def kindOfI (k : Int) : Int :=
  if k = 1 ∨ k = 2 then 1 else if k = 3 then 2 else if 4 ≤ k ∧ k ≤ 6 then 3 else if 7 ≤ k ∧ k ≤ 10 then 4 else if 11 ≤ k ∧ k ≤ 13 then 5 else if 14 ≤ k ∧ k ≤ 16 then 6 else 0

set_option maxHeartbeats 400000 in
theorem isCount_any (n : Int) (w : World) :
    Calls Tryz.prog 93 #[.int .i64 n] w fun e w' => e = .returned (.bool (isCountB n)) ∧ w = w' := by
  go_enter Tryz.func93, Tryz.ntmps93
  go_wp2
  all_goals (go_ret; exact ⟨ret_bool (by unfold isCountB; simp; omega), rfl⟩)

set_option maxHeartbeats 400000 in
theorem isName_any (s : ByteArray) (w : World) :
    Calls Tryz.prog 85 #[.string s] w fun e w' => e = .returned (.bool (isNameB s)) ∧ w = w' := by
  go_enter Tryz.func85, Tryz.ntmps85
  go_wp2
  all_goals (go_ret; exact ⟨ret_bool (by unfold isNameB; rw [Bool.eq_iff_iff]; simp; omega), rfl⟩)

set_option maxHeartbeats 400000 in
theorem isText_any (s : ByteArray) (w : World) :
    Calls Tryz.prog 110 #[.string s] w fun e w' => e = .returned (.bool (isTextB s)) ∧ w = w' := by
  go_enter Tryz.func110, Tryz.ntmps110
  go_wp2
  all_goals (go_ret; exact ⟨ret_bool (by unfold isTextB; first | omega | (congr 1; apply propext; omega)), rfl⟩)

set_option maxHeartbeats 400000 in
theorem hasKey_any (k : Int) (w : World) :
    Calls Tryz.prog 125 #[.int .i64 k] w fun e w' => e = .returned (.bool (hasKeyB k)) ∧ w = w' := by
  go_enter Tryz.func125, Tryz.ntmps125
  go_wp2
  all_goals (go_ret; exact ⟨ret_bool (by unfold hasKeyB; rw [Bool.eq_iff_iff]; simp), rfl⟩)

set_option maxHeartbeats 1000000 in
theorem hasText_any (k : Int) (w : World) :
    Calls Tryz.prog 127 #[.int .i64 k] w fun e w' => e = .returned (.bool (hasTextB k)) ∧ w = w' := by
  go_enter Tryz.func127, Tryz.ntmps127
  go_wp2
  all_goals (go_ret; exact ⟨ret_bool (by simp_all [hasTextB]), rfl⟩)

set_option maxHeartbeats 1000000 in
theorem hasNumber_any (k : Int) (w : World) :
    Calls Tryz.prog 128 #[.int .i64 k] w fun e w' => e = .returned (.bool (hasNumberB k)) ∧ w = w' := by
  go_enter Tryz.func128, Tryz.ntmps128
  go_wp2
  all_goals (go_ret; exact ⟨ret_bool (by simp_all [hasNumberB]), rfl⟩)

set_option maxHeartbeats 1000000 in
theorem kindOf_any (k : Int) (w : World) :
    Calls Tryz.prog 58 #[.int .i64 k] w fun e w' => e = .returned (.int .i64 (kindOfI k)) ∧ w = w' := by
  go_enter Tryz.func58, Tryz.ntmps58
  go_wp2
  all_goals (go_ret; refine ⟨ret_int ?_, rfl⟩; simp only [beq_iff_eq, beq_eq_false_iff_ne, ne_eq] at *; unfold kindOfI; repeat (first | rw [if_pos (by omega)] | rw [if_neg (by omega)]))

set_option maxHeartbeats 400000 in
theorem hasField_any (k : Int) (w : World) :
    Calls Tryz.prog 126 #[.int .i64 k] w fun e w' => e = .returned (.bool (hasFieldB k)) ∧ w = w' := by
  go_enter Tryz.func126, Tryz.ntmps126
  go_wp2_with (go_at_call 58; refine (kindOf_any _ _).mono ?_; rintro e w' ⟨rfl, rfl⟩)
  go_ret
  refine ⟨ret_bool ?_, rfl⟩
  unfold hasFieldB kindOfI
  rw [Bool.eq_iff_iff]
  simp
  repeat (first | (split; first | omega | skip))
  all_goals omega
end Go.Proofs.YtfnephnecighaaaGreat

/- A number picked: rostrumkeep.picked is a number from 0 to many - 1. -/
namespace Go.Proofs.YtfnephnecighaaaGreat
open Go.RowKit

def pickedN (n : Int) (many : Nat) : Nat := (if n < 0 then -(n + 1) else n).toNat % many
theorem pickedN_lt (n : Int) {many : Nat} (h : 0 < many) : pickedN n many < many := Nat.mod_lt _ h

theorem tmod_nat (a : Int) (m : Nat) (h : 0 ≤ a) : a.tmod (m : Int) = ((a.toNat % m : Nat) : Int) := by
  obtain ⟨k, rfl⟩ := Int.eq_ofNat_of_zero_le h
  simp [Int.tmod]

set_option maxHeartbeats 400000 in
theorem picked_any (n : Int) (many : Nat) (w : World) (h1 : -9223372036854775808 ≤ n) (h2 : n ≤ 9223372036854775807) (hm : 0 < many) (hM : many ≤ 1073741824) :
    Calls Tryz.prog 21 #[.int .i64 n, .int .i64 (many : Int)] w fun e w' => e = .returned (.int .i64 (pickedN n many : Nat)) ∧ w = w' := by
  by_cases hn : n < 0
  · go_enter Tryz.func21, Tryz.ntmps21
    go_wp2
    go_ret
    refine ⟨ret_int ?_, rfl⟩
    rw [pickedN, if_pos hn]
    first | rw [tmod_nat _ _ (by omega)] | (have := tmod_nat (-(n + 1)) many (by omega); simp_all)
  · go_enter Tryz.func21, Tryz.ntmps21
    go_wp2
    go_ret
    refine ⟨ret_int ?_, rfl⟩
    rw [pickedN, if_neg (by omega)]
    obtain ⟨k, rfl⟩ := Int.eq_ofNat_of_zero_le (show 0 ≤ n by omega)
    simp
end Go.Proofs.YtfnephnecighaaaGreat
