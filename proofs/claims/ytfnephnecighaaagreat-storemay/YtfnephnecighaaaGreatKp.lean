/- A number picked: rostrumkeep.picked is a number from 0 to many - 1. -/
import Derived.Test.YtfnephnecighaaaGreatCa
namespace Go.Proofs.YtfnephnecighaaaGreat
open Go.RowKit

def pickedN (n : Int) (many : Nat) : Nat := (if n < 0 then -(n + 1) else n).toNat % many
theorem pickedN_lt (n : Int) {many : Nat} (h : 0 < many) : pickedN n many < many := Nat.mod_lt _ h

theorem tmod_nat (a : Int) (m : Nat) (h : 0 ≤ a) : a.tmod (m : Int) = ((a.toNat % m : Nat) : Int) := by
  obtain ⟨k, rfl⟩ := Int.eq_ofNat_of_zero_le h
  simp [Int.tmod]

set_option maxHeartbeats 400000 in
theorem picked_any (n : Int) (many : Nat) (w : World) (h1 : -9223372036854775808 ≤ n) (h2 : n ≤ 9223372036854775807) (hm : 0 < many) (hM : many ≤ 1073741824) :
    Calls Tryz.prog 21 #[.int .i64 n, .int .i64 (many : Int)] w fun e w' => e = .returned (.int .i64 (pickedN n many : Nat)) ∧ w = w' := by
  by_cases hn : n < 0
  · go_enter Tryz.func21, Tryz.ntmps21
    go_wp2
    go_ret
    refine ⟨ret_int ?_, rfl⟩
    rw [pickedN, if_pos hn]
    first | rw [tmod_nat _ _ (by omega)] | (have := tmod_nat (-(n + 1)) many (by omega); simp_all)
  · go_enter Tryz.func21, Tryz.ntmps21
    go_wp2
    go_ret
    refine ⟨ret_int ?_, rfl⟩
    rw [pickedN, if_neg (by omega)]
    obtain ⟨k, rfl⟩ := Int.eq_ofNat_of_zero_le (show 0 ≤ n by omega)
    simp
end Go.Proofs.YtfnephnecighaaaGreat
