/- Adding to a count; the commands that are done with a value of whatever kind, or with a text or a count. -/
import Derived.Test.YtfnephnecighaaaGreatWc
import Derived.BigRegion
import Derived.Deep.RegionWith
namespace Go.Proofs.YtfnephnecighaaaGreat
open Go.RowKit
set_option linter.unusedVariables false

def addV (x : Val) (n : Int) : Val × Rep := if isCountB (x.count + n) = true then ({ x with count := x.count + n }, { n := x.count + n }) else (x, { code := 7 })

abbrev repO (code : Int) (text : ByteArray) (n : Int) (ls : Value) : Obj := .cells #[.int .i64 code, .string text, .int .i64 n, ls] 32

set_option maxHeartbeats 2000000 in
theorem add_core (kind : Int) (text : ByteArray) (count : Int) (pa ia sa : Option Addr) (np pc ni ic ns sc : Nat) (n : Int) (w : World)
    (h1 : -1099511627776 ≤ count) (h2 : count ≤ 1099511627776) (h3 : -1099511627776 ≤ n) (h4 : n ≤ 1099511627776) :
    Calls Tryz.prog 94 #[valV kind text count (.slice pa np pc) (.slice ia ni ic) (.slice sa ns sc), .int .i64 n] w fun e w' =>
      (e = if isCountB (count + n) = true then .returned (.tuple #[valV kind text (count + n) (.slice pa np pc) (.slice ia ni ic) (.slice sa ns sc), repV 0 ⟨#[]⟩ (count + n) (.slice none 0 0)])
        else .returned (.tuple #[valV kind text count (.slice pa np pc) (.slice ia ni ic) (.slice sa ns sc), repV 7 ⟨#[]⟩ 0 (.slice none 0 0)])) ∧ Below w.heap.size w w' := by
  by_cases hc : isCountB (count + n) = true
  · rw [if_pos hc]
    go_enter Tryz.func94, Tryz.ntmps94
    go_wp2_with (go_at_call 93; refine (isCount_any _ _).mono ?_; rintro e w1 ⟨rfl, rfl⟩)
    go_region
    go_wp2_with fail
    refine bodyPost_ret (v := .tuple #[valV kind text (count + n) (.slice pa np pc) (.slice ia ni ic) (.slice sa ns sc), repV 0 ⟨#[]⟩ (count + n) (.slice none 0 0)]) (by simp [results, Tryz.results94, go_sem]) rfl ⟨rfl, ?_⟩
    repeat (first | exact balloc _ _ | exact Below.refl _ _ | refine Below.drew ?_ | refine Below.alloc ?_ (by simp <;> omega) _ | refine Below.setCell ?_ (by simp <;> omega) _)
  · have hc : isCountB (count + n) = false := by simpa using hc
    rw [if_neg (by simp [hc])]
    go_enter Tryz.func94, Tryz.ntmps94
    go_wp2_with (go_at_call 93; refine (isCount_any _ _).mono ?_; rintro e w1 ⟨rfl, rfl⟩)
    refine bodyPost_ret (v := .tuple #[valV kind text count (.slice pa np pc) (.slice ia ni ic) (.slice sa ns sc), repV 7 ⟨#[]⟩ 0 (.slice none 0 0)]) (by simp [results, Tryz.results94, go_sem]) rfl ⟨rfl, ?_⟩
    repeat (first | exact balloc _ _ | exact Below.refl _ _ | refine Below.drew ?_ | refine Below.alloc ?_ (by simp <;> omega) _ | refine Below.setCell ?_ (by simp <;> omega) _)
end Go.Proofs.YtfnephnecighaaaGreat
