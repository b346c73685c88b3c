/- Comparing numbers, texts and scores; the closures that tell which of two elements is below. -/
import Derived.Test.YtfnephnecighaaaGreatVe
import Derived.Sort.Walk0
namespace Go.Proofs.YtfnephnecighaaaGreat
open Go.RowKit
set_option linter.unusedVariables false

def cmpI (a b : Int) : Int := if a < b then -1 else if b < a then 1 else 0
def ltS (a b : ByteArray) : Bool := Op.bytesLess a.toList b.toList
def cmpS (a b : ByteArray) : Int := if ltS a b = true then -1 else if (a.toList == b.toList) = true then 0 else 1
def cmpSc (a b : ByteArray × Int) : Int := if a.2 = b.2 then cmpS a.1 b.1 else cmpI a.2 b.2

set_option maxHeartbeats 400000 in
theorem compareInt_any (a b : Int) (w : World) :
    Calls Tryz.prog 151 #[.int .i64 a, .int .i64 b] w fun e w' => e = .returned (.int .i64 (cmpI a b)) ∧ w = w' := by
  go_enter Tryz.func151, Tryz.ntmps151
  go_wp2
  all_goals (go_ret; refine ⟨ret_int ?_, rfl⟩; unfold cmpI; (repeat' split) <;> omega)

set_option maxHeartbeats 400000 in
theorem compareString_any (a b : ByteArray) (w : World) :
    Calls Tryz.prog 78 #[.string a, .string b] w fun e w' => e = .returned (.int .i64 (cmpS a b)) ∧ w = w' := by
  go_enter Tryz.func78, Tryz.ntmps78
  go_wp2
  all_goals (go_ret; refine ⟨ret_int ?_, rfl⟩; simp_all [cmpS, ltS])

set_option maxHeartbeats 400000 in
theorem compareScores_any (a b : ByteArray × Int) (w : World) :
    Calls Tryz.prog 123 #[valS a, valS b] w fun e w' => e = .returned (.int .i64 (cmpSc a b)) ∧ Below w.heap.size w w' := by
  obtain ⟨a1, a2⟩ := a
  obtain ⟨b1, b2⟩ := b
  by_cases h : a2 = b2
  · subst h
    go_enter Tryz.func123, Tryz.ntmps123
    go_wp2_with (go_at_call 78; refine (compareString_any _ _ _).mono ?_; rintro e w' ⟨rfl, rfl⟩)
    go_ret
    exact ⟨ret_int (by simp [cmpSc]), (balloc _ _).alloc (by simp) _⟩
  · have hb : (a2 != b2) = true := by simpa using h
    go_enter Tryz.func123, Tryz.ntmps123
    go_wp2_with (go_at_call 151; refine (compareInt_any _ _ _).mono ?_; rintro e w' ⟨rfl, rfl⟩)
    go_ret
    exact ⟨ret_int (by simp [cmpSc, h]), (balloc _ _).alloc (by simp) _⟩

def ltP (a b : ByteArray × ByteArray) : Bool := ltS a.1 b.1
def ltSc (a b : ByteArray × Int) : Bool := decide (cmpSc a b < 0)

set_option maxHeartbeats 400000 in
theorem textBelow_less (w : World) : LessOf Tryz.prog valI ltS 117 #[] w := by
  intro x y W _
  show Calls Tryz.prog 117 #[.string x, .string y] W _
  go_enter Tryz.func117, Tryz.ntmps117
  go_wp2
  go_ret
  exact ⟨ret_bool (by simp [ltS]), Below.refl _ _⟩

set_option maxHeartbeats 400000 in
theorem pairBelow_less (w : World) : LessOf Tryz.prog valP ltP 119 #[] w := by
  intro x y W _
  show Calls Tryz.prog 119 #[.agg #[.string x.1, .string x.2], .agg #[.string y.1, .string y.2]] W _
  go_enter Tryz.func119, Tryz.ntmps119
  go_wp2
  go_ret
  exact ⟨ret_bool (by simp [ltP, ltS]), (balloc _ _).alloc (by simp) _⟩

set_option maxHeartbeats 400000 in
theorem scoreBelow_less (w : World) : LessOf Tryz.prog valS ltSc 122 #[] w := by
  intro x y W _
  show Calls Tryz.prog 122 #[.agg #[.string x.1, .int .i64 x.2], .agg #[.string y.1, .int .i64 y.2]] W _
  go_enter Tryz.func122, Tryz.ntmps122
  go_wp2_with (go_at_call 123; refine (compareScores_any (x.1, x.2) (y.1, y.2) _).mono ?_; rintro e w1 ⟨rfl, hb1⟩)
  go_ret
  refine ⟨ret_bool (by simp [ltSc]), ?_⟩
  first | exact hb1 | exact bstep (balloc _ _) hb1 | exact bstep ((balloc _ _).alloc (by simp) _) hb1
end Go.Proofs.YtfnephnecighaaaGreat
