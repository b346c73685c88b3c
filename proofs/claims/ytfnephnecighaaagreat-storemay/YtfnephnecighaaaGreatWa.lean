/- What a command is tried with: small functions; a value's copy. -/
import Derived.Test.YtfnephnecighaaaGreatVh
namespace Go.Proofs.YtfnephnecighaaaGreat
open Go.RowKit
set_option linter.unusedVariables false

def noneN (kind : Int) (text : ByteArray) (count : Int) (n : Nat) : Bool := kind == 0 && text.toList.isEmpty && count == 0 && n == 0
def Val.none (x : Val) : Bool := noneN x.kind x.text x.count x.size
def ofStoreB (k : Int) : Bool := decide (k = 19 ∨ k = 20 ∨ k = 21 ∨ k = 22)
def makesB (k : Int) : Bool := decide (k = 1 ∨ k = 3 ∨ k = 4 ∨ k = 7 ∨ k = 8 ∨ k = 11 ∨ k = 14)
def fitsB (kind k : Int) : Bool := if k = 1 then true else if k = 17 ∨ k = 18 then holdsB kind else decide (kind = kindOfI k)

set_option maxHeartbeats 1000000 in
theorem isOfStore_any (k : Int) (w : World) :
    Calls Tryz.prog 55 #[.int .i64 k] w fun e w' => e = .returned (.bool (ofStoreB k)) ∧ w = w' := by
  go_enter Tryz.func55, Tryz.ntmps55
  go_wp2
  all_goals (go_ret; exact ⟨ret_bool (by simp_all [ofStoreB]), rfl⟩)

set_option maxHeartbeats 1000000 in
theorem makes_any (k : Int) (w : World) :
    Calls Tryz.prog 56 #[.int .i64 k] w fun e w' => e = .returned (.bool (makesB k)) ∧ w = w' := by
  go_enter Tryz.func56, Tryz.ntmps56
  go_wp2
  all_goals (go_ret; exact ⟨ret_bool (by simp_all [makesB]), rfl⟩)

set_option maxHeartbeats 1000000 in
theorem fits_any (kind k : Int) (w : World) :
    Calls Tryz.prog 59 #[.int .i64 kind, .int .i64 k] w fun e w' => e = .returned (.bool (fitsB kind k)) ∧ w = w' := by
  go_enter Tryz.func59, Tryz.ntmps59
  go_wp2_with (first
    | (go_at_call 31; refine (holdsElements_any _ _).mono ?_; rintro e w' ⟨rfl, rfl⟩)
    | (go_at_call 58; refine (kindOf_any _ _).mono ?_; rintro e w' ⟨rfl, rfl⟩))
  all_goals (go_ret; refine ⟨ret_bool ?_, rfl⟩; simp_all [fitsB])
  all_goals (try (rw [Bool.eq_iff_iff]; simp))

set_option maxHeartbeats 400000 in
theorem number_any (b : Bool) (w : World) :
    Calls Tryz.prog 133 #[.bool b] w fun e w' => e = .returned (.int .i64 (if b = true then 1 else 0)) ∧ w = w' := by
  cases b
  · go_enter Tryz.func133, Tryz.ntmps133
    go_wp2
    go_ret
    exact ⟨ret_int (by simp), rfl⟩
  · go_enter Tryz.func133, Tryz.ntmps133
    go_wp2
    go_ret
    exact ⟨ret_int (by simp), rfl⟩

set_option maxHeartbeats 1000000 in
theorem isNone_core (kind : Int) (text : ByteArray) (count : Int) (ps is ss : Value) (n : Nat) (w : World)
    (HE : Hid (∀ W, Below w.heap.size w W → Calls Tryz.prog 32 #[valV kind text count ps is ss] W fun e w' => e = .returned (.int .i64 (n : Nat)) ∧ Below W.heap.size W w')) :
    Calls Tryz.prog 52 #[valV kind text count ps is ss] w fun e w' => e = .returned (.bool (noneN kind text count n)) ∧ Below w.heap.size w w' := by
  by_cases h1 : kind = 0
  · subst h1
    by_cases h2 : text.toList = []
    · by_cases h3 : count = 0
      · subst h3
        go_enter Tryz.func52, Tryz.ntmps52
        go_wp2_with fail
        refine (HE.out _ (balloc _ _)).mono ?_
        rintro e w1 ⟨rfl, hb1⟩
        have hB1 := bstep (balloc _ _) hb1
        clear hb1
        go_wp2_with fail
        go_ret
        exact ⟨ret_bool (by rw [Bool.eq_iff_iff]; simp [noneN, h2]), hB1⟩
      · have n3 : (count == 0) = false := by simpa using h3
        go_enter Tryz.func52, Tryz.ntmps52
        go_wp2_with fail
        go_ret
        exact ⟨ret_bool (by simp [noneN, n3]), balloc _ _⟩
    · go_enter Tryz.func52, Tryz.ntmps52
      go_wp2_with fail
      go_ret
      exact ⟨ret_bool (by simp [noneN, h2]), balloc _ _⟩
  · have n1 : (kind == 0) = false := by simpa using h1
    go_enter Tryz.func52, Tryz.ntmps52
    go_wp2_with fail
    go_ret
    exact ⟨ret_bool (by simp [noneN, n1]), balloc _ _⟩

theorem isNone_any (v : Value) (x : Val) (w : World) (h : Reps w v x) :
    Calls Tryz.prog 52 #[v] w fun e w' => e = .returned (.bool x.none) ∧ Below w.heap.size w w' := by
  have he := fun W (hb : Below w.heap.size w W) => elements_any v x W (h.below hb)
  obtain ⟨ps, is, ss, rfl, hl⟩ := h
  exact isNone_core _ _ _ _ _ _ _ _ he

set_option maxHeartbeats 400000 in
theorem isFull_any (v : Value) (x : Val) (w : World) (h : Reps w v x) :
    Calls Tryz.prog 141 #[v] w fun e w' => e = .returned (.bool (decide (20 ≤ x.size))) ∧ Below w.heap.size w w' := by
  have he := fun W (hb : Below w.heap.size w W) => elements_any v x W (h.below hb)
  obtain ⟨ps, is, ss, rfl, hl⟩ := h
  have HE : Hid (∀ W, Below w.heap.size w W → Calls Tryz.prog 32 #[valV x.kind x.text x.count ps is ss] W fun e w' => e = .returned (.int .i64 (x.size : Nat)) ∧ Below W.heap.size W w') := he
  clear he hl
  generalize x.size = n at HE ⊢
  go_enter Tryz.func141, Tryz.ntmps141
  go_wp2_with (go_at_call 32; refine (HE.out _ (balloc _ _)).mono ?_; rintro e w1 ⟨rfl, hb1⟩; have hB1 := bstep (balloc _ _) hb1; clear hb1)
  go_ret
  exact ⟨ret_bool (by rw [Bool.eq_iff_iff]; simp; omega), hB1⟩
end Go.Proofs.YtfnephnecighaaaGreat
