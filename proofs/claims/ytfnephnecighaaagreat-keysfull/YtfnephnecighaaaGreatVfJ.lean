/- Comparing numbers, texts and scores; the closures that tell which of two elements is below. -/
import Derived.Test.YtfnephnecighaaaGreatVe
import Derived.Sort.Walk0
namespace Go.Proofs.YtfnephnecighaaaGreat
open Go.RowKit
set_option linter.unusedVariables false

def cmpI (a b : Int) : Int := if a < b then -1 else if b < a then 1 else 0
def ltS (a b : ByteArray) : Bool := Op.bytesLess a.toList b.toList
def cmpS (a b : ByteArray) : Int := if ltS a b = true then -1 else if (a.toList == b.toList) = true then 0 else 1
def cmpSc (a b : ByteArray × Int) : Int := if a.2 = b.2 then cmpS a.1 b.1 else cmpI a.2 b.2

set_option maxHeartbeats 400000 in
theorem compareInt_any (a b : Int) (w : World) :
    Calls Tryz.prog 151 #[.int .i64 a, .int .i64 b] w fun e w' => e = .returned (.int .i64 (cmpI a b)) ∧ w = w' := by
  go_enter Tryz.func151, Tryz.ntmps151
  go_wp2
  all_goals (go_ret; refine ⟨ret_int ?_, rfl⟩; unfold cmpI; (repeat' split) <;> omega)

set_option maxHeartbeats 400000 in
theorem compareString_any (a b : ByteArray) (w : World) :
    Calls Tryz.prog 78 #[.string a, .string b] w fun e w' => e = .returned (.int .i64 (cmpS a b)) ∧ w = w' := by
  go_enter Tryz.func78, Tryz.ntmps78
  go_wp2
  all_goals (go_ret; refine ⟨ret_int ?_, rfl⟩; simp_all [cmpS, ltS])

set_option maxHeartbeats 400000 in
theorem compareScores_any (a b : ByteArray × Int) (w : World) :
    Calls Tryz.prog 123 #[valS a, valS b] w fun e w' => e = .returned (.int .i64 (cmpSc a b)) ∧ Below w.heap.size w w' := by
  obtain ⟨a1, a2⟩ := a
  obtain ⟨b1, b2⟩ := b
  by_cases h : a2 = b2
  · subst h
    go_enter Tryz.func123, Tryz.ntmps123
    go_wp2_with (go_at_call 78; refine (compareString_any _ _ _).mono ?_; rintro e w' ⟨rfl, rfl⟩)
    go_ret
    exact ⟨ret_int (by simp [cmpSc]), (balloc _ _).alloc (by simp) _⟩
  · have hb : (a2 != b2) = true := by simpa using h
    go_enter Tryz.func123, Tryz.ntmps123
    go_wp2_with (go_at_call 151; refine (compareInt_any _ _ _).mono ?_; rintro e w' ⟨rfl, rfl⟩)
    go_ret
    exact ⟨ret_int (by simp [cmpSc, h]), (balloc _ _).alloc (by simp) _⟩

def ltP (a b : ByteArray × ByteArray) : Bool := ltS a.1 b.1
def ltSc (a b : ByteArray × Int) : Bool := decide (cmpSc a b < 0)

set_option maxHeartbeats 400000 in
theorem textBelow_less (w : World) : LessOf Tryz.prog valI ltS 117 #[] w := by
  intro x y W _
  show Calls Tryz.prog 117 #[.string x, .string y] W _
  go_enter Tryz.func117, Tryz.ntmps117
  go_wp2
  go_ret
  exact ⟨ret_bool (by simp [ltS]), Below.refl _ _⟩

set_option maxHeartbeats 400000 in
theorem pairBelow_less (w : World) : LessOf Tryz.prog valP ltP 119 #[] w := by
  intro x y W _
  show Calls Tryz.prog 119 #[.agg #[.string x.1, .string x.2], .agg #[.string y.1, .string y.2]] W _
  go_enter Tryz.func119, Tryz.ntmps119
  go_wp2
  go_ret
  exact ⟨ret_bool (by simp [ltP, ltS]), (balloc _ _).alloc (by simp) _⟩

set_option maxHeartbeats 400000 in
theorem scoreBelow_less (w : World) : LessOf Tryz.prog valS ltSc 122 #[] w := by
  intro x y W _
  show Calls Tryz.prog 122 #[.agg #[.string x.1, .int .i64 x.2], .agg #[.string y.1, .int .i64 y.2]] W _
  go_enter Tryz.func122, Tryz.ntmps122
  go_wp2_with (go_at_call 123; refine (compareScores_any (x.1, x.2) (y.1, y.2) _).mono ?_; rintro e w1 ⟨rfl, hb1⟩)
  go_ret
  refine ⟨ret_bool (by simp [ltSc]), ?_⟩
  first | exact hb1 | exact bstep (balloc _ _) hb1 | exact bstep ((balloc _ _).alloc (by simp) _) hb1
end Go.Proofs.YtfnephnecighaaaGreat

/- Texts, scores and their order; rising lists are pairwise in order: plain lists alone. -/
namespace Go.Proofs.YtfnephnecighaaaGreat
open Go.RowKit
set_option linter.unusedVariables false

theorem bytes_ext {a b : ByteArray} (h : a.toList = b.toList) : a = b := by
  rw [ByteArray.toList_eq, ByteArray.toList_eq] at h
  cases a; cases b
  simp at h
  simp [h]
theorem ltS_iff (a b : ByteArray) : ltS a b = true ↔ a.toList < b.toList := by rw [ltS, bytesLess_eq]; simp
theorem ltS_trans {a b c : ByteArray} (h : ltS a b = true) (h' : ltS b c = true) : ltS a c = true := by
  rw [ltS_iff] at *; exact List.lt_trans h h'
theorem ltS_irrefl (a : ByteArray) : ltS a a = false := by
  cases h : ltS a a with
  | false => rfl
  | true => rw [ltS_iff] at h; exact absurd h (List.lt_irrefl _)
theorem ltS_asymm {a b : ByteArray} (h : ltS a b = true) : ltS b a = false := by
  cases h' : ltS b a with
  | false => rfl
  | true => have := ltS_trans h h'; rw [ltS_irrefl] at this; cases this
theorem ltS_tri {a b : ByteArray} (h : ltS a b = false) (h' : ltS b a = false) : a = b := by
  apply bytes_ext
  have h1 : ¬ a.toList < b.toList := fun e => by rw [(ltS_iff a b).2 e] at h; cases h
  have h2 : ¬ b.toList < a.toList := fun e => by rw [(ltS_iff b a).2 e] at h'; cases h'
  exact List.le_antisymm (List.not_lt.1 h2) (List.not_lt.1 h1)
theorem cmpS_cases (a b : ByteArray) : (cmpS a b = -1 ∧ ltS a b = true) ∨ (cmpS a b = 0 ∧ a = b) ∨ (cmpS a b = 1 ∧ ltS b a = true) := by
  unfold cmpS
  by_cases h : ltS a b = true
  · exact .inl ⟨by simp [h], h⟩
  · by_cases e : (a.toList == b.toList) = true
    · exact .inr (.inl ⟨by simp [h, e], bytes_ext (by simpa using e)⟩)
    · refine .inr (.inr ⟨by simp [h, e], ?_⟩)
      cases h' : ltS b a with
      | true => rfl
      | false => exact absurd (congrArg (fun x => x.toList == b.toList) (ltS_tri (by simpa using h) h')) (by simp at e ⊢; exact e)
theorem cmpS_lt (a b : ByteArray) : cmpS a b < 0 ↔ ltS a b = true := by
  rcases cmpS_cases a b with ⟨h, e⟩ | ⟨h, e⟩ | ⟨h, e⟩
  · simp [h, e]
  · subst e; simp [h, ltS_irrefl]
  · simp [h, ltS_asymm e]
theorem cmpS_eq (a b : ByteArray) : cmpS a b = 0 ↔ a = b := by
  rcases cmpS_cases a b with ⟨h, e⟩ | ⟨h, e⟩ | ⟨h, e⟩
  · simp [h]; rintro rfl; rw [ltS_irrefl] at e; cases e
  · subst e; simp [h]
  · simp [h]; rintro rfl; rw [ltS_irrefl] at e; cases e
theorem cmpS_gt (a b : ByteArray) : 0 < cmpS a b ↔ ltS b a = true := by
  rcases cmpS_cases a b with ⟨h, e⟩ | ⟨h, e⟩ | ⟨h, e⟩
  · simp [h, ltS_asymm e]
  · subst e; simp [h, ltS_irrefl]
  · simp [h, e]

/-- Scores: less, by numbers and then by members. -/
theorem ltSc_iff (a b : ByteArray × Int) : ltSc a b = true ↔ (a.2 < b.2 ∨ (a.2 = b.2 ∧ ltS a.1 b.1 = true)) := by
  unfold ltSc cmpSc cmpI
  by_cases h : a.2 = b.2
  · simp [h, cmpS_lt]
  · rw [if_neg h]
    by_cases h1 : a.2 < b.2
    · simp [h1]
    · have : b.2 < a.2 := by omega
      simp [h1, this, h]
theorem ltSc_trans {a b c : ByteArray × Int} (h : ltSc a b = true) (h' : ltSc b c = true) : ltSc a c = true := by
  rw [ltSc_iff] at *
  rcases h with h | ⟨h, e⟩ <;> rcases h' with h' | ⟨h', e'⟩
  · left; omega
  · left; omega
  · left; omega
  · exact .inr ⟨by omega, ltS_trans e e'⟩
theorem ltSc_irrefl (a : ByteArray × Int) : ltSc a a = false := by
  cases h : ltSc a a with
  | false => rfl
  | true => rw [ltSc_iff] at h; rcases h with h | ⟨-, h⟩; omega; rw [ltS_irrefl] at h; cases h
theorem ltSc_tri {a b : ByteArray × Int} (h : ltSc a b = false) (h' : ltSc b a = false) : a = b := by
  have h1 : ¬ (a.2 < b.2 ∨ (a.2 = b.2 ∧ ltS a.1 b.1 = true)) := fun e => by rw [(ltSc_iff a b).2 e] at h; cases h
  have h2 : ¬ (b.2 < a.2 ∨ (b.2 = a.2 ∧ ltS b.1 a.1 = true)) := fun e => by rw [(ltSc_iff b a).2 e] at h'; cases h'
  have e2 : a.2 = b.2 := by omega
  have e1 : a.1 = b.1 := ltS_tri (by simpa [e2] using h1) (by simpa [e2] using h2)
  cases a; cases b; simp_all
theorem cmpSc_neg (a b : ByteArray × Int) : cmpSc a b < 0 ↔ ltSc a b = true := by simp [ltSc]

theorem rises_pair {α : Type} {lt : α → α → Bool} (ht : ∀ a b c, lt a b = true → lt b c = true → lt a c = true) : ∀ l : List α, risesB lt l = true ↔ l.Pairwise (fun a b => lt a b = true)
  | [] => by simp [risesB]
  | [a] => by simp [risesB]
  | a :: b :: r => by
    rw [risesB, Bool.and_eq_true, rises_pair ht (b :: r), List.pairwise_cons (a := a)]
    constructor
    · rintro ⟨h1, h2⟩
      refine ⟨fun c hc => ?_, h2⟩
      rcases List.mem_cons.1 hc with rfl | hc
      · exact h1
      · exact ht _ _ _ h1 ((List.pairwise_cons.1 h2).1 c hc)
    · rintro ⟨h1, h2⟩
      exact ⟨h1 b (by simp), h2⟩

end Go.Proofs.YtfnephnecighaaaGreat
