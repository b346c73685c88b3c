/- What a value's fault comes to, step by step, as the document tells it: plain lists alone. -/
import Derived.Test.YtnlaehpldmkdoaaMt0
namespace Go.Proofs.Ytnlaehpldmkdoaa
open Go.RowKit
set_option linter.unusedVariables false

theorem fault_kind {x : Val} (h : x.kind < 1 ∨ 6 < x.kind) : x.fault = 3 := by rw [Val.fault, if_pos h]
theorem fault_form {x : Val} (h : ¬ (x.kind < 1 ∨ 6 < x.kind)) (hf : x.foreign = true) : x.fault = 8 := by rw [Val.fault, if_neg h, if_pos hf]
theorem fault_size {x : Val} (h : ¬ (x.kind < 1 ∨ 6 < x.kind)) (hf : x.foreign = false) (hs : x.sizesB = false) : x.fault = 1 := by
  rw [Val.fault, if_neg h, if_neg (by simp [hf]), if_pos hs]
theorem fault_range {x : Val} (h : ¬ (x.kind < 1 ∨ 6 < x.kind)) (hf : x.foreign = false) (hs : x.sizesB = true) (hn : x.numbersB = false) : x.fault = 2 := by
  rw [Val.fault, if_neg h, if_neg (by simp [hf]), if_neg (by simp [hs]), if_pos hn]
theorem fault_order {x : Val} (h : ¬ (x.kind < 1 ∨ 6 < x.kind)) (hf : x.foreign = false) (hs : x.sizesB = true) (hn : x.numbersB = true) (ho : x.orderB = false) : x.fault = 10 := by
  rw [Val.fault, if_neg h, if_neg (by simp [hf]), if_neg (by simp [hs]), if_neg (by simp [hn]), if_pos ho]
theorem fault_none {x : Val} (h : ¬ (x.kind < 1 ∨ 6 < x.kind)) (hf : x.foreign = false) (hs : x.sizesB = true) (hn : x.numbersB = true) (ho : x.orderB = true) : x.fault = 0 := by
  rw [Val.fault, if_neg h, if_neg (by simp [hf]), if_neg (by simp [hs]), if_neg (by simp [hn]), if_neg (by simp [ho])]

/-- The first test of sizes. -/
def sizeB (x : Val) : Bool := (decide (3 ≤ x.kind) && !(decide (1 ≤ x.size) && decide (x.size ≤ 20))) || !isTextB x.text
theorem sizes_split {x : Val} (h : ¬ (x.kind < 1 ∨ 6 < x.kind)) : x.sizesB = (!sizeB x && !anyB wrongP x.pairs && !anyB wrongI x.items && !anyB wrongS x.scores) := by
  have hh : holdsB x.kind = decide (3 ≤ x.kind) := by unfold holdsB; rw [decide_eq_decide]; omega
  have h1 : decide (x.size < 1) = !decide (1 ≤ x.size) := by rw [Bool.eq_iff_iff]; simp <;> omega
  have h2 : decide (20 < x.size) = !decide (x.size ≤ 20) := by rw [Bool.eq_iff_iff]; simp
  unfold Val.sizesB sizeB
  rw [hh, h1, h2]
  cases decide (3 ≤ x.kind) <;> cases decide (1 ≤ x.size) <;> cases decide (x.size ≤ 20) <;> cases isTextB x.text <;> simp

/-- A score stands well behind those ahead of it: the document's test at a place. -/
def scoreOk (l : List (ByteArray × Int)) (i : Nat) : Prop := ∀ h : i + 1 < l.length, ltSc (l[i]'(by omega)) l[i + 1] = true ∧ ∀ j (hj : j ≤ i), (l[j]'(by omega)).1 ≠ l[i + 1].1
theorem scores_ok (l : List (ByteArray × Int)) : (∀ i, scoreOk l i) ↔ (risesB ltSc l = true ∧ (l.map (·.1)).Nodup) := by
  rw [risesB_iff]
  constructor
  · intro h
    refine ⟨fun i hi => (h i hi).1, ?_⟩
    rw [List.nodup_iff_pairwise_ne, List.pairwise_iff_getElem]
    intro i j hi hj hij
    simp only [List.length_map] at hi hj
    simp only [List.getElem_map]
    obtain ⟨j, rfl⟩ : ∃ k, j = k + 1 := ⟨j - 1, by omega⟩
    exact (h j hj).2 i (by omega)
  · rintro ⟨h1, h2⟩ i hi
    rw [List.nodup_iff_pairwise_ne, List.pairwise_iff_getElem] at h2
    refine ⟨h1 i hi, fun j hj => ?_⟩
    have := h2 j (i + 1) (by simp; omega) (by simpa using hi) (by omega)
    simpa using this

theorem foreign_pairs {x : Val} (hf : x.foreign = false) (h : x.kind ≠ 3) : x.pairs = [] := by
  simp [Val.foreign, foreignN] at hf; simp_all
theorem foreign_scores {x : Val} (hf : x.foreign = false) (h : x.kind ≠ 6) : x.scores = [] := by
  simp [Val.foreign, foreignN] at hf; simp_all
theorem foreign_items {x : Val} (hf : x.foreign = false) (h : x.kind ≠ 4) (h5 : x.kind ≠ 5) : x.items = [] := by
  simp [Val.foreign, foreignN] at hf; simp_all

theorem order_pairs {x : Val} (hf : x.foreign = false) (h : risesB ltP x.pairs = false) : x.orderB = false := by
  by_cases h3 : x.kind = 3
  · rw [Val.orderB, if_pos h3]; exact h
  · rw [foreign_pairs hf h3] at h; simp [risesB] at h
theorem order_items {x : Val} (h5 : x.kind = 5) (h : risesB ltS x.items = false) : x.orderB = false := by
  rw [Val.orderB, if_neg (by omega), if_pos h5]; exact h
theorem order_scores {x : Val} (hf : x.foreign = false) (i : Nat) (h : ¬ scoreOk x.scores i) : x.orderB = false := by
  by_cases h6 : x.kind = 6
  · rw [Val.orderB, if_neg (by omega), if_neg (by omega), if_pos h6]
    have hn : x.names = x.scores.map (·.1) := by rw [Val.names, foreign_pairs hf (by omega), foreign_items hf (by omega) (by omega)]; rfl
    rw [hn, Bool.eq_false_iff]
    intro ht
    rw [Bool.and_eq_true, sorted_rises] at ht
    exact h ((scores_ok _).2 ht i)
  · exfalso; apply h; intro hi; rw [foreign_scores hf h6] at hi; simp at hi
theorem order_all {x : Val} (hf : x.foreign = false) (h1 : risesB ltP x.pairs = true) (h2 : x.kind = 5 → risesB ltS x.items = true) (h3 : ∀ i, scoreOk x.scores i) : x.orderB = true := by
  unfold Val.orderB
  split
  · exact h1
  · split
    · next h => exact h2 h
    · split
      · next h3' h5' h6 =>
        have hn : x.names = x.scores.map (·.1) := by rw [Val.names, foreign_pairs hf (by omega), foreign_items hf (by omega) (by omega)]; rfl
        obtain ⟨k1, k2⟩ := (scores_ok _).1 h3
        rw [hn, Bool.and_eq_true, sorted_rises]
        exact ⟨k1, k2⟩
      · rfl
end Go.Proofs.Ytnlaehpldmkdoaa
