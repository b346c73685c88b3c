/- Logs of items that do nothing, of one term. -/
import Derived.Test.YteghlkckccdlcaaMb
namespace Go.Proofs.Yteghlkckccdlcaa
open Go.RowKit
set_option linter.unusedVariables false

theorem itemsOk_ones : ∀ (n : Nat) (t u : Int), t ≤ 1 → u ≤ 0 → itemsOk t u (List.replicate n (nopAt 1 0)) = true := by
  intro n
  induction n with
  | zero => intros; rfl
  | succ n ih =>
    intro t u h1 h2
    have hf : (nopAt 1 0).fault = 0 := nopAt_fault (by decide) (by decide)
    have e1 : (nopAt 1 0).t = 1 := rfl
    have e2 : (nopAt 1 0).u = 0 := rfl
    rw [List.replicate_succ]
    simp only [itemsOk, hf, e1, e2]
    rw [ih 1 0 (by omega) (by omega)]
    simp [h1, h2]
theorem okB_ones (n : Nat) : Lg.okB ⟨0, 0, List.replicate n (nopAt 1 0)⟩ = decide (n ≤ 200) := by
  have e : baseB 0 0 = true := by decide
  simp only [Lg.okB, e, List.length_replicate, itemsOk_ones n 0 0 (by omega) (by omega), Bool.true_and, Bool.and_true]
  by_cases h : n ≤ 200
  · have : Lg.last ⟨0, 0, List.replicate n (nopAt 1 0)⟩ ≤ 1048576 := by unfold Lg.last; simp; omega
    simp [h, this]
  · simp [h]
theorem matchR_ones (m : Nat) (hm : m ≤ 200) : Lg.matchR ⟨0, 0, List.replicate m (nopAt 1 0)⟩ m (if m = 0 then 0 else 1) [nopAt 1 0] = if m < 200 then ⟨⟨0, 0, List.replicate (m + 1) (nopAt 1 0)⟩, true, (m : Int) + 1, 0⟩ else ⟨nilLg, false, 0, 6⟩ := by
  have h1 : Lg.okB ⟨0, 0, List.replicate m (nopAt 1 0)⟩ = true := by rw [okB_ones]; simpa using hm
  have h2 : Lg.okB ⟨m, if m = 0 then 0 else 1, [nopAt 1 0]⟩ = true := by
    simp only [Lg.okB, Bool.and_eq_true, decide_eq_true_eq]
    refine ⟨⟨⟨?_, by simp⟩, by unfold Lg.last; simp; omega⟩, itemsOk_ones 1 _ _ (by split <;> omega) (by omega)⟩
    unfold baseB
    by_cases h0 : m = 0
    · simp [h0]
    · rw [if_neg (by omega), if_neg h0]; simp [numB]; omega
  have hL : Lg.last ⟨0, 0, List.replicate m (nopAt 1 0)⟩ = m := by unfold Lg.last; simp
  have h3 : Lg.fitB ⟨0, 0, List.replicate m (nopAt 1 0)⟩ m (if m = 0 then 0 else 1) = true := by
    unfold Lg.fitB
    rw [if_neg (by show ¬ (m : Int) < 0; omega), if_neg (by rw [hL]; omega)]
    unfold Lg.termAt
    by_cases h0 : m = 0
    · simp [h0]
    · rw [if_neg (by show ¬ (m : Int) = 0; omega), if_neg h0]
      rw [show ((m : Int) - 0 - 1).toNat = m - 1 by omega, List.getElem?_replicate, if_pos (by omega)]
      rfl
  have h4 : Lg.freshAt ⟨0, 0, List.replicate m (nopAt 1 0)⟩ m [nopAt 1 0] = (m : Int) + 1 := by
    unfold Lg.freshAt
    rw [if_pos (.inl (by rw [hL]; omega))]
  have h5 : Lg.laidAt ⟨0, 0, List.replicate m (nopAt 1 0)⟩ m [nopAt 1 0] = ⟨0, 0, List.replicate (m + 1) (nopAt 1 0)⟩ := by
    unfold Lg.laidAt
    rw [h4]
    simp only
    rw [show ((m : Int) + 1 - 0 - 1).toNat = m by omega, show ((m : Int) + 1 - (m : Int) - 1).toNat = 0 by omega, List.take_of_length_le (by simp), List.drop_zero, List.replicate_succ']
  unfold Lg.matchR
  rw [if_pos h1, if_pos h2, if_pos h3, if_neg (by rw [h4]; omega), h4, h5, okB_ones]
  by_cases h : m < 200
  · rw [if_pos h, if_pos (by simp; omega)]
  · rw [if_neg h, if_neg (by simp; omega)]
end Go.Proofs.Yteghlkckccdlcaa
