/- A trimmed log, and items behind its last one. -/
import Derived.Test.YtlmmeapdeojkdaaMd
namespace Go.Proofs.Ytlmmeapdeojkdaa
open Go.RowKit
set_option linter.unusedVariables false

theorem lastU_nonneg (g : Lg) (hk : g.okB = true) : 0 ≤ g.lastU := by
  unfold Lg.lastU
  cases hg : g.items.getLast? with
  | none => simp
  | some x =>
    have hx := List.mem_of_getLast? hg
    obtain ⟨i, hi, rfl⟩ := List.getElem_of_mem hx
    simp only [Lg.okB, Bool.and_eq_true] at hk
    exact (fault_num (itemsOk_drop i hi hk.2).2).2
theorem trim_lastU (g : Lg) (k : Nat) (hk : g.okB = true) : (g.trim k).lastU ≤ g.lastU := by
  have h0 := lastU_nonneg g hk
  by_cases h : k < g.items.length
  · have : (g.trim k).items.getLast? = g.items.getLast? := by
      show (g.items.drop k).getLast? = _
      rw [List.getLast?_drop]; simp; omega
    unfold Lg.lastU at *
    rw [this]; omega
  · have : (g.trim k).items = [] := List.drop_of_length_le (by omega)
    have e : (g.trim k).lastU = 0 := by unfold Lg.lastU; rw [this]; rfl
    omega
theorem okB_more (g : Lg) (ms : List Itm) (hk : g.okB = true) (hlen : g.items.length + ms.length ≤ 200) (hlast : g.last + ms.length ≤ 1048576) (hok : itemsOk (g.termAt g.last) g.lastU ms = true) : Lg.okB ⟨g.base, g.term, g.items ++ ms⟩ = true := by
  have hL : g.last = g.base + g.items.length := rfl
  have hU := lastU_nonneg g hk
  simp only [Lg.okB, Bool.and_eq_true, decide_eq_true_eq] at hk ⊢
  refine ⟨⟨⟨hk.1.1.1, by simpa using hlen⟩, ?_⟩, itemsOk_append hk.2 (fun h => ?_) (fun h => ?_)⟩
  · show g.base + ((g.items ++ ms).length : Int) ≤ 1048576
    simp only [List.length_append] at hlast ⊢
    omega
  · have e : g.termAt g.last = g.term := by rw [hL, h]; simp [Lg.termAt]
    rw [e] at hok
    exact itemsOk_less hok (Int.le_refl _) hU
  · have e1 : g.lastU = (g.items.getLast h).u := by unfold Lg.lastU; rw [List.getLast?_eq_some_getLast h]; rfl
    have e2 : g.termAt g.last = (g.items.getLast h).t := by
      have hp : 0 < g.items.length := List.length_pos_iff.2 h
      have := termAt_item g (g.items.length - 1) (by omega)
      rw [show g.base + ((g.items.length - 1 : Nat) : Int) + 1 = g.last by omega] at this
      rw [this, List.getLast_eq_getElem]
    rw [e1, e2] at hok
    exact hok
theorem trim_more (g : Lg) (ms : List Itm) (k : Nat) (hk : g.okB = true) (hkl : k ≤ g.items.length) (hlen : g.items.length + ms.length ≤ 200) (hlast : g.last + ms.length ≤ 1048576) (hok : itemsOk (g.termAt g.last) g.lastU ms = true) :
    (g.trim k).matchR g.last (g.termAt g.last) ms = if ms = [] then ⟨⟨g.base + k, g.termAt (g.base + k), g.items.drop k⟩, true, 0, 0⟩ else ⟨⟨g.base + k, g.termAt (g.base + k), g.items.drop k ++ ms⟩, true, g.last + 1, 0⟩ := by
  have h1 := trim_last g k hkl
  have h2 := trim_termAt g k hkl
  have h3 := matchR_more (g.trim k) ms (trim_okB g k hk hkl) (by show (g.items.drop k).length + _ ≤ _; simp; omega) (by rw [h1]; exact hlast) (by rw [h2]; exact itemsOk_less hok (Int.le_refl _) (trim_lastU g k hk))
  rw [h2, h1] at h3
  exact h3
theorem more_termAt (g : Lg) (ms : List Itm) (k : Nat) (hkl : k ≤ g.items.length) : Lg.termAt ⟨g.base, g.term, g.items ++ ms⟩ (g.base + k) = g.termAt (g.base + k) := by
  cases k with
  | zero => rw [Int.natCast_zero, Int.add_zero]; simp [Lg.termAt]
  | succ k =>
    have h1 := termAt_item g k (by omega)
    have h2 := termAt_item ⟨g.base, g.term, g.items ++ ms⟩ k (by simp; omega)
    rw [show g.base + ((k + 1 : Nat) : Int) = g.base + k + 1 by omega, h1]
    refine Eq.trans h2 ?_
    rw [List.getElem_append_left (by omega)]
end Go.Proofs.Ytlmmeapdeojkdaa
