/- Items that do nothing, below a log's base. -/
import Derived.Test.YteghlkckccdlcaaMa
namespace Go.Proofs.Yteghlkckccdlcaa
open Go.RowKit
set_option linter.unusedVariables false

def nopAt (t u : Int) : Itm := ⟨t, u, true, 0, 0, noCmd⟩
theorem nopAt_fault {t u : Int} (ht : numB t = true) (hu : timeB u = true) : (nopAt t u).fault = 0 := by
  have e : emptyB 0 0 ⟨#[]⟩ ⟨#[]⟩ ⟨#[]⟩ 0 = true := by decide +kernel
  unfold Itm.fault itemFault nopAt
  simp [ht, hu, noCmd, e]
theorem freshAt_below (g : Lg) (y : Itm) (A : List Itm) : ∀ (n : Nat) (p : Int), p + n = g.base → g.freshAt p (List.replicate n y ++ A) = g.freshAt g.base A := by
  intro n
  induction n with
  | zero => intro p h; simp at h; subst h; simp
  | succ n ih =>
    intro p h
    have hL : g.last = g.base + g.items.length := rfl
    rw [List.replicate_succ, List.cons_append]
    show (if g.last < p + 1 ∨ (g.base < p + 1 ∧ g.termAt (p + 1) ≠ y.t) then p + 1 else g.freshAt (p + 1) (List.replicate n y ++ A)) = _
    rw [if_neg (by rintro (hc | ⟨hc, -⟩) <;> omega)]
    exact ih (p + 1) (by omega)
theorem itemsOk_nops (A : List Itm) (h : itemsOk 2 0 A = true) : ∀ (n : Nat) (t u : Int), t ≤ 2 → u ≤ 0 → itemsOk t u (List.replicate n (nopAt 2 0) ++ A) = true := by
  intro n
  induction n with
  | zero => intro t u h1 h2; simpa using itemsOk_less h h1 h2
  | succ n ih =>
    intro t u h1 h2
    have hf : (nopAt 2 0).fault = 0 := nopAt_fault (by decide) (by decide)
    have e1 : (nopAt 2 0).t = 2 := rfl
    have e2 : (nopAt 2 0).u = 0 := rfl
    rw [List.replicate_succ, List.cons_append]
    simp only [itemsOk, hf, e1, e2]
    rw [ih 2 0 (by omega) (by omega)]
    simp [h1, h2]

theorem matchR_below (g : Lg) (k : Nat) (q : Int) (hk : g.okB = true) (ht : g.term = 2) (hkb : (k : Int) < g.base) (hb : g.base ≤ 11) (hl : g.items.length ≤ 30) (hq : q = if k = 0 then 0 else 1) :
    g.matchR k q (List.replicate (g.base.toNat - k) (nopAt 2 0) ++ g.items) = ⟨g, true, 0, 0⟩ := by
  have h2 : Lg.okB ⟨k, q, List.replicate (g.base.toNat - k) (nopAt 2 0) ++ g.items⟩ = true := by
    simp only [Lg.okB, Bool.and_eq_true, decide_eq_true_eq] at hk ⊢
    refine ⟨⟨⟨?_, by simp; omega⟩, by unfold Lg.last; simp; omega⟩, itemsOk_nops _ (by rw [← ht]; exact hk.2) _ _ _ (by rw [hq]; split <;> omega) (by omega)⟩
    unfold baseB
    rw [hq]
    by_cases h0 : k = 0
    · simp [h0]
    · rw [if_neg (by omega), if_neg h0]
      simp [numB]; omega
  have h3 : g.fitB k q = true := by unfold Lg.fitB; rw [if_pos hkb]
  have h4 : g.freshAt k (List.replicate (g.base.toNat - k) (nopAt 2 0) ++ g.items) = 0 := by
    rw [freshAt_below g _ _ _ _ (by omega)]
    have := freshAt_same g g.items.length 0 (by omega)
    simpa using this
  unfold Lg.matchR
  rw [if_pos hk, if_pos h2, if_pos h3, if_pos h4]
theorem logFor_from (l : List Deed) (q : Nat) (hq : q < 11) : (logFor l (1 + (q : Int))).base = 1 + q ∧ (logFor l (1 + (q : Int))).term = 2 := by
  have e : pickedN (1 + (q : Int)) 12 = 1 + q := by
    unfold pickedN
    rw [if_neg (by omega), show (1 + (q : Int)).toNat = 1 + q by omega]
    exact Nat.mod_eq_of_lt (by omega)
  unfold logFor
  rw [e, if_neg (by omega)]
  exact ⟨by simp, rfl⟩
end Go.Proofs.Yteghlkckccdlcaa
