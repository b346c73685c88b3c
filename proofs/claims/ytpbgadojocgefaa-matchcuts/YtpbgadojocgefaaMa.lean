/- What Match comes to: items that the log has, none, some that are no log. -/
import Derived.Test.YtpbgadojocgefaaIe
import Derived.Test.YtpbgadojocgefaaHj
import Derived.Test.YtpbgadojocgefaaHc
namespace Go.Proofs.Ytpbgadojocgefaa
open Go.RowKit
set_option linter.unusedVariables false

theorem itemsOk_take {l : List Itm} : ∀ {t u : Int} (n : Nat), itemsOk t u l = true → itemsOk t u (l.take n) = true := by
  induction l with
  | nil => intros; simp [itemsOk]
  | cons y r ih =>
    intro t u n h
    cases n with
    | zero => rfl
    | succ n =>
      simp only [itemsOk, Bool.and_eq_true, decide_eq_true_eq, List.take_succ_cons] at h ⊢
      exact ⟨h.1, ih n h.2⟩
theorem okB_take {b t : Int} {l : List Itm} (n : Nat) (h : Lg.okB ⟨b, t, l⟩ = true) : Lg.okB ⟨b, t, l.take n⟩ = true := by
  simp only [Lg.okB, Lg.last, Bool.and_eq_true, decide_eq_true_eq] at h ⊢
  obtain ⟨⟨⟨h1, h2⟩, h3⟩, h4⟩ := h
  have h3' : b + (l.length : Int) ≤ 1048576 := of_decide_eq_true h3
  refine ⟨⟨⟨h1, by simp; omega⟩, decide_eq_true (by show b + ((l.take n).length : Int) ≤ 1048576; simp; omega)⟩, itemsOk_take n h4⟩

theorem freshAt_same (g : Lg) : ∀ (n k : Nat), k ≤ g.items.length → g.freshAt (g.base + k) ((g.items.drop k).take n) = 0 := by
  intro n
  induction n with
  | zero => intro k hk; simp [Lg.freshAt]
  | succ n ih =>
    intro k hk
    by_cases h : k < g.items.length
    · rw [List.drop_eq_getElem_cons h, List.take_succ_cons]
      unfold Lg.freshAt
      have hL : g.last = g.base + g.items.length := rfl
      rw [if_neg, show g.base + (k : Int) + 1 = g.base + ((k + 1 : Nat) : Int) by omega]
      · exact ih (k + 1) h
      · rintro (hc | ⟨-, hc⟩)
        · omega
        · exact hc (termAt_item g k h)
    · rw [List.drop_of_length_le (by omega)]; simp [Lg.freshAt]

theorem fitB_at (g : Lg) (p : Int) (h0 : g.base ≤ p) (h1 : p ≤ g.last) : g.fitB p (g.termAt p) = true := by
  unfold Lg.fitB
  rw [if_neg (by omega), if_neg (by omega)]
  simp

theorem matchR_same (g : Lg) (k n : Nat) (hk : g.okB = true) (hkl : k ≤ g.items.length) : g.matchR (g.base + k) (g.termAt (g.base + k)) ((g.items.drop k).take n) = ⟨g, true, 0, 0⟩ := by
  have h2 : Lg.okB ⟨g.base + k, g.termAt (g.base + k), (g.items.drop k).take n⟩ = true := okB_take n (trim_okB g k hk hkl)
  have hL : g.last = g.base + g.items.length := rfl
  unfold Lg.matchR
  rw [if_pos hk, if_pos h2, if_pos (fitB_at g _ (by omega) (by omega)), if_pos (freshAt_same g n k hkl)]

theorem matchR_none (g : Lg) (p q : Int) (hk : g.okB = true) (hm : Lg.okB ⟨p, q, []⟩ = true) : g.matchR p q [] = ⟨g, g.fitB p q, 0, 0⟩ := by
  unfold Lg.matchR
  rw [if_pos hk, if_pos hm]
  have : g.freshAt p [] = 0 := rfl
  cases g.fitB p q <;> simp [this]
theorem okB_none {p q : Int} (h : 1 ≤ p ∧ p ≤ 1048576 ∧ 1 ≤ q ∧ q ≤ 1048576) : Lg.okB ⟨p, q, []⟩ = true := by
  have e1 : baseB p q = true := by
    unfold baseB
    rw [if_neg (by omega)]
    simp [numB]; omega
  simp only [Lg.okB, Lg.last, itemsOk, e1, Bool.and_true, Bool.true_and, Bool.and_eq_true]
  exact ⟨by simp, decide_eq_true (by show p + ((0 : Nat) : Int) ≤ 1048576; omega)⟩
theorem matchR_bad (g : Lg) (p q : Int) (x : List Itm) (hk : g.okB = true) (hm : Lg.okB ⟨p, q, x⟩ = false) : g.matchR p q x = ⟨nilLg, false, 0, 10⟩ := by
  unfold Lg.matchR
  rw [if_pos hk, hm]; simp
theorem okB_falls {b t : Int} {y z : Itm} {r : List Itm} (h : z.t < y.t ∨ z.u < y.u) : Lg.okB ⟨b, t, y :: z :: r⟩ = false := by
  have : itemsOk t 0 (y :: z :: r) = false := by
    simp only [itemsOk]
    rcases h with h | h
    · have : decide (y.t ≤ z.t) = false := by simpa using h
      simp [this]
    · have : decide (y.u ≤ z.u) = false := by simpa using h
      simp [this]
  simp [Lg.okB, this]
/-- Terms of a log of raw numbers are small. -/
theorem itemsFor_t (l : List Deed) : ∀ (t u : Int) (i : Nat) (h : i < (itemsFor t u l).length), (itemsFor t u l)[i].t ≤ t + l.length ∧ (itemsFor t u l)[i].u ≤ u + 2 * l.length := by
  induction l with
  | nil => intro t u i h; simp [itemsFor] at h
  | cons d r ih =>
    intro t u i h
    have a := stepT_le d t
    have b := stepU_le d u
    cases i with
    | zero =>
      have e1 : ((itemsFor t u (d :: r))[0]).t = stepT d t := rfl
      have e2 : ((itemsFor t u (d :: r))[0]).u = stepU d u := rfl
      rw [e1, e2]; simp only [List.length_cons]; omega
    | succ i =>
      have := ih (stepT d t) (stepU d u) i (by simpa [itemsFor] using h)
      simp only [itemsFor, List.getElem_cons_succ, List.length_cons]
      omega
theorem logFor_terms (l : List Deed) (base : Int) (p : Int) (h0 : (logFor l base).base ≤ p) (h1 : p ≤ (logFor l base).last) : 0 ≤ (logFor l base).termAt p ∧ (logFor l base).termAt p ≤ 40 := by
  have hk := logFor_ok l base
  have hle := okB_le hk
  have hL : (logFor l base).last = (logFor l base).base + (logFor l base).items.length := rfl
  obtain ⟨k, rfl⟩ : ∃ k : Nat, p = (logFor l base).base + k := ⟨(p - (logFor l base).base).toNat, by omega⟩
  have hkl : k ≤ (logFor l base).items.length := by omega
  have ht := okB_le (trim_okB _ k hk hkl)
  refine ⟨ht.2.2.2.1, ?_⟩
  have hl : (l.take 30).length ≤ 30 := by simp; omega
  cases k with
  | zero =>
    simp only [Int.natCast_zero, Int.add_zero, termAt_base]
    unfold logFor; split <;> simp
  | succ k =>
    rw [show (logFor l base).base + ((k + 1 : Nat) : Int) = (logFor l base).base + (k : Int) + 1 by omega, termAt_item _ k (by omega)]
    revert hkl
    unfold logFor
    split
    · intro hkl
      have := (itemsFor_t (l.take 30) 1 0 k (Nat.lt_of_succ_le hkl)).1
      simp only; omega
    · intro hkl
      have := (itemsFor_t (l.take 30) 2 0 k (Nat.lt_of_succ_le hkl)).1
      simp only; omega
end Go.Proofs.Ytpbgadojocgefaa
