/- A trimmed log may be, and ends where the log ended. -/
import Derived.Test.YtpbgadojocgefaaGb
namespace Go.Proofs.Ytpbgadojocgefaa
open Go.RowKit
set_option linter.unusedVariables false

theorem itemsOk_drop {l : List Itm} : ∀ {t u : Int} (k : Nat) (h : k < l.length), itemsOk t u l = true → itemsOk l[k].t l[k].u (l.drop (k + 1)) = true ∧ l[k].fault = 0 := by
  induction l with
  | nil => intro t u k h; simp at h
  | cons y r ih =>
    intro t u k h ho
    simp only [itemsOk, Bool.and_eq_true, decide_eq_true_eq] at ho
    cases k with
    | zero => simp only [List.getElem_cons_zero, List.drop_succ_cons, List.drop_zero]; exact ⟨ho.2, ho.1.1.1⟩
    | succ k => simpa using ih (t := y.t) (u := y.u) k (by simpa using h) ho.2
theorem itemsOk_less {l : List Itm} {t u t' u' : Int} (h : itemsOk t u l = true) (h1 : t' ≤ t) (h2 : u' ≤ u) : itemsOk t' u' l = true := by
  cases l with
  | nil => rfl
  | cons y r =>
    simp only [itemsOk, Bool.and_eq_true, decide_eq_true_eq] at h ⊢
    exact ⟨⟨⟨h.1.1.1, by omega⟩, by omega⟩, h.2⟩
theorem fault_num {x : Itm} (h : x.fault = 0) : numB x.t = true ∧ 0 ≤ x.u := by
  unfold Itm.fault itemFault at h
  split at h
  · rename_i e; simp [timeB] at e; exact ⟨e.1, by omega⟩
  · omega

/-- What Trim makes of a log. -/
def Lg.trim (g : Lg) (k : Nat) : Lg := ⟨g.base + k, g.termAt (g.base + k), g.items.drop k⟩
theorem termAt_item (g : Lg) (m : Nat) (hm : m < g.items.length) : g.termAt (g.base + m + 1) = g.items[m].t := by
  unfold Lg.termAt
  rw [if_neg (by omega), show (g.base + (m : Int) + 1 - g.base - 1).toNat = m by omega]
  simp [hm]
theorem trim_last (g : Lg) (k : Nat) (hk : k ≤ g.items.length) : (g.trim k).last = g.last := by
  unfold Lg.trim Lg.last
  simp; omega
theorem trim_okB (g : Lg) (k : Nat) (h : g.okB = true) (hk : k ≤ g.items.length) : (g.trim k).okB = true := by
  have hle := okB_le h
  have hl := trim_last g k hk
  have hL : g.last = g.base + g.items.length := rfl
  have hlen : (g.trim k).items.length ≤ 200 := by unfold Lg.trim; simp; omega
  simp only [Lg.okB, Bool.and_eq_true, decide_eq_true_eq] at h ⊢
  refine ⟨⟨⟨?_, hlen⟩, by rw [hl]; exact h.1.2⟩, ?_⟩
  · unfold Lg.trim
    simp only
    cases k with
    | zero => simpa [termAt_base] using h.1.1.1
    | succ k =>
      have hf := (itemsOk_drop k (by omega) h.2).2
      have e := termAt_item g k (by omega)
      rw [show g.base + ((k + 1 : Nat) : Int) = g.base + k + 1 by omega, e]
      unfold baseB
      rw [if_neg (by omega), (fault_num hf).1]
      simp [numB]; omega
  · unfold Lg.trim
    simp only
    cases k with
    | zero => simpa [termAt_base] using h.2
    | succ k =>
      have hf := itemsOk_drop k (by omega) h.2
      have e := termAt_item g k (by omega)
      rw [show g.base + ((k + 1 : Nat) : Int) = g.base + k + 1 by omega, e]
      exact itemsOk_less hf.1 (Int.le_refl _) (fault_num hf.2).2
theorem trim_termAt (g : Lg) (k : Nat) (hk : k ≤ g.items.length) : (g.trim k).termAt (g.trim k).last = g.termAt g.last := by
  rw [trim_last g k hk]
  have hL : g.last = g.base + g.items.length := rfl
  by_cases h : k = g.items.length
  · have e : g.last = (g.trim k).base := by rw [hL, h]; rfl
    have e' : g.base + (k : Int) = g.last := by rw [hL, h]
    rw [show (g.trim k).termAt g.last = (g.trim k).term by rw [e]; exact termAt_base _]
    show g.termAt (g.base + k) = _
    rw [e']
  · obtain ⟨m, hm⟩ : ∃ m, g.items.length = k + m + 1 := ⟨g.items.length - k - 1, by omega⟩
    have hl1 : g.last = g.base + ((k + m : Nat) : Int) + 1 := by omega
    have hl2 : g.last = (g.trim k).base + (m : Int) + 1 := by unfold Lg.trim; simp; omega
    have hm2 : m < (g.trim k).items.length := by unfold Lg.trim; simp; omega
    have e1 : g.termAt g.last = (g.items[k + m]'(by omega)).t := by rw [hl1]; exact termAt_item g (k + m) (by omega)
    have e2 : (g.trim k).termAt g.last = ((g.trim k).items[m]'hm2).t := by rw [hl2]; exact termAt_item (g.trim k) m hm2
    rw [e1, e2]
    show ((g.items.drop k)[m]'(by simp; omega)).t = _
    rw [List.getElem_drop]
end Go.Proofs.Ytpbgadojocgefaa
