/- What Match comes to at an item of another term than the one at its place; deeds once more. -/
import Derived.Test.YtpbgadojocgefaaMd
namespace Go.Proofs.Ytpbgadojocgefaa
open Go.RowKit
set_option linter.unusedVariables false

theorem itemsOk_last {l : List Itm} : ∀ {t u : Int} (h : l ≠ []), itemsOk t u l = true → ∀ i (hi : i < l.length), l[i].t ≤ (l.getLast h).t := by
  induction l with
  | nil => intro t u h; exact absurd rfl h
  | cons y r ih =>
    intro t u h ho i hi
    simp only [itemsOk, Bool.and_eq_true, decide_eq_true_eq] at ho
    by_cases hr : r = []
    · subst hr
      have : i = 0 := by simp at hi; omega
      subst this; simp
    · rw [List.getLast_cons hr]
      cases i with
      | zero =>
        have hp : 0 < r.length := List.length_pos_iff.2 hr
        have h1 := ih hr ho.2 0 hp
        obtain ⟨z, q, rfl⟩ : ∃ z q, r = z :: q := by cases r with | nil => exact absurd rfl hr | cons z q => exact ⟨z, q, rfl⟩
        have h2 := ho.2
        simp only [itemsOk, Bool.and_eq_true, decide_eq_true_eq] at h2
        simp only [List.getElem_cons_zero] at h1 ⊢
        omega
      | succ i => exact ih hr ho.2 i (by simpa using hi)
/-- An item of another term. -/
abbrev Itm.of (x : Itm) (v : Int) : Itm := { x with t := v }
theorem itemsOk_cut {l : List Itm} : ∀ {t u : Int} (k : Nat) (hk : k < l.length) (v : Int), itemsOk t u l = true → (∀ i (hi : i < l.length), l[i].t ≤ v) → t ≤ v → v ≤ 1048576 → itemsOk t u (l.take k ++ [l[k].of v]) = true := by
  induction l with
  | nil => intro t u k hk; simp at hk
  | cons y r ih =>
    intro t u k hk v ho hb ht hv
    simp only [itemsOk, Bool.and_eq_true, decide_eq_true_eq] at ho
    cases k with
    | zero =>
      have h0 := hb 0 (by simp)
      simp only [List.getElem_cons_zero] at h0
      have hn := fault_num ho.1.1.1
      have hy : timeB y.u = true := by
        have := ho.1.1.1
        unfold Itm.fault itemFault at this
        split at this
        · rename_i e; simp only [Bool.and_eq_true] at e; exact e.2
        · omega
      have hf : (y.of v).fault = 0 := fault_other (u := y.u) ho.1.1.1 (by simp [numB] at hn ⊢; omega) hy
      simp only [List.take_zero, List.nil_append, List.getElem_cons_zero, itemsOk, Bool.and_eq_true, decide_eq_true_eq, and_true]
      exact ⟨⟨hf, ht⟩, ho.1.2⟩
    | succ k =>
      have h0 := hb 0 (by simp)
      simp only [List.getElem_cons_zero] at h0
      simp only [List.take_succ_cons, List.cons_append, List.getElem_cons_succ, itemsOk, Bool.and_eq_true, decide_eq_true_eq]
      exact ⟨ho.1, ih k (by simpa using hk) v ho.2 (fun i hi => by have := hb (i + 1) (by simpa using hi); simpa using this) h0 hv⟩

theorem matchR_cut (g : Lg) (k : Nat) (v : Int) (hk : g.okB = true) (hkl : k < g.items.length) (hv : ∀ i (hi : i < g.items.length), g.items[i].t < v) (ht : g.term ≤ v) (h1 : v ≤ 1048576) :
    g.matchR (g.base + k) (g.termAt (g.base + k)) [g.items[k].of v] = ⟨⟨g.base, g.term, g.items.take k ++ [g.items[k].of v]⟩, true, g.base + k + 1, 0⟩ ∧ Lg.okB ⟨g.base, g.term, g.items.take k ++ [g.items[k].of v]⟩ = true ∧ (⟨g.base, g.term, g.items.take k ++ [g.items[k].of v]⟩ : Lg).termAt (g.base + k) = g.termAt (g.base + k) := by
  have hle := okB_le hk
  have hL : g.last = g.base + g.items.length := rfl
  have hio : itemsOk g.term 0 g.items = true := by simp only [Lg.okB, Bool.and_eq_true] at hk; exact hk.2
  have hcut := itemsOk_cut k hkl v hio (fun i hi => Int.le_of_lt (hv i hi)) ht h1
  have hlen : (g.items.take k ++ [g.items[k].of v]).length = k + 1 := by simp; omega
  have h3 : Lg.okB ⟨g.base, g.term, g.items.take k ++ [g.items[k].of v]⟩ = true := by
    simp only [Lg.okB, Bool.and_eq_true, decide_eq_true_eq] at hk ⊢
    refine ⟨⟨⟨hk.1.1.1, by omega⟩, ?_⟩, hcut⟩
    show g.base + ((g.items.take k ++ [g.items[k].of v]).length : Int) ≤ 1048576
    omega
  have hsame : (⟨g.base, g.term, g.items.take k ++ [g.items[k].of v]⟩ : Lg).termAt (g.base + k) = g.termAt (g.base + k) := by
    unfold Lg.termAt
    cases k with
    | zero => simp
    | succ k =>
      have e : (g.base + ((k + 1 : Nat) : Int) - g.base - 1).toNat = k := by omega
      rw [if_neg (by simp only; omega), if_neg (by omega)]
      simp only
      rw [e, List.getElem?_append_left (by simp; omega), List.getElem?_take, if_pos (by omega)]
  have h2 : Lg.okB ⟨g.base + k, g.termAt (g.base + k), [g.items[k].of v]⟩ = true := by
    have := trim_okB ⟨g.base, g.term, g.items.take k ++ [g.items[k].of v]⟩ k h3 (by rw [hlen]; omega)
    unfold Lg.trim at this
    rw [hsame] at this
    simp only at this
    rwa [List.drop_append_of_le_length (by simp; omega), List.drop_of_length_le (by simp; omega), List.nil_append] at this
  refine ⟨?_, h3, hsame⟩
  have hf : g.freshAt (g.base + k) [g.items[k].of v] = g.base + k + 1 := by
    unfold Lg.freshAt
    have h5 := hv k hkl
    have h6 : g.termAt (g.base + k + 1) ≠ v := by rw [termAt_item g k hkl]; omega
    exact if_pos (.inr ⟨by omega, h6⟩)
  have hl : g.laidAt (g.base + k) [g.items[k].of v] = ⟨g.base, g.term, g.items.take k ++ [g.items[k].of v]⟩ := by
    unfold Lg.laidAt
    rw [hf, show (g.base + (k : Int) + 1 - g.base - 1).toNat = k by omega, show (g.base + (k : Int) + 1 - (g.base + k) - 1).toNat = 0 by omega, List.drop_zero]
  unfold Lg.matchR
  rw [if_pos hk, if_pos h2, if_pos (fitB_at g _ (by omega) (by omega)), hf, hl, if_neg (by omega), if_pos h3]
theorem matchR_again (g : Lg) (k : Nat) (x : Itm) (hkl : k = g.items.length) (ho : Lg.okB ⟨g.base, g.term, g.items ++ [x]⟩ = true) :
    (⟨g.base, g.term, g.items ++ [x]⟩ : Lg).matchR (g.base + k) ((⟨g.base, g.term, g.items ++ [x]⟩ : Lg).termAt (g.base + k)) [x] = ⟨⟨g.base, g.term, g.items ++ [x]⟩, true, 0, 0⟩ := by
  have := matchR_same ⟨g.base, g.term, g.items ++ [x]⟩ k 1 ho (by simp; omega)
  simp only at this
  rwa [hkl, List.drop_append_of_le_length (Nat.le_refl _), List.drop_of_length_le (Nat.le_refl _), List.nil_append, List.take_of_length_le (by simp), ← hkl] at this

theorem termR_atN (g : Lg) (k : Nat) (hk : g.okB = true) (h : k ≤ g.items.length) : g.termR (g.base + k) = (g.termAt (g.base + k), 0) := by
  have hle := okB_le hk
  have hL : g.last = g.base + g.items.length := rfl
  have : placeI g.base g.last (g.base + k) = 0 := by unfold placeI heldI; rw [if_neg (by omega), if_neg (by omega), if_neg (by omega)]
  simp [Lg.termR, hk, this]
theorem itemsOk_first {l : List Itm} {t u : Int} (h : itemsOk t u l = true) (hp : 0 < l.length) : t ≤ (l[0]'hp).t := by
  cases l with
  | nil => simp at hp
  | cons y r =>
    simp only [itemsOk, Bool.and_eq_true, decide_eq_true_eq] at h
    simp only [List.getElem_cons_zero]; omega
theorem last_least (g : Lg) (hk : g.okB = true) (hp : 0 < g.items.length) : (∀ i (hi : i < g.items.length), g.items[i].t ≤ (g.items[g.items.length - 1]'(by omega)).t) ∧ g.term ≤ (g.items[g.items.length - 1]'(by omega)).t := by
  have hio : itemsOk g.term 0 g.items = true := by simp only [Lg.okB, Bool.and_eq_true] at hk; exact hk.2
  have hne : g.items ≠ [] := List.length_pos_iff.1 hp
  have h := itemsOk_last hne hio
  rw [List.getLast_eq_getElem] at h
  refine ⟨h, ?_⟩
  have h0 := h 0 hp
  have := itemsOk_first hio hp
  omega
theorem itm_row (x : Itm) (w : World) : RowI (w.alloc (itemO x.t x.u x.p x.cl x.seq x.c.k x.c.key x.c.fld x.c.txt x.c.n)) (.slice (some ⟨w.heap.size, 0, none⟩) 1 1) [x] := by
  refine ⟨by simp, _, 1, rfl, by simp, by omega, .inr ⟨w.heap.size, 0, rfl, by simp, fun i hi c hc => ?_⟩⟩
  have h0 : i = 0 := by simp at hi; omega
  subst h0
  have := (cellsB (alloc_at w (itemO x.t x.u x.p x.cl x.seq x.c.k x.c.key x.c.fld x.c.txt x.c.n))).1 c
  rw [show 0 + 0 * 10 + c = c by omega, this]
  simp [encIt]

/- Deeds. -/
def nilD : Deed := ⟨0, 0, 0, 0, 0, 0, 0, ⟨#[]⟩⟩
theorem lenD (d : Deed) : (encD d).length = 8 := rfl
theorem oneD (d : Deed) : ∀ u ∈ encD d, u.oneCell' = true := by intro u hu; simp [encD] at hu; rcases hu with rfl | rfl | rfl | rfl | rfl | rfl | rfl | rfl <;> rfl
theorem nilD_wf : nilD.wf := by simp [Deed.wf, in64, nilD]; decide +kernel
end Go.Proofs.Ytpbgadojocgefaa
