/- Items that all stand behind a log's last one; times that are put off, in a row's own memory. -/
import Derived.Test.YtpbgadojocgefaaMa
import Derived.Test.YtpbgadojocgefaaHe
import Derived.Test.YtpbgadojocgefaaHf
namespace Go.Proofs.Ytpbgadojocgefaa
open Go.RowKit
set_option linter.unusedVariables false

/-- An item at another time. -/
abbrev Itm.at (x : Itm) (v : Int) : Itm := { x with u := v }
theorem flat_set : ∀ (A : List Itm) (i : Nat) (hi : i < A.length) (v : Int), (A.flatMap encIt).set (i * 10 + 1) (.int .i64 v) = (A.set i (A[i].at v)).flatMap encIt
  | [], i, hi, _ => absurd hi (Nat.not_lt_zero i)
  | x :: r, 0, _, v => by rw [List.flatMap_cons]; rfl
  | x :: r, i + 1, hi, v => by
    rw [List.flatMap_cons, List.set_append_right _ _ (by rw [lenIt]; omega), lenIt, show (i + 1) * 10 + 1 - 10 = i * 10 + 1 by omega, flat_set r i (by simpa using hi) v]
    rfl
theorem OwnI.setU {B : Nat} {w : World} {A : List Itm} {g cap : Nat} (h : OwnI B w (.slice (some ⟨g, 0, none⟩) A.length cap) A) (i : Nat) (hi : i < A.length) (v : Int) :
    OwnI B (w.setCell ⟨g, i * 10 + 1, none⟩ (.int .i64 v)) (.slice (some ⟨g, 0, none⟩) A.length cap) (A.set i (A[i].at v)) := by
  obtain ⟨h0, h1⟩ := h
  rcases h1 with ⟨he, -⟩ | ⟨g', cap', cur, he, h2, h3, h4, h5, h6, h7⟩
  · simp at he
  · simp only [Value.slice.injEq, Option.some.injEq, Addr.mk.injEq, and_true, true_and] at he
    obtain ⟨rfl, rfl⟩ := he
    refine ⟨by rw [flatIt_length], .inr ⟨g, cap, cur.setIfInBounds (i * 10 + 1) (.int .i64 v), by simp, h2, setCell_at _ h3, by simpa using h4, h5, by simpa using h6, ?_⟩⟩
    rw [List.length_set, Array.toList_setIfInBounds, List.take_set, h7]
    exact flat_set A i hi v

theorem itemsOk_append {A B : List Itm} : ∀ {t u : Int}, itemsOk t u A = true → (∀ h : A = [], itemsOk t u B = true) → (∀ h : A ≠ [], itemsOk (A.getLast h).t (A.getLast h).u B = true) → itemsOk t u (A ++ B) = true := by
  induction A with
  | nil => intro t u _ h1 _; exact h1 rfl
  | cons x r ih =>
    intro t u h _ h2
    simp only [itemsOk, Bool.and_eq_true, decide_eq_true_eq, List.cons_append] at h ⊢
    refine ⟨h.1, ih h.2 (fun hr => ?_) (fun hr => ?_)⟩
    · subst hr
      simpa using h2 (by simp)
    · have := h2 (by simp)
      rwa [List.getLast_cons hr] at this

/-- The time of a log's last item; 0 where there is none. -/
def Lg.lastU (g : Lg) : Int := ((g.items.getLast?).map Itm.u).getD 0
theorem matchR_more (g : Lg) (ms : List Itm) (hk : g.okB = true) (hlen : g.items.length + ms.length ≤ 200) (hlast : g.last + ms.length ≤ 1048576) (hok : itemsOk (g.termAt g.last) g.lastU ms = true) :
    g.matchR g.last (g.termAt g.last) ms = if ms = [] then ⟨g, true, 0, 0⟩ else ⟨⟨g.base, g.term, g.items ++ ms⟩, true, g.last + 1, 0⟩ := by
  have hle := okB_le hk
  have hL : g.last = g.base + g.items.length := rfl
  have htr := trim_okB g g.items.length hk (Nat.le_refl _)
  have hU : 0 ≤ g.lastU := by
    unfold Lg.lastU
    cases hg : g.items.getLast? with
    | none => simp
    | some x =>
      have hx := List.mem_of_getLast? hg
      obtain ⟨i, hi, rfl⟩ := List.getElem_of_mem hx
      simp only [Lg.okB, Bool.and_eq_true] at hk
      exact (fault_num (itemsOk_drop i hi hk.2).2).2
  have h2 : Lg.okB ⟨g.last, g.termAt g.last, ms⟩ = true := by
    unfold Lg.trim at htr
    simp only [Lg.okB, Lg.last, Bool.and_eq_true, decide_eq_true_eq] at htr ⊢
    refine ⟨⟨⟨htr.1.1.1, by omega⟩, decide_eq_true (by show g.base + (g.items.length : Int) + (ms.length : Int) ≤ 1048576; rw [hL] at hlast; omega)⟩, itemsOk_less hok (Int.le_refl _) hU⟩
  unfold Lg.matchR
  rw [if_pos hk, if_pos h2, if_pos (fitB_at g _ (by omega) (by omega))]
  cases ms with
  | nil => simp [Lg.freshAt]
  | cons x r =>
    have hf : g.freshAt g.last (x :: r) = g.last + 1 := by unfold Lg.freshAt; rw [if_pos (.inl (by omega))]
    have hl : g.laidAt g.last (x :: r) = ⟨g.base, g.term, g.items ++ (x :: r)⟩ := by
      unfold Lg.laidAt
      rw [hf, show (g.last + 1 - g.base - 1).toNat = g.items.length by omega, show (g.last + 1 - g.last - 1).toNat = 0 by omega, List.take_length, List.drop_zero]
    have h3 : Lg.okB ⟨g.base, g.term, g.items ++ (x :: r)⟩ = true := by
      simp only [Lg.okB, Bool.and_eq_true, decide_eq_true_eq] at hk ⊢
      refine ⟨⟨⟨hk.1.1.1, by simpa using hlen⟩, ?_⟩, itemsOk_append hk.2 (fun h => ?_) (fun h => ?_)⟩
      · show g.base + ((g.items ++ (x :: r)).length : Int) ≤ 1048576
        simp only [List.length_append] at hlast ⊢
        omega
      · have e : g.termAt g.last = g.term := by rw [hL, h]; simp [Lg.termAt]
        rw [e] at hok
        exact itemsOk_less hok (Int.le_refl _) hU
      · have e1 : g.lastU = (g.items.getLast h).u := by unfold Lg.lastU; rw [List.getLast?_eq_some_getLast h]; rfl
        have e2 : g.termAt g.last = (g.items.getLast h).t := by
          have hp : 0 < g.items.length := List.length_pos_iff.2 h
          have := termAt_item g (g.items.length - 1) (by omega)
          rw [show g.base + ((g.items.length - 1 : Nat) : Int) + 1 = g.last by omega] at this
          rw [this, List.getLast_eq_getElem]
        rw [e1, e2] at hok
        exact hok
    rw [hf, hl, if_neg (by omega), if_pos h3, if_neg (by simp)]

/-- Items put off by a time. -/
def offBy (d : Int) (l : List Itm) : List Itm := l.map (fun x => x.at (x.u + d))
theorem itemsOk_off (d : Int) (hd : 0 ≤ d) : ∀ (l : List Itm) (t u : Int), itemsOk t u l = true → (∀ x ∈ l, x.u + d ≤ 1073741824) → itemsOk t (u + d) (offBy d l) = true
  | [], _, _, _, _ => rfl
  | x :: r, t, u, h, hb => by
    simp only [itemsOk, Bool.and_eq_true, decide_eq_true_eq] at h
    have hn := fault_num h.1.1.1
    have hx := hb x (by simp)
    have hf : (x.at (x.u + d)).fault = 0 := fault_other (t := x.t) h.1.1.1 hn.1 (by simp [timeB]; omega)
    have ih := itemsOk_off d hd r x.t x.u h.2 (fun y hy => hb y (by simp [hy]))
    show itemsOk t (u + d) (x.at (x.u + d) :: offBy d r) = true
    simp only [itemsOk, Bool.and_eq_true, decide_eq_true_eq]
    exact ⟨⟨⟨hf, h.1.1.2⟩, by omega⟩, ih⟩
theorem lastU_small (l : List Deed) (base : Int) : 0 ≤ (logFor l base).lastU ∧ (logFor l base).lastU ≤ 60 := by
  have hk := logFor_ok l base
  unfold Lg.lastU
  cases hg : (logFor l base).items.getLast? with
  | none => simp
  | some x =>
    have hx := List.mem_of_getLast? hg
    obtain ⟨i, hi, rfl⟩ := List.getElem_of_mem hx
    simp only [Lg.okB, Bool.and_eq_true] at hk
    have h1 := (fault_num (itemsOk_drop i hi hk.2).2).2
    refine ⟨h1, ?_⟩
    have hl : (l.take 30).length ≤ 30 := by simp; omega
    revert hi
    unfold logFor
    split
    · intro hi _ _ _
      have := (itemsFor_t (l.take 30) 1 0 i hi).2
      simp only [Option.map_some, Option.getD_some]; omega
    · intro hi _ _ _
      have := (itemsFor_t (l.take 30) 2 0 i hi).2
      simp only [Option.map_some, Option.getD_some]; omega
end Go.Proofs.Ytpbgadojocgefaa
