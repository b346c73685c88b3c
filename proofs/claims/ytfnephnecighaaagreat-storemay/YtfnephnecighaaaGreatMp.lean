/- Texts, scores and their order; places in rising lists; what is put in and taken out leaves them rising: plain lists alone. -/
import Derived.Test.YtfnephnecighaaaGreatPg
import Derived.Test.YtfnephnecighaaaGreatMp0
namespace Go.Proofs.YtfnephnecighaaaGreat
open Go.RowKit
set_option linter.unusedVariables false

def posOf {α : Type} (cm : α → Int) (l : List α) : Nat := (l.takeWhile (fun a => decide (cm a < 0))).length
theorem posOf_le {α : Type} (cm : α → Int) : ∀ l : List α, posOf cm l ≤ l.length
  | [] => by simp [posOf]
  | a :: r => by
    have := posOf_le cm r
    unfold posOf at *
    rw [List.takeWhile_cons]
    split <;> simp <;> omega
theorem parts_of {α : Type} {lt : α → α → Bool} (cm : α → Int) (hm : ∀ a b, lt a b = true → cm b < 0 → cm a < 0) : ∀ l : List α, l.Pairwise (fun a b => lt a b = true) → Parts cm l (posOf cm l)
  | [], _ => ⟨by simp [posOf], fun a h => by simp at h⟩
  | x :: r, hp => by
    obtain ⟨h1, h2⟩ := List.pairwise_cons.1 hp
    have ih := parts_of cm hm r h2
    by_cases hx : cm x < 0
    · have e : posOf cm (x :: r) = posOf cm r + 1 := by unfold posOf; rw [List.takeWhile_cons]; simp [hx]
      rw [e]
      refine ⟨by have := ih.1; simp; omega, fun a ha => ?_⟩
      cases a with
      | zero => simp [hx]
      | succ a => simp at ha; have := ih.2 a ha; simp [this]
    · have e : posOf cm (x :: r) = 0 := by unfold posOf; rw [List.takeWhile_cons]; simp [hx]
      rw [e]
      refine ⟨by simp, fun a ha => ?_⟩
      cases a with
      | zero => simp [hx]
      | succ a =>
        simp at ha
        have hb := h1 r[a] (List.getElem_mem ha)
        simp
        by_cases hc : cm r[a] < 0
        · exact absurd (hm _ _ hb hc) hx
        · omega
/-- What stands ahead of the place, and behind it. -/
theorem parts_take {α : Type} {cm : α → Int} {l : List α} {p : Nat} (h : Parts cm l p) : (∀ a ∈ l.take p, cm a < 0) ∧ (∀ a ∈ l.drop p, ¬ cm a < 0) := by
  constructor
  · intro a ha
    obtain ⟨i, hi, rfl⟩ := List.getElem_of_mem ha
    simp at hi
    rw [List.getElem_take]
    exact (h.2 i (by omega)).2 (by omega)
  · intro a ha
    obtain ⟨i, hi, rfl⟩ := List.getElem_of_mem ha
    simp at hi
    rw [List.getElem_drop]
    intro hc
    have := (h.2 (p + i) (by omega)).1 hc
    omega
theorem hit_some {α : Type} {cm : α → Int} {l : List α} {p : Nat} (h : hitB cm l p = true) : ∃ hp : p < l.length, cm l[p] = 0 := by
  unfold hitB at h
  split at h
  · rename_i x hx
    obtain ⟨hp, rfl⟩ := List.getElem?_eq_some_iff.1 hx
    exact ⟨hp, by simpa using h⟩
  · cases h
theorem hit_none {α : Type} {cm : α → Int} {l : List α} {p : Nat} (h : hitB cm l p = false) (hp : p < l.length) : cm l[p] ≠ 0 := by
  unfold hitB at h
  rw [List.getElem?_eq_getElem hp] at h
  simpa using h
/-- Where it was not found, all that stands behind the place is above. -/
theorem parts_above {α : Type} {lt : α → α → Bool} {cm : α → Int} {l : List α} {p : Nat} (hm : ∀ a b, lt a b = true → 0 < cm a → 0 < cm b) (hs : l.Pairwise (fun a b => lt a b = true)) (h : Parts cm l p) (hh : hitB cm l p = false) : ∀ a ∈ l.drop p, 0 < cm a := by
  intro a ha
  have hp : p < l.length := by
    by_cases hp : p < l.length
    · exact hp
    · rw [List.drop_of_length_le (by omega)] at ha; cases ha
  have h0 : 0 < cm l[p] := by
    have h1 := hit_none hh hp
    have h2 := (h.2 p hp)
    have h3 : ¬ cm l[p] < 0 := fun e => by have := h2.1 e; omega
    omega
  rw [List.drop_eq_getElem_cons hp] at ha
  rcases List.mem_cons.1 ha with rfl | ha
  · exact h0
  · have hd := hs.sublist (List.drop_sublist p l)
    rw [List.drop_eq_getElem_cons hp] at hd
    exact hm _ _ ((List.pairwise_cons.1 hd).1 a ha) h0
theorem pair_insert {α : Type} {R : α → α → Prop} {l : List α} {p : Nat} {x : α} (hs : l.Pairwise R) (h1 : ∀ a ∈ l.take p, R a x) (h2 : ∀ b ∈ l.drop p, R x b) : (l.take p ++ x :: l.drop p).Pairwise R := by
  have hs' := hs
  rw [← List.take_append_drop p l, List.pairwise_append] at hs'
  rw [List.pairwise_append]
  refine ⟨hs'.1, List.pairwise_cons.2 ⟨h2, hs'.2.1⟩, fun a ha b hb => ?_⟩
  rcases List.mem_cons.1 hb with rfl | hb
  · exact h1 a ha
  · exact hs'.2.2 a ha b hb
theorem pair_delete {α : Type} {R : α → α → Prop} {l : List α} (p : Nat) (hs : l.Pairwise R) : (l.take p ++ l.drop (p + 1)).Pairwise R := by
  refine hs.sublist ?_
  have : l = l.take p ++ l.drop p := (List.take_append_drop p l).symm
  conv => rhs; rw [this]
  exact List.Sublist.append (List.Sublist.refl _) (by rw [← List.drop_drop]; exact List.drop_sublist 1 _)
theorem mem_insert {α : Type} {l : List α} {p : Nat} {x y : α} (h : y ∈ l.take p ++ x :: l.drop p) : y = x ∨ y ∈ l := by
  rcases List.mem_append.1 h with h | h
  · exact .inr (List.mem_of_mem_take h)
  · rcases List.mem_cons.1 h with h | h
    · exact .inl h
    · exact .inr (List.mem_of_mem_drop h)
theorem mem_delete {α : Type} {l : List α} {p : Nat} {y : α} (h : y ∈ l.take p ++ l.drop (p + 1)) : y ∈ l := by
  rcases List.mem_append.1 h with h | h
  · exact List.mem_of_mem_take h
  · exact List.mem_of_mem_drop h
theorem pair_set {α β : Type} {R : β → β → Prop} (f : α → β) {l : List α} {p : Nat} {x : α} (hs : (l.map f).Pairwise R) (hp : p < l.length) (hx : f x = f l[p]) : ((l.set p x).map f).Pairwise R := by
  have : (l.set p x).map f = l.map f := by
    apply List.ext_getElem (by simp)
    intro i h1 h2
    simp only [List.getElem_map, List.getElem_set]
    split
    · rename_i e; subst e; exact hx
    · rfl
  rw [this]; exact hs
end Go.Proofs.YtfnephnecighaaaGreat
