/- Sets and hashes: what a command does to the list, by whether its text or field is there. -/
import Derived.Test.YtgpdnhammdgndaaGreatMx
namespace Go.Proofs.YtgpdnhammdgndaaGreat
open Go.RowKit
set_option linter.unusedVariables false
set_option maxRecDepth 100000

theorem hit_text {L : List ByteArray} (hs : L.Pairwise (fun a b => ltS a b = true)) (t : ByteArray) : hitB (cmT t) L (posOf (cmT t) L) = true ↔ t ∈ L := by
  constructor
  · intro h
    obtain ⟨hp, he⟩ := hit_some h
    have := (cmpS_eq _ _).1 he
    rw [← this]; exact List.getElem_mem hp
  · intro h
    cases hh : hitB (cmT t) L (posOf (cmT t) L) with
    | true => rfl
    | false =>
      exfalso
      have hp := parts_txt t L hs
      have h0 : cmT t t = 0 := (cmpS_eq t t).2 rfl
      have hsp : L = L.take (posOf (cmT t) L) ++ L.drop (posOf (cmT t) L) := (List.take_append_drop _ _).symm
      rw [hsp] at h
      rcases List.mem_append.1 h with h | h
      · have := (parts_take hp).1 t h; omega
      · have := parts_above (lt := ltS) (cm := cmT t) (fun a b hab ha => by rw [cmT, cmpS_gt] at ha ⊢; exact ltS_trans ha hab) hs hp hh t h
        omega
theorem nodup_of {L : List ByteArray} (hs : L.Pairwise (fun a b => ltS a b = true)) : L.Nodup := hs.imp (fun {a b} h e => by rw [e, ltS_irrefl] at h; cases h)
theorem mem_cutAt_iff {L : List ByteArray} (hd : L.Nodup) {p : Nat} (hp : p < L.length) (u : ByteArray) : u ∈ cutAt L p ↔ u ≠ L[p] ∧ u ∈ L := by
  have hsp : L = L.take p ++ L[p] :: L.drop (p + 1) := by rw [← List.drop_eq_getElem_cons hp, List.take_append_drop]
  have hc : cutAt L p = L.take p ++ L.drop (p + 1) := rfl
  generalize L[p] = q at *
  generalize L.take p = A at *
  generalize L.drop (p + 1) = B at *
  subst hsp
  rw [hc]
  rw [List.nodup_append] at hd
  obtain ⟨-, h2, h3⟩ := hd
  rw [List.nodup_cons] at h2
  simp only [List.mem_append, List.mem_cons]
  constructor
  · rintro (h | h)
    · exact ⟨fun e => h3 u h q (by simp) e, .inl h⟩
    · exact ⟨fun e => h2.1 (e ▸ h), .inr (.inr h)⟩
  · rintro ⟨hne, h | h | h⟩
    · exact .inl h
    · exact absurd h hne
    · exact .inr h

/-- What a command does to a set. -/
theorem sstep {L : List ByteArray} (h : SetL L) {c : Cmd} (hc : c.fault = 0) (hk : 11 ≤ c.k ∧ c.k ≤ 13) (h19 : L.length < 20) : refusalI (keptV (setX L)) c = 0 ∧
    ((c.k = 11 ∧ c.txt ∈ L ∧ doV (keptV (setX L)) c = keptV (setX L) ∧ doR (keptV (setX L)) c = {}) ∨
     (c.k = 11 ∧ c.txt ∉ L ∧ ∃ L', doV (keptV (setX L)) c = keptV (setX L') ∧ doR (keptV (setX L)) c = { n := 1 } ∧ SetL L' ∧ (∀ u, u ∈ L' ↔ u = c.txt ∨ u ∈ L) ∧ L'.length = L.length + 1) ∨
     (c.k ≠ 11 ∧ L = [] ∧ doV (keptV (setX L)) c = keptV (setX L) ∧ doR (keptV (setX L)) c = { code := 5 }) ∨
     (c.k = 12 ∧ c.txt ∈ L ∧ ∃ L', doV (keptV (setX L)) c = keptV (setX L') ∧ doR (keptV (setX L)) c = { n := 1 } ∧ SetL L' ∧ (∀ u, u ∈ L' ↔ u ≠ c.txt ∧ u ∈ L) ∧ L'.length + 1 = L.length) ∨
     (c.k = 12 ∧ L ≠ [] ∧ c.txt ∉ L ∧ doV (keptV (setX L)) c = keptV (setX L) ∧ doR (keptV (setX L)) c = {}) ∨
     (c.k = 13 ∧ c.txt ∈ L ∧ doV (keptV (setX L)) c = keptV (setX L) ∧ doR (keptV (setX L)) c = { n := 1 }) ∨
     (c.k = 13 ∧ L ≠ [] ∧ c.txt ∉ L ∧ doV (keptV (setX L)) c = keptV (setX L) ∧ doR (keptV (setX L)) c = {})) := by
  have hr := (kept_set h).ref hc (by simp [ofStoreB]; omega)
  refine ⟨hr, ?_⟩
  obtain ⟨ht, -⟩ := cmd_parts hc
  have hhit := hit_text h.2.2 c.txt
  by_cases h11 : c.k = 11
  · cases hh : hitB (cmT c.txt) L (posOf (cmT c.txt) L) with
    | true =>
      left
      have ha : answerV (keptV (setX L)) c = (setX L, {}) := by
        rw [ans_set h (.inl h11)]; unfold setV; rw [if_pos hh, if_pos h11]
      obtain ⟨e1, e2⟩ := doV_of hr ha
      exact ⟨h11, hhit.1 hh, by rw [e1]; simp, by rw [e2]; simp⟩
    | false =>
      right; left
      have ha : answerV (keptV (setX L)) c = (setX (layAt L (posOf (cmT c.txt) L) c.txt), { n := 1 }) := by
        rw [ans_set h (.inl h11)]; unfold setV; rw [if_neg (by rw [hh]; simp), if_pos h11, size_set, if_neg (by omega)]
      obtain ⟨e1, e2⟩ := doV_of hr ha
      exact ⟨h11, (fun hm => by rw [hhit.2 hm] at hh; cases hh), layAt L (posOf (cmT c.txt) L) c.txt, by rw [e1]; simp, by rw [e2]; simp, set_lay h h19 hh ht, fun u => mem_layAt, length_layAt _ _ _⟩
  · by_cases hn : L = []
    · right; right; left
      subst hn
      have ha : answerV (keptV (setX [])) c = (emptyVal 0, { code := 5 }) := by
        rw [kept_nilS]; unfold answerV
        rw [none_empty, if_pos rfl, if_neg (by simp [makesB]; omega)]
      obtain ⟨e1, e2⟩ := doV_of hr ha
      exact ⟨h11, rfl, by rw [e1]; simp, by rw [e2]; simp⟩
    · have hp : 1 ≤ L.length := List.length_pos_iff.2 hn
      right; right; right
      cases hh : hitB (cmT c.txt) L (posOf (cmT c.txt) L) with
      | true =>
        have hmem := hhit.1 hh
        obtain ⟨hpl, he⟩ := hit_some hh
        have heq := (cmpS_eq _ _).1 he
        by_cases h12 : c.k = 12
        · left
          have ha : answerV (keptV (setX L)) c = (setX (cutAt L (posOf (cmT c.txt) L)), { n := 1 }) := by
            rw [ans_set h (.inr ⟨hp, .inl h12⟩)]; unfold setV; rw [if_pos hh, if_neg h11, if_pos h12]
          obtain ⟨e1, e2⟩ := doV_of hr ha
          refine ⟨h12, hmem, cutAt L (posOf (cmT c.txt) L), by rw [e1]; simp, by rw [e2]; simp, set_cut h _, fun u => ?_, by rw [length_cutAt hpl]; omega⟩
          rw [mem_cutAt_iff (nodup_of h.2.2) hpl, heq]
        · right; right; left
          have ha : answerV (keptV (setX L)) c = (setX L, { n := 1 }) := by
            rw [ans_set h (.inr ⟨hp, .inr (by omega)⟩)]; unfold setV; rw [if_pos hh, if_neg h11, if_neg h12]
          obtain ⟨e1, e2⟩ := doV_of hr ha
          exact ⟨by omega, hmem, by rw [e1]; simp, by rw [e2]; simp⟩
      | false =>
        have hmem : c.txt ∉ L := fun hm => by rw [hhit.2 hm] at hh; cases hh
        have ha : answerV (keptV (setX L)) c = (setX L, {}) := by
          rw [ans_set h (.inr ⟨hp, by omega⟩)]; unfold setV; rw [if_neg (by rw [hh]; simp), if_neg h11]
        obtain ⟨e1, e2⟩ := doV_of hr ha
        by_cases h12 : c.k = 12
        · right; left
          exact ⟨h12, hn, hmem, by rw [e1]; simp, by rw [e2]; simp⟩
        · right; right; right
          exact ⟨by omega, hn, hmem, by rw [e1]; simp, by rw [e2]; simp⟩

/-- The texts that the law's commands bear: nine letters and none: a set of them never is full. -/
def letters : List ByteArray := [⟨#[]⟩, ⟨#[97]⟩, ⟨#[98]⟩, ⟨#[99]⟩, ⟨#[100]⟩, ⟨#[101]⟩, ⟨#[102]⟩, ⟨#[103]⟩, ⟨#[104]⟩, ⟨#[105]⟩]
theorem len_sub : ∀ (L U : List ByteArray), L.Nodup → (∀ t ∈ L, t ∈ U) → L.length ≤ U.length
  | [], _, _, _ => Nat.zero_le _
  | t :: r, U, hd, hs => by
    obtain ⟨U1, U2, rfl⟩ := List.append_of_mem (hs t (by simp))
    rw [List.nodup_cons] at hd
    have := len_sub r (U1 ++ U2) hd.2 (fun u hu => by
      have h := hs u (by simp [hu])
      simp only [List.mem_append, List.mem_cons] at h ⊢
      rcases h with h | h | h
      · exact .inl h
      · exact absurd (h ▸ hu) hd.1
      · exact .inr h)
    simp only [List.length_append, List.length_cons] at this ⊢
    omega
theorem few {L : List ByteArray} (hd : L.Nodup) (hs : ∀ t ∈ L, t ∈ letters) : L.length ≤ 10 := len_sub L letters hd hs
end Go.Proofs.YtgpdnhammdgndaaGreat
