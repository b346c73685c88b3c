/- What a hash bears, field by field, and what a command does to it. -/
import Derived.Test.YtgpdnhammdgndaaGreatMxJ
namespace Go.Proofs.YtgpdnhammdgndaaGreat
open Go.RowKit
set_option linter.unusedVariables false
set_option maxRecDepth 100000

/-- The text that the list of pairs bears at field t. -/
def bears (L : List (ByteArray × ByteArray)) (t : ByteArray) : Option ByteArray := (L.find? (fun q => decide (q.1 = t))).map (·.2)
theorem fst_nodup {L : List (ByteArray × ByteArray)} (h : HashL L) : (L.map (·.1)).Nodup := by
  refine (List.pairwise_map.2 h.2.2).imp (R := fun a b => ltS a b = true) (S := (· ≠ ·)) (fun {a b} h e => ?_)
  rw [e, ltS_irrefl] at h; cases h
theorem bears_iff : ∀ {L : List (ByteArray × ByteArray)}, (L.map (·.1)).Nodup → ∀ (t x : ByteArray), bears L t = some x ↔ (t, x) ∈ L
  | [], _, t, x => by simp [bears]
  | (a, b) :: L, hd, t, x => by
    rw [List.map_cons, List.nodup_cons] at hd
    have ih := bears_iff hd.2 t x
    by_cases ha : a = t
    · subst ha
      have hn : ∀ y, (a, y) ∉ L := fun y hy => hd.1 (List.mem_map.2 ⟨_, hy, rfl⟩)
      have e : bears ((a, b) :: L) a = some b := by simp [bears]
      rw [e]
      constructor
      · intro h; cases h; simp
      · intro h
        rcases List.mem_cons.1 h with h | h
        · cases h; rfl
        · exact absurd h (hn x)
    · have e : bears ((a, b) :: L) t = bears L t := by simp [bears, ha]
      rw [e, ih, List.mem_cons]
      constructor
      · exact .inr
      · rintro (h | h)
        · cases h; exact absurd rfl ha
        · exact h
theorem bears_ext {L L' : List (ByteArray × ByteArray)} (h : (L.map (·.1)).Nodup) {u : ByteArray} {o : Option ByteArray} (he : ∀ x, (u, x) ∈ L ↔ o = some x) : bears L u = o := by
  apply Option.ext
  intro x
  rw [bears_iff h u x, he x]
theorem bears_isSome {L : List (ByteArray × ByteArray)} (h : HashL L) (t : ByteArray) : (bears L t).isSome = true ↔ ∃ x, (t, x) ∈ L := by
  rw [Option.isSome_iff_exists]
  exact exists_congr fun x => bears_iff (fst_nodup h) t x
theorem hit_fld {L : List (ByteArray × ByteArray)} (h : HashL L) (t : ByteArray) : hitB (cmF t) L (posOf (cmF t) L) = (bears L t).isSome := by
  cases hh : hitB (cmF t) L (posOf (cmF t) L) with
  | true =>
    obtain ⟨hp, he⟩ := hit_some hh
    have e := (cmpS_eq _ _).1 he
    have hm := List.getElem_mem hp
    generalize L[posOf (cmF t) L] = q at e hm
    subst e
    exact ((bears_isSome h q.1).2 ⟨q.2, hm⟩).symm
  | false =>
    cases hb : (bears L t).isSome with
    | false => rfl
    | true =>
      exfalso
      obtain ⟨x, hx⟩ := (bears_isSome h t).1 hb
      have hp := parts_fld t L h.2.2
      have h0 : cmF t (t, x) = 0 := (cmpS_eq t t).2 rfl
      have hsp : L = L.take (posOf (cmF t) L) ++ L.drop (posOf (cmF t) L) := (List.take_append_drop _ _).symm
      rw [hsp] at hx
      rcases List.mem_append.1 hx with hx | hx
      · have := (parts_take hp).1 _ hx; omega
      · have := parts_above (lt := ltP) (cm := cmF t) (fun a b hab ha => by rw [cmpS_gt] at ha ⊢; exact ltS_trans ha hab) h.2.2 hp hh _ hx
        omega
theorem split_at {α : Type} {L : List α} {p : Nat} (hp : p < L.length) (y : α) : ∃ A B, L = A ++ L[p] :: B ∧ L.set p y = A ++ y :: B ∧ cutAt L p = A ++ B :=
  ⟨L.take p, L.drop (p + 1), by rw [← List.drop_eq_getElem_cons hp, List.take_append_drop], List.set_eq_take_append_cons_drop.trans (by rw [if_pos hp]), rfl⟩
theorem bears_lay {L : List (ByteArray × ByteArray)} {f t : ByteArray} {p : Nat} (h : HashL L) (h' : HashL (layAt L p (f, t))) (hn : (bears L f).isSome = false) (u : ByteArray) : bears (layAt L p (f, t)) u = if u = f then some t else bears L u := by
  refine bears_ext (L' := L) (fst_nodup h') (fun x => ?_)
  rw [mem_layAt]
  by_cases hu : u = f
  · subst hu
    rw [if_pos rfl]
    have : ∀ x, (u, x) ∉ L := fun x hx => by rw [(bears_isSome h u).2 ⟨x, hx⟩] at hn; cases hn
    constructor
    · rintro (h | h)
      · cases h; rfl
      · exact absurd h (this x)
    · intro h; cases h; exact .inl rfl
  · rw [if_neg hu, bears_iff (fst_nodup h)]
    constructor
    · rintro (h | h)
      · cases h; exact absurd rfl hu
      · exact h
    · exact .inr
theorem bears_set {L : List (ByteArray × ByteArray)} {f t : ByteArray} {p : Nat} (hp : p < L.length) (hf : L[p].1 = f) (h : HashL L) (h' : HashL (L.set p (f, t))) (u : ByteArray) : bears (L.set p (f, t)) u = if u = f then some t else bears L u := by
  refine bears_ext (L' := L) (fst_nodup h') (fun x => ?_)
  obtain ⟨A, B, e1, e2, -⟩ := split_at hp (f, t)
  have hd := fst_nodup h
  have hb := bears_iff hd u x
  generalize hq : L[p] = q at *
  rw [e2]
  subst hf
  rw [e1] at hd
  rw [List.map_append, List.map_cons, List.nodup_append] at hd
  obtain ⟨-, h2, h3⟩ := hd
  rw [List.nodup_cons] at h2
  by_cases hu : u = q.1
  · rw [if_pos hu]
    have hA : (u, x) ∉ A := fun hm => h3 u (List.mem_map.2 ⟨_, hm, rfl⟩) q.1 (by simp) hu
    have hB : (u, x) ∉ B := fun hm => h2.1 (List.mem_map.2 ⟨_, hm, hu⟩)
    simp only [List.mem_append, List.mem_cons, hA, hB, false_or, or_false]
    constructor
    · intro h; cases h; rfl
    · intro h; cases h; rw [hu]
  · rw [if_neg hu, hb, e1]
    simp only [List.mem_append, List.mem_cons]
    constructor
    · rintro (h | h | h)
      · exact .inl h
      · cases h; exact absurd rfl hu
      · exact .inr (.inr h)
    · rintro (h | h | h)
      · exact .inl h
      · exact absurd (by rw [← h]) hu
      · exact .inr (.inr h)
theorem bears_cut {L : List (ByteArray × ByteArray)} {f : ByteArray} {p : Nat} (hp : p < L.length) (hf : L[p].1 = f) (h : HashL L) (u : ByteArray) : bears (cutAt L p) u = if u = f then none else bears L u := by
  refine bears_ext (L' := L) (fst_nodup (hash_cut h p)) (fun x => ?_)
  obtain ⟨A, B, e1, -, e2⟩ := split_at hp L[p]
  have hd := fst_nodup h
  have hb := bears_iff hd u x
  generalize hq : L[p] = q at *
  rw [e2]
  subst hf
  rw [e1] at hd
  rw [List.map_append, List.map_cons, List.nodup_append] at hd
  obtain ⟨-, h2, h3⟩ := hd
  rw [List.nodup_cons] at h2
  by_cases hu : u = q.1
  · rw [if_pos hu]
    have hA : (u, x) ∉ A := fun hm => h3 u (List.mem_map.2 ⟨_, hm, rfl⟩) q.1 (by simp) hu
    have hB : (u, x) ∉ B := fun hm => h2.1 (List.mem_map.2 ⟨_, hm, hu⟩)
    simp [hA, hB]
  · rw [if_neg hu, hb, e1]
    simp only [List.mem_append, List.mem_cons]
    constructor
    · rintro (h | h)
      · exact .inl h
      · exact .inr (.inr h)
    · rintro (h | h | h)
      · exact .inl h
      · exact absurd (by rw [← h]) hu
      · exact .inr h

/-- What a command does to a hash. -/
theorem hstep {L : List (ByteArray × ByteArray)} (h : HashL L) {c : Cmd} (hc : c.fault = 0) (hk : 4 ≤ c.k ∧ c.k ≤ 6) (h19 : L.length < 20) : refusalI (keptV (hashX L)) c = 0 ∧
    ((c.k = 4 ∧ ∃ L', doV (keptV (hashX L)) c = keptV (hashX L') ∧ doR (keptV (hashX L)) c = { n := if (bears L c.fld).isSome = true then 0 else 1 } ∧ HashL L' ∧ (∀ u, bears L' u = if u = c.fld then some c.txt else bears L u) ∧ L'.length = if (bears L c.fld).isSome = true then L.length else L.length + 1) ∨
     (c.k ≠ 4 ∧ L = [] ∧ doV (keptV (hashX L)) c = keptV (hashX L) ∧ doR (keptV (hashX L)) c = { code := 5 }) ∨
     (c.k = 5 ∧ L ≠ [] ∧ (bears L c.fld).isSome = true ∧ doV (keptV (hashX L)) c = keptV (hashX L) ∧ doR (keptV (hashX L)) c = { text := (bears L c.fld).getD ⟨#[]⟩ }) ∨
     (c.k = 5 ∧ L ≠ [] ∧ (bears L c.fld).isSome = false ∧ doV (keptV (hashX L)) c = keptV (hashX L) ∧ doR (keptV (hashX L)) c = { code := 5 }) ∨
     (c.k = 6 ∧ (bears L c.fld).isSome = true ∧ ∃ L', doV (keptV (hashX L)) c = keptV (hashX L') ∧ doR (keptV (hashX L)) c = { n := 1 } ∧ HashL L' ∧ (∀ u, bears L' u = if u = c.fld then none else bears L u) ∧ L'.length + 1 = L.length) ∨
     (c.k = 6 ∧ L ≠ [] ∧ (bears L c.fld).isSome = false ∧ doV (keptV (hashX L)) c = keptV (hashX L) ∧ doR (keptV (hashX L)) c = {})) := by
  have hr := (kept_hash h).ref hc (by simp [ofStoreB]; omega)
  refine ⟨hr, ?_⟩
  obtain ⟨ht, hf, -⟩ := cmd_parts hc
  have hf := hf (by have : c.k = 4 ∨ c.k = 5 ∨ c.k = 6 := by omega
                    rcases this with hk | hk | hk <;> simp [hasFieldB, hk])
  have hhit := hit_fld h c.fld
  by_cases h4 : c.k = 4
  · left
    cases hb : (bears L c.fld).isSome with
    | true =>
      rw [hb] at hhit
      obtain ⟨hpl, he⟩ := hit_some hhit
      have heq := (cmpS_eq _ _).1 he
      have ha : answerV (keptV (hashX L)) c = (hashX (L.set (posOf (cmF c.fld) L) (c.fld, c.txt)), {}) := by
        rw [ans_hash h (.inl h4)]; unfold hashV; rw [if_pos hhit, if_pos h4]
      obtain ⟨e1, e2⟩ := doV_of hr ha
      have h' := hash_lay_old h hhit hf ht
      exact ⟨h4, _, by rw [e1]; simp, by rw [e2]; simp, h', bears_set hpl heq h h', by simp⟩
    | false =>
      rw [hb] at hhit
      have ha : answerV (keptV (hashX L)) c = (hashX (layAt L (posOf (cmF c.fld) L) (c.fld, c.txt)), { n := 1 }) := by
        rw [ans_hash h (.inl h4)]; unfold hashV; rw [if_neg (by rw [hhit]; simp), if_pos h4, size_hash, if_neg (by omega)]
      obtain ⟨e1, e2⟩ := doV_of hr ha
      have h' := hash_lay h h19 hhit hf ht
      exact ⟨h4, _, by rw [e1]; simp, by rw [e2]; simp, h', bears_lay h h' hb, by rw [length_layAt]; simp⟩
  · right
    by_cases hn : L = []
    · left
      subst hn
      have ha : answerV (keptV (hashX [])) c = (emptyVal 0, { code := 5 }) := by
        rw [kept_nilH]; unfold answerV
        rw [none_empty, if_pos rfl, if_neg (by simp [makesB]; omega)]
      obtain ⟨e1, e2⟩ := doV_of hr ha
      exact ⟨h4, rfl, by rw [e1]; simp, by rw [e2]; simp⟩
    · right
      have hp : 1 ≤ L.length := List.length_pos_iff.2 hn
      cases hb : (bears L c.fld).isSome with
      | true =>
        rw [hb] at hhit
        obtain ⟨hpl, he⟩ := hit_some hhit
        have heq := (cmpS_eq _ _).1 he
        by_cases h5 : c.k = 5
        · left
          have hbe : bears L c.fld = some L[posOf (cmF c.fld) L].2 := by
            have hm := List.getElem_mem hpl
            generalize L[posOf (cmF c.fld) L] = q at heq hm
            rw [← heq]
            exact (bears_iff (fst_nodup h) _ _).2 hm
          have ha : answerV (keptV (hashX L)) c = (hashX L, { text := (bears L c.fld).getD ⟨#[]⟩ }) := by
            rw [ans_hash h (.inr ⟨hp, .inl h5⟩)]; unfold hashV; rw [if_pos hhit, if_neg h4, if_pos h5, hbe]
            simp only [hashX, List.getElem?_eq_getElem hpl, Option.getD_some]
          obtain ⟨e1, e2⟩ := doV_of hr ha
          exact ⟨h5, hn, rfl, by rw [e1]; simp, by rw [e2]; simp⟩
        · right; right; left
          have ha : answerV (keptV (hashX L)) c = (hashX (cutAt L (posOf (cmF c.fld) L)), { n := 1 }) := by
            rw [ans_hash h (.inr ⟨hp, .inr (by omega)⟩)]; unfold hashV; rw [if_pos hhit, if_neg h4, if_neg h5]
          obtain ⟨e1, e2⟩ := doV_of hr ha
          exact ⟨by omega, rfl, _, by rw [e1]; simp, by rw [e2]; simp, hash_cut h _, bears_cut hpl heq h, by rw [length_cutAt hpl]; omega⟩
      | false =>
        rw [hb] at hhit
        by_cases h5 : c.k = 5
        · right; left
          have ha : answerV (keptV (hashX L)) c = (hashX L, { code := 5 }) := by
            rw [ans_hash h (.inr ⟨hp, .inl h5⟩)]; unfold hashV; rw [if_neg (by rw [hhit]; simp), if_neg h4, if_pos h5]
          obtain ⟨e1, e2⟩ := doV_of hr ha
          exact ⟨h5, hn, rfl, by rw [e1]; simp, by rw [e2]; simp⟩
        · right; right; right
          have ha : answerV (keptV (hashX L)) c = (hashX L, {}) := by
            rw [ans_hash h (.inr ⟨hp, .inr (by omega)⟩)]; unfold hashV; rw [if_neg (by rw [hhit]; simp), if_neg h4, if_neg h5]
          obtain ⟨e1, e2⟩ := doV_of hr ha
          exact ⟨by omega, hn, rfl, by rw [e1]; simp, by rw [e2]; simp⟩
end Go.Proofs.YtgpdnhammdgndaaGreat
