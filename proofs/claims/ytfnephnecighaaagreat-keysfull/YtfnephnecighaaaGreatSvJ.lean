/- What store.Apply comes to, as plain functions; what a store has under a key: plain lists alone. -/
import Derived.Test.YtfnephnecighaaaGreatMtJ
import Derived.Test.YtfnephnecighaaaGreatGnJ
import Derived.Test.YtfnephnecighaaaGreatScJ
namespace Go.Proofs.YtfnephnecighaaaGreat
open Go.RowKit
set_option linter.unusedVariables false

theorem cmd_key {c : Cmd} (h : c.fault = 0) (hk : c.k ≠ 22) : isNameB c.key = true := by
  unfold Cmd.fault cmdFault at h
  by_cases h1 : c.k < 1 ∨ 22 < c.k
  · rw [if_pos h1] at h; omega
  rw [if_neg h1] at h
  cases h2 : foreignB c.k c.key c.fld c.txt c.n with
  | true => rw [h2, if_pos rfl] at h; omega
  | false =>
    rw [h2, if_neg (by simp)] at h
    cases h3 : partsB c.k c.key c.fld c.txt with
    | false => rw [h3, if_pos rfl] at h; omega
    | true =>
      unfold partsB at h3
      simp [hasKeyB, hk] at h3
      exact h3.1.1
theorem doR_none {c : Cmd} (hc : c.fault = 0) (hs : ofStoreB c.k = false) (hm : makesB c.k = false) : (doR (emptyVal 0) c).code = 5 := by
  have hr := (show Well (emptyVal 0) from .inl rfl).ref hc hs
  have ha : answerV (emptyVal 0) c = (emptyVal 0, { code := 5 }) := by
    unfold answerV; rw [if_pos none_empty, hm]; simp
  unfold doR
  rw [if_neg (by omega), ha]
  simp

abbrev kCm (key : ByteArray) : Kv → Int := fun e => cmpS e.key key
abbrev atK (key : ByteArray) (L : List Kv) : Nat := posOf (kCm key) L
abbrev hasK (key : ByteArray) (L : List Kv) : Bool := hitB (kCm key) L (atK key L)
def noKv : Kv := ⟨⟨#[]⟩, emptyVal 0, 0⟩
/-- What a list has under a key; else nothing. -/
def getK (key : ByteArray) (L : List Kv) : Kv := if hasK key L = true then (L[atK key L]?).getD noKv else noKv
def tilK (c : Cmd) (t : Int) : Int := if c.k = 1 then 0 else t
/-- A value laid under a key: the entries, the error. -/
def layK (c : Cmd) (L : List Kv) (y : Val) : List Kv × Int :=
  if y.kind = 0 then (cutAt L (atK c.key L), 0)
  else if hasK c.key L = true then (L.set (atK c.key L) ⟨c.key, y, tilK c (getK c.key L).til⟩, 0)
  else if 12 ≤ L.length then (L, 6) else (layAt L (atK c.key L) ⟨c.key, y, 0⟩, 0)
def changeK (c : Cmd) (L : List Kv) : List Kv × Rep :=
  if (doR (getK c.key L).x c).code ≠ 0 then (L, doR (getK c.key L).x c)
  else if (layK c L (doV (getK c.key L).x c)).2 ≠ 0 then (L, { code := (layK c L (doV (getK c.key L).x c)).2 })
  else ((layK c L (doV (getK c.key L).x c)).1, doR (getK c.key L).x c)
def expireK (now : Int) (c : Cmd) (L : List Kv) : List Kv × Rep :=
  if hasK c.key L = false then (L, { code := 5 }) else if c.n < 1 ∨ 1073741824 - now < c.n then (L, { code := 2 })
  else (L.set (atK c.key L) ⟨c.key, (getK c.key L).x, now + c.n⟩, {})
def ansK (now : Int) (c : Cmd) (L : List Kv) : List Kv × Rep :=
  if c.k = 22 then (L, { list := L.map (·.key) })
  else if c.k = 19 then if hasK c.key L = true then (cutAt L (atK c.key L), { n := 1 }) else (L, {})
  else if c.k = 20 then expireK now c L
  else if c.k = 21 then (L, lifeRep now (hasK c.key L) (getK c.key L).til)
  else changeK c L
/-- A store's entries behind a time. -/
def keptK (now : Int) (L : List Kv) : List Kv := L.filter (fun e => !goneB now e)
def applyS (s : Sto) (t : Int) (c : Cmd) : Sto := if refS s t c ≠ 0 then ⟨0, []⟩ else ⟨max s.now t, (ansK (max s.now t) c (keptK (max s.now t) s.es)).1⟩
def applyR (s : Sto) (t : Int) (c : Cmd) : Rep := if refS s t c ≠ 0 then {} else (ansK (max s.now t) c (keptK (max s.now t) s.es)).2

abbrev Rise (L : List Kv) : Prop := L.Pairwise (fun a b => ltK a b = true)
theorem kcm_lt {k : ByteArray} {a b : Kv} (h : ltK a b = true) (h' : kCm k b < 0) : kCm k a < 0 := by
  rw [kCm, cmpS_lt] at *
  exact ltS_trans h h'
theorem kcm_gt {k : ByteArray} {a b : Kv} (h : ltK a b = true) (h' : 0 < kCm k a) : 0 < kCm k b := by
  rw [kCm, cmpS_gt] at *
  exact ltS_trans h' h
theorem kparts {L : List Kv} (hr : Rise L) (k : ByteArray) : Parts (kCm k) L (atK k L) := parts_of (lt := ltK) _ (fun a b h h' => kcm_lt h h') L hr
theorem has_get {k : ByteArray} {L : List Kv} (h : hasK k L = true) : ∃ hp : atK k L < L.length, (L[atK k L]).key = k ∧ getK k L = L[atK k L] := by
  obtain ⟨hp, h0⟩ := hit_some h
  refine ⟨hp, (cmpS_eq _ _).1 h0, ?_⟩
  rw [getK, if_pos h, List.getElem?_eq_getElem hp, Option.getD_some]
theorem rise_uniq {L : List Kv} (hr : Rise L) {a b : Kv} (ha : a ∈ L) (hb : b ∈ L) (he : a.key = b.key) : a = b := by
  obtain ⟨i, hi, rfl⟩ := List.getElem_of_mem ha
  obtain ⟨j, hj, rfl⟩ := List.getElem_of_mem hb
  have hp := List.pairwise_iff_getElem.1 hr
  rcases Nat.lt_trichotomy i j with h | h | h
  · have := hp i j hi hj h; rw [ltK, he, ltS_irrefl] at this; cases this
  · subst h; rfl
  · have := hp j i hj hi h; rw [ltK, he, ltS_irrefl] at this; cases this
theorem has_iff {L : List Kv} (hr : Rise L) {k : ByteArray} : hasK k L = true ↔ ∃ e ∈ L, e.key = k := by
  constructor
  · intro h
    obtain ⟨hp, h1, -⟩ := has_get h
    exact ⟨_, List.getElem_mem hp, h1⟩
  · rintro ⟨e, he, hk⟩
    obtain ⟨i, hi, rfl⟩ := List.getElem_of_mem he
    have h0 : kCm k L[i] = 0 := (cmpS_eq _ _).2 hk
    obtain ⟨h1, h2⟩ := kparts hr k
    have hpi : ¬ i < atK k L := fun h => by have := (h2 i hi).2 h; omega
    have hpl : atK k L < L.length := by omega
    have h3 : ¬ kCm k L[atK k L] < 0 := fun h => by have := (h2 _ hpl).1 h; omega
    have h4 : kCm k L[atK k L] = 0 := by
      by_cases e : atK k L = i
      · have : ∀ j (hj : j < L.length), j = i → kCm k L[j] = 0 := by rintro j hj rfl; exact h0
        exact this _ hpl e
      · have hlt := List.pairwise_iff_getElem.1 hr (atK k L) i hpl hi (by omega)
        by_cases h5 : 0 < kCm k L[atK k L]
        · have := kcm_gt hlt h5; omega
        · omega
    unfold hasK hitB
    rw [List.getElem?_eq_getElem hpl]
    simpa using h4
theorem has_not {L : List Kv} (hr : Rise L) {k : ByteArray} : hasK k L = false ↔ ∀ e ∈ L, e.key ≠ k := by
  rw [← Bool.not_eq_true, has_iff hr]
  simp
theorem get_of {L : List Kv} (hr : Rise L) {e : Kv} (he : e ∈ L) : hasK e.key L = true ∧ getK e.key L = e := by
  have h := (has_iff hr).2 ⟨e, he, rfl⟩
  obtain ⟨hp, h1, h2⟩ := has_get h
  exact ⟨h, by rw [h2]; exact rise_uniq hr (List.getElem_mem hp) he h1⟩
theorem get_mem {k : ByteArray} {L : List Kv} (h : hasK k L = true) : getK k L ∈ L ∧ (getK k L).key = k := by
  obtain ⟨hp, h1, h2⟩ := has_get h
  rw [h2]; exact ⟨List.getElem_mem hp, h1⟩
theorem get_none {k : ByteArray} {L : List Kv} (h : hasK k L = false) : getK k L = noKv := by rw [getK, h]; simp
/-- Two lists that have the same under a key. -/
theorem same_key {L M : List Kv} (hL : Rise L) (hM : Rise M) {k : ByteArray} (h : ∀ e : Kv, e.key = k → (e ∈ M ↔ e ∈ L)) : hasK k M = hasK k L ∧ getK k M = getK k L := by
  cases hh : hasK k L with
  | true =>
    obtain ⟨h1, h2⟩ := get_mem hh
    have := get_of hM ((h _ h2).2 h1)
    rw [h2] at this; exact this
  | false =>
    have hn := (has_not hL).1 hh
    have : hasK k M = false := (has_not hM).2 fun e he hk => hn e ((h e hk).1 he) hk
    exact ⟨this, by rw [get_none this, get_none hh]⟩

theorem split_at {α : Type} (l : List α) (p : Nat) (h : p < l.length) : l = l.take p ++ l[p] :: l.drop (p + 1) := by
  conv => lhs; rw [← List.take_append_drop p l, List.drop_eq_getElem_cons h]
/-- What stands elsewhere has another key. -/
theorem mem_cut {L : List Kv} (hr : Rise L) {k : ByteArray} (h : hasK k L = true) (e : Kv) : e ∈ cutAt L (atK k L) ↔ e ∈ L ∧ e.key ≠ k := by
  obtain ⟨hp, h1, -⟩ := has_get h
  have hs := split_at L _ hp
  generalize hL : L[atK k L] = y at *
  generalize atK k L = p at *
  unfold cutAt
  have hr' := hr
  rw [hs, Rise, List.pairwise_append, List.pairwise_cons] at hr'
  obtain ⟨-, ⟨hb, -⟩, ha⟩ := hr'
  have hm : e ∈ L ↔ e ∈ L.take p ∨ e = y ∨ e ∈ L.drop (p + 1) := by
    conv => lhs; rw [hs]
    simp
  rw [hm, List.mem_append]
  constructor
  · rintro (he | he)
    · refine ⟨.inl he, fun hk => ?_⟩
      have := ha e he y (by simp)
      rw [ltK, hk, h1, ltS_irrefl] at this; cases this
    · refine ⟨.inr (.inr he), fun hk => ?_⟩
      have := hb e he
      rw [ltK, hk, h1, ltS_irrefl] at this; cases this
  · rintro ⟨he | rfl | he, hk⟩
    · exact .inl he
    · exact absurd h1 hk
    · exact .inr he
theorem mem_setK {L : List Kv} (hr : Rise L) {k : ByteArray} (h : hasK k L = true) (y e : Kv) : e ∈ L.set (atK k L) y ↔ e = y ∨ (e ∈ L ∧ e.key ≠ k) := by
  have h0 := mem_cut hr h e
  obtain ⟨hp, h1, -⟩ := has_get h
  unfold cutAt at h0
  rw [List.mem_append] at h0
  rw [List.set_eq_take_append_cons_drop, if_pos hp, List.mem_append, List.mem_cons, ← h0]
  constructor
  · rintro (h | h | h) <;> simp [h]
  · rintro (h | h | h) <;> simp [h]
theorem mem_lay {L : List Kv} (hr : Rise L) {k : ByteArray} (h : hasK k L = false) (y e : Kv) : e ∈ layAt L (atK k L) y ↔ e = y ∨ (e ∈ L ∧ e.key ≠ k) := by
  have hn := (has_not hr).1 h
  have hm : e ∈ L ↔ e ∈ L.take (atK k L) ∨ e ∈ L.drop (atK k L) := by
    conv => lhs; rw [← List.take_append_drop (atK k L) L, List.mem_append]
  unfold layAt
  rw [List.mem_append, List.mem_cons]
  constructor
  · rintro (h | h | h)
    · have := hm.2 (.inl h); exact .inr ⟨this, hn e this⟩
    · exact .inl h
    · have := hm.2 (.inr h); exact .inr ⟨this, hn e this⟩
  · rintro (h | ⟨h, -⟩)
    · exact .inr (.inl h)
    · rcases hm.1 h with h | h
      · exact .inl h
      · exact .inr (.inr h)
theorem rise_cut {L : List Kv} (hr : Rise L) (p : Nat) : Rise (cutAt L p) := pair_delete p hr
theorem rise_set {L : List Kv} (hr : Rise L) {k : ByteArray} (h : hasK k L = true) {y : Kv} (hy : y.key = k) : Rise (L.set (atK k L) y) := by
  obtain ⟨hp, h1, -⟩ := has_get h
  have h2 : (L.map (·.key)).Pairwise (fun a b => ltS a b = true) := by rw [List.pairwise_map]; exact hr
  have := pair_set (R := fun a b => ltS a b = true) (·.key) (x := y) h2 hp (by rw [hy, h1])
  rw [List.pairwise_map] at this
  exact this
theorem rise_lay {L : List Kv} (hr : Rise L) {k : ByteArray} (h : hasK k L = false) {y : Kv} (hy : y.key = k) : Rise (layAt L (atK k L) y) := by
  have hp := kparts hr k
  have ha := parts_above (lt := ltK) (cm := kCm k) (fun a b h h' => kcm_gt h h') hr hp h
  refine pair_insert hr (fun a hm => ?_) (fun b hm => ?_)
  · have := (parts_take hp).1 a hm
    rw [ltK, hy]; exact (cmpS_lt _ _).1 this
  · have := ha b hm
    rw [ltK, hy]; exact (cmpS_gt _ _).1 this
theorem rise_filter {L : List Kv} (hr : Rise L) (P : Kv → Bool) : Rise (L.filter P) := hr.filter _
theorem len_cut {α : Type} {L : List α} {p : Nat} (h : p < L.length) : (cutAt L p).length + 1 = L.length := by simp [cutAt]; omega
theorem len_lay {α : Type} {L : List α} {p : Nat} {y : α} (h : p ≤ L.length) : (layAt L p y).length = L.length + 1 := by simp [layAt]; omega

structure OkSto (s : Sto) : Prop where
  t0 : 0 ≤ s.now
  t1 : s.now ≤ 1073741824
  len : s.es.length ≤ 12
  ok : ∀ e ∈ s.es, wrongK s.now e = false
  rise : Rise s.es
theorem ltK_trans (a b c : Kv) (h : ltK a b = true) (h' : ltK b c = true) : ltK a c = true := ltS_trans h h'
theorem okSto {s : Sto} : s.fault = 0 ↔ OkSto s := by
  have e : s.fault = 0 ↔ s.badB = false := by
    unfold Sto.fault
    cases s.badB <;> simp
  rw [e, Sto.badB, Bool.or_eq_false_iff, Bool.or_eq_false_iff, Bool.or_eq_false_iff, Bool.not_eq_false', Bool.not_eq_false', rises_pair ltK_trans, anyB_false, decide_eq_false_iff_not, isTimeB, Bool.and_eq_true, decide_eq_true_iff, decide_eq_true_iff]
  constructor
  · rintro ⟨⟨⟨⟨h1, h2⟩, h3⟩, h4⟩, h5⟩; exact ⟨h1, h2, by omega, h4, h5⟩
  · rintro ⟨h1, h2, h3, h4, h5⟩; exact ⟨⟨⟨⟨h1, h2⟩, by omega⟩, h4⟩, h5⟩
theorem wrong_iff {now : Int} {e : Kv} : wrongK now e = false ↔ isNameB e.key = true ∧ OkVal e.x ∧ (e.til = 0 ∨ (now < e.til ∧ e.til ≤ 1073741824)) := by
  have hv : e.x.fault = 0 ↔ OkVal e.x := ⟨okVal, OkVal.fault⟩
  unfold wrongK
  rw [Bool.not_eq_false', Bool.and_eq_true, Bool.and_eq_true, Bool.or_eq_true, Bool.and_eq_true, decide_eq_true_iff, decide_eq_true_iff, decide_eq_true_iff, decide_eq_true_iff, hv, and_assoc]
theorem refS_ok {s : Sto} {t : Int} {c : Cmd} : refS s t c = 0 ↔ OkSto s ∧ (0 ≤ t ∧ t ≤ 1073741824) ∧ c.fault = 0 := by
  unfold refS
  rw [← okSto]
  by_cases h : s.fault = 0
  · rw [if_neg (by simp [h])]
    by_cases ht : isTimeB t = false
    · rw [if_pos ht]
      have : ¬ (0 ≤ t ∧ t ≤ 1073741824) := by
        intro h; rw [isTimeB] at ht; simp at ht; omega
      simp [this]
    · rw [if_neg ht]
      have : 0 ≤ t ∧ t ≤ 1073741824 := by rw [isTimeB] at ht; simp at ht; omega
      simp [h, this]
  · rw [if_pos h]
    simp [h]

/-- Entries that may be at a time. -/
structure OkKs (now : Int) (L : List Kv) : Prop where
  len : L.length ≤ 12
  ok : ∀ e ∈ L, wrongK now e = false
  rise : Rise L
theorem OkSto.kept {s : Sto} (h : OkSto s) (t : Int) : OkKs (max s.now t) (keptK (max s.now t) s.es) where
  len := Nat.le_trans (List.length_filter_le _ _) h.len
  rise := rise_filter h.rise _
  ok := fun e he => by
    obtain ⟨h1, h2⟩ := List.mem_filter.1 he
    obtain ⟨h3, h4, h5⟩ := wrong_iff.1 (h.ok e h1)
    refine wrong_iff.2 ⟨h3, h4, ?_⟩
    simp [goneB] at h2
    rcases h5 with h5 | h5
    · exact .inl h5
    · rcases h2 with h2 | h2
      · exact .inl h2
      · exact .inr ⟨h2, h5.2⟩
theorem get_well {now : Int} {L : List Kv} (h : OkKs now L) (k : ByteArray) : Well (getK k L).x := by
  cases hh : hasK k L with
  | true => exact .inr (wrong_iff.1 (h.ok _ (get_mem hh).1)).2.1
  | false => rw [get_none hh]; exact .inl rfl
/-- Of no value none is made. -/
theorem made_of_none {c : Cmd} (hc : c.fault = 0) (hs : ofStoreB c.k = false) (h0 : (doR (emptyVal 0) c).code = 0) : (doV (emptyVal 0) c).kind ≠ 0 := by
  cases hm : makesB c.k with
  | true => have := (doV_made hc hm (x := emptyVal 0) (.inl rfl)).1.lo; omega
  | false => rw [doR_none hc hs hm] at h0; omega
theorem lay_found {now : Int} {c : Cmd} {L : List Kv} (h : OkKs now L) (hc : c.fault = 0) (hs : ofStoreB c.k = false) (h0 : (doR (getK c.key L).x c).code = 0) (hk : (doV (getK c.key L).x c).kind = 0) : hasK c.key L = true := by
  cases hh : hasK c.key L with
  | true => rfl
  | false =>
    rw [get_none hh] at h0 hk
    exact absurd hk (made_of_none hc hs h0)
theorem okKs_cut {now : Int} {L : List Kv} (h : OkKs now L) (p : Nat) : OkKs now (cutAt L p) where
  len := by have := h.len; simp [cutAt]; omega
  rise := rise_cut h.rise p
  ok := fun e he => h.ok e (mem_delete he)
theorem okKs_set {now : Int} {L : List Kv} (h : OkKs now L) {k : ByteArray} (hh : hasK k L = true) {y : Kv} (hy : y.key = k) (hw : wrongK now y = false) : OkKs now (L.set (atK k L) y) where
  len := by simpa using h.len
  rise := rise_set h.rise hh hy
  ok := fun e he => by
    rcases (mem_setK h.rise hh y e).1 he with rfl | ⟨h1, -⟩
    · exact hw
    · exact h.ok e h1
theorem okKs_lay {now : Int} {L : List Kv} (h : OkKs now L) {k : ByteArray} (hh : hasK k L = false) {y : Kv} (hy : y.key = k) (hw : wrongK now y = false) (hl : L.length < 12) : OkKs now (layAt L (atK k L) y) where
  len := by rw [len_lay (posOf_le _ _)]; omega
  rise := rise_lay h.rise hh hy
  ok := fun e he => by
    rcases (mem_lay h.rise hh y e).1 he with rfl | ⟨h1, -⟩
    · exact hw
    · exact h.ok e h1
theorem okKs_change {now : Int} {c : Cmd} {L : List Kv} (h : OkKs now L) (hc : c.fault = 0) (hs : ofStoreB c.k = false) : OkKs now (changeK c L).1 := by
  have hk22 : c.k ≠ 22 := by intro e; rw [e] at hs; simp [ofStoreB] at hs
  have hw := get_well h c.key
  have hv := doV_well c hw
  unfold changeK
  by_cases h0 : (doR (getK c.key L).x c).code = 0
  · rw [if_neg (by simpa using h0)]
    have hf := lay_found h hc hs h0
    generalize doV (getK c.key L).x c = y at *
    unfold layK
    by_cases hk : y.kind = 0
    · simp only [hk, if_pos]
      exact okKs_cut h _
    · have hy := hv.ok hk
      simp only [if_neg hk]
      cases hh : hasK c.key L with
      | true =>
        simp only [if_pos]
        refine okKs_set h hh rfl (wrong_iff.2 ⟨cmd_key hc hk22, hy, ?_⟩)
        have := (wrong_iff.1 (h.ok _ (get_mem hh).1)).2.2
        unfold tilK
        by_cases h1 : c.k = 1
        · rw [if_pos h1]; exact .inl rfl
        · rw [if_neg h1]; exact this
      | false =>
        by_cases hl : 12 ≤ L.length
        · simp [hl]; exact h
        · simp [hl]
          exact okKs_lay h hh rfl (wrong_iff.2 ⟨cmd_key hc hk22, hy, .inl rfl⟩) (by omega)
  · rw [if_pos h0]; exact h
theorem okKs_ans {now : Int} {c : Cmd} {L : List Kv} (hn : 0 ≤ now) (h : OkKs now L) (hc : c.fault = 0) : OkKs now (ansK now c L).1 := by
  unfold ansK
  by_cases h22 : c.k = 22
  · rw [if_pos h22]; exact h
  rw [if_neg h22]
  by_cases h19 : c.k = 19
  · rw [if_pos h19]
    cases hh : hasK c.key L with
    | true => simp only [if_pos]; exact okKs_cut h _
    | false => simpa using h
  rw [if_neg h19]
  by_cases h20 : c.k = 20
  · rw [if_pos h20]
    unfold expireK
    cases hh : hasK c.key L with
    | false => simpa using h
    | true =>
      by_cases hb : c.n < 1 ∨ 1073741824 - now < c.n
      · simp [hb]; exact h
      · simp only [hb, if_neg, reduceCtorEq, not_false_eq_true]
        have := wrong_iff.1 (h.ok _ (get_mem hh).1)
        exact okKs_set h hh rfl (wrong_iff.2 ⟨cmd_key hc h22, this.2.1, .inr ⟨by simp only; omega, by simp only; omega⟩⟩)
  rw [if_neg h20]
  by_cases h21 : c.k = 21
  · rw [if_pos h21]; exact h
  rw [if_neg h21]
  exact okKs_change h hc (by simp [ofStoreB]; omega)
theorem OkSto.max0 {s : Sto} (h : OkSto s) {t : Int} (ht : t ≤ 1073741824) : 0 ≤ max s.now t ∧ max s.now t ≤ 1073741824 := by
  have := h.t0; have := h.t1; omega
theorem applyS_ok {s : Sto} {t : Int} {c : Cmd} (h : refS s t c = 0) : OkSto (applyS s t c) := by
  obtain ⟨h1, h2, h3⟩ := refS_ok.1 h
  have hm := h1.max0 h2.2
  have hk := okKs_ans hm.1 (h1.kept t) h3
  rw [applyS, if_neg (by simp [h])]
  exact ⟨hm.1, hm.2, hk.len, hk.ok, hk.rise⟩
theorem okSto_none : OkSto ⟨0, []⟩ := ⟨by simp, by simp, by simp, fun e he => by simp at he, List.Pairwise.nil⟩
end Go.Proofs.YtfnephnecighaaaGreat

/- A key runs out later: (*store.deed).expire. -/
namespace Go.Proofs.YtfnephnecighaaaGreat
open Go.RowKit
set_option linter.unusedVariables false
set_option maxRecDepth 100000

theorem Kept.fresh {D b o : Nat} {ob : Option Nat} {w W : World} (h : Kept D ob w W) (hb : w.heap.size ≤ b) (u : Value) : Kept D ob w (W.setCell ⟨b, o, none⟩ u) :=
  ⟨by simpa [World.setCell] using h.os, by simpa [World.setCell] using h.tape, by simpa [World.setCell] using h.output, by simpa [World.setCell] using h.size, fun k hl h1 h2 => (Below.heap_setCell _ _ _ _ (by show k ≠ b; omega)).trans (h.block k hl h1 h2)⟩
theorem Kept.fresh4 {D b : Nat} {ob : Option Nat} {w W : World} (h : Kept D ob w W) (hb : w.heap.size ≤ b) (u0 u1 u2 u3 : Value) : Kept D ob w ((((W.setCell ⟨b, 0, none⟩ u0).setCell ⟨b, 1, none⟩ u1).setCell ⟨b, 2, none⟩ u2).setCell ⟨b, 3, none⟩ u3) :=
  (((h.fresh hb u0).fresh hb u1).fresh hb u2).fresh hb u3
theorem Kept.of {D : Nat} {ob : Option Nat} {w W : World} (h : Below w.heap.size w W) : Kept D ob w W := ⟨h.os, h.tape, h.output, h.size, fun b hl _ _ => h.block b hl⟩
theorem Kept.pre {D : Nat} {ob : Option Nat} {w V W : World} (hb : Below w.heap.size w V) (h : Kept D ob V W) : Kept D ob w W :=
  ⟨h.os.trans hb.os, h.tape.trans hb.tape, h.output.trans hb.output, Nat.le_trans hb.size h.size, fun b hl h1 h2 => (h.block b (Nat.lt_of_lt_of_le hl hb.size) h1 h2).trans (hb.block b hl)⟩
theorem Kept.row {D g o : Nat} {w W : World} (h : Kept D (some g) w W) (u : Value) : Kept D (some g) w (W.setCell ⟨g, o, none⟩ u) :=
  ⟨by simpa [World.setCell] using h.os, by simpa [World.setCell] using h.tape, by simpa [World.setCell] using h.output, by simpa [World.setCell] using h.size, fun k hl h1 h2 => (Below.heap_setCell _ _ _ _ (fun e => h2 (by rw [e]))).trans (h.block k hl h1 h2)⟩

def Ent.withTil (e : Ent) (t : Int) : Ent := ⟨⟨e.kv.key, e.kv.x, t⟩, e.pa, e.pc, e.ia, e.ic, e.sa, e.sc⟩
theorem flat_til (t : Int) : ∀ (l : List Ent) (i : Nat) (S : List Value) (h : i < l.length), ((l.flatMap encE) ++ S).set (i * 8 + 7) (.int .i64 t) = (l.set i (l[i].withTil t)).flatMap encE ++ S
  | [], i, S, h => by simp at h
  | x :: r, 0, S, h => by simp [encE, Ent.withTil]
  | x :: r, i + 1, S, h => by
    have ih := flat_til t r i S (by simpa using h)
    have hx : encE x = [.string x.kv.key, .int .i64 x.kv.x.kind, .string x.kv.x.text, .int .i64 x.kv.x.count, x.ps, x.is, x.ss, .int .i64 x.kv.til] := rfl
    rw [List.flatMap_cons, List.getElem_cons_succ, List.set_cons_succ, List.flatMap_cons, List.append_assoc, List.append_assoc, ← ih, hx]
    rw [show (i + 1) * 8 + 7 = (i * 8 + 7) + 8 by omega]
    simp only [List.cons_append, List.nil_append, List.set_cons_succ]

/-- The deed behind a store of till when into an entry. -/
theorem Deed.till {w wr : World} {now at' t : Int} {c : Cmd} {found : Bool} {F : List Ent} {D g cap : Nat} {S : List Value} (h : Deed w now c at' found F D (.slice (some ⟨g, 0, none⟩) F.length cap) wr) (p : Nat) (hp : p < F.length) (hgw : w.heap.size ≤ g) (hgD : g ≠ D) (hc : F.length ≤ cap) (hm : cap ≤ maxLen)
    (hrow : wr.heap[g]? = some (.cells (F.flatMap encE ++ S).toArray 57 (0, 0))) (hsz : (F.flatMap encE ++ S).length = cap * 8) :
    Deed w now c at' found (F.set p (F[p].withTil t)) D (.slice (some ⟨g, 0, none⟩) F.length cap) (wr.setCell ⟨g, p * 8 + 7, none⟩ (.int .i64 t)) := by
  have hr2 := Go.heap_setCell_same _ g (p * 8 + 7) _ 57 (.int .i64 t) hrow
  have hr3 : (wr.setCell ⟨g, p * 8 + 7, none⟩ (.int .i64 t)).heap[g]? = some (.cells ((F.set p (F[p].withTil t)).flatMap encE ++ S).toArray 57 (0, 0)) := by
    rw [hr2, ← flat_til t F p S hp]; simp
  have hL : ∀ x : Ent, OwnVL w.heap.size wr x.ps x.is x.ss x.kv.x → OwnVL w.heap.size (wr.setCell ⟨g, p * 8 + 7, none⟩ (.int .i64 t)) x.ps x.is x.ss x.kv.x := fun x hx =>
    ⟨own_set hx.p (own_ne hx.p hrow (by decide)) _, own_set hx.i (own_ne hx.i hrow (by decide)) _, own_set hx.s (own_ne hx.s hrow (by decide)) _⟩
  refine ⟨h.bD, (Below.heap_setCell _ _ _ _ (fun e => hgD e.symm)).trans h.deed, ?_, ?_, h.below.setCell hgw _⟩
  · have hl : (F.set p (F[p].withTil t)).length = F.length := List.length_set
    rw [hl]
    refine own_mk (S := S) (by rw [flat_length lenE, hl]) hgw hr3 hc hm ?_
    rw [List.length_append, flat_length lenE] at hsz ⊢
    rw [hl]; exact hsz
  · intro e he
    rcases List.mem_or_eq_of_mem_set he with he | rfl
    · exact hL e (h.lists e he)
    · have := hL _ (h.lists F[p] (List.getElem_mem hp))
      exact ⟨this.p, this.i, this.s⟩

set_option maxHeartbeats 4000000 in
theorem expire_none (w wr : World) (now at' : Int) (c : Cmd) (F : List Ent) (D : Nat) (es : Value) (h : Deed w now c at' false F D es wr) :
    Calls Tryz.prog 81 #[.pointer (some ⟨D, 0, none⟩)] wr fun e w' => e = .returned (repV 5 ⟨#[]⟩ 0 (.slice none 0 0)) ∧ Below wr.heap.size wr w' := by
  have hbl := balloc wr (.cells #[.int .i64 0, .string ⟨#[]⟩, .int .i64 0, .slice none 0 0] 32)
  have nx := alloc_at wr (.cells #[.int .i64 0, .string ⟨#[]⟩, .int .i64 0, .slice none 0 0] 32)
  have nD := (hbl.block D (lt_at h.deed)).trans h.deed
  obtain ⟨k, key, fld, txt, n⟩ := c
  clear h
  go_enter Tryz.func81, Tryz.ntmps81
  go_upto_region 1 with fail
  generalize wr.alloc (.cells #[.int .i64 0, .string ⟨#[]⟩, .int .i64 0, .slice none 0 0] 32) = V at nx nD hbl ⊢
  generalize hb : wr.heap.size = b at nx hbl ⊢
  obtain ⟨q0, f0⟩ := cellsB nx
  obtain ⟨q1, f1⟩ := cellsB nD
  have l0 := lt_at nx
  have l1 := lt_at nD
  go_wp2_with fail
  refine bodyPost_ret (v := repV 5 ⟨#[]⟩ 0 (.slice none 0 0)) (by simp [results, Tryz.results81, go_sem, q0]) rfl ⟨rfl, ?_⟩
  first | rw [hb] | skip
  (iterate 4 (refine Below.setCell ?_ (by simp) _))
  exact hbl

set_option maxHeartbeats 4000000 in
theorem expire_bad (w wr : World) (now at' : Int) (c : Cmd) (F : List Ent) (D : Nat) (es : Value) (h : Deed w now c at' true F D es wr) (hn0 : 0 ≤ now) (hn1 : now ≤ 1073741824) (hbad : c.n < 1 ∨ 1073741824 - now < c.n) :
    Calls Tryz.prog 81 #[.pointer (some ⟨D, 0, none⟩)] wr fun e w' => e = .returned (repV 2 ⟨#[]⟩ 0 (.slice none 0 0)) ∧ Below wr.heap.size wr w' := by
  have hbl := balloc wr (.cells #[.int .i64 0, .string ⟨#[]⟩, .int .i64 0, .slice none 0 0] 32)
  have nx := alloc_at wr (.cells #[.int .i64 0, .string ⟨#[]⟩, .int .i64 0, .slice none 0 0] 32)
  have nD := (hbl.block D (lt_at h.deed)).trans h.deed
  obtain ⟨k, key, fld, txt, n⟩ := c
  simp only at hbad
  clear h
  go_enter Tryz.func81, Tryz.ntmps81
  go_upto_region 1 with fail
  generalize wr.alloc (.cells #[.int .i64 0, .string ⟨#[]⟩, .int .i64 0, .slice none 0 0] 32) = V at nx nD hbl ⊢
  generalize hb : wr.heap.size = b at nx hbl ⊢
  obtain ⟨q0, f0⟩ := cellsB nx
  obtain ⟨q1, f1⟩ := cellsB nD
  have l0 := lt_at nx
  have l1 := lt_at nD
  have HBL : Hid (Below b wr V) := hbl
  clear nx nD hbl
  by_cases h1 : n < 1
  · clear hbad
    go_wp2_with fail
    refine bodyPost_ret (v := repV 2 ⟨#[]⟩ 0 (.slice none 0 0)) (by simp [results, Tryz.results81, go_sem, q0]) rfl ⟨rfl, ?_⟩
    first | rw [hb] | skip
    (iterate 4 (refine Below.setCell ?_ (by simp) _))
    exact HBL.out
  · have h2 : 1073741824 - now < n := by omega
    clear hbad
    go_wp2_with fail
    refine bodyPost_ret (v := repV 2 ⟨#[]⟩ 0 (.slice none 0 0)) (by simp [results, Tryz.results81, go_sem, q0]) rfl ⟨rfl, ?_⟩
    first | rw [hb] | skip
    (iterate 4 (refine Below.setCell ?_ (by simp) _))
    exact HBL.out

theorem hideE {p : Prop} (h : p) : Hid p := h
theorem Deed.box {w wr : World} {now at' : Int} {c : Cmd} {found : Bool} {F : List Ent} {D b o : Nat} {es : Value} {cs : Array Value} (h : Deed w now c at' found F D es wr) (hb : wr.heap[b]? = some (.cells cs 32 (0, 0))) (hbw : w.heap.size ≤ b) (u : Value) : Deed w now c at' found F D es (wr.setCell ⟨b, o, none⟩ u) := by
  have hbD : b ≠ D := by
    rintro rfl
    have := hb.symm.trans h.deed
    simp at this
  refine ⟨h.bD, (Below.heap_setCell _ _ _ _ (fun e => hbD e.symm)).trans h.deed, own_set h.own (own_ne h.own hb (by decide)) _, fun e he => ?_, h.below.setCell hbw _⟩
  have hx := h.lists e he
  exact ⟨own_set hx.p (own_ne hx.p hb (by decide)) _, own_set hx.i (own_ne hx.i hb (by decide)) _, own_set hx.s (own_ne hx.s hb (by decide)) _⟩
theorem Deed.reply {w wr : World} {now at' : Int} {c : Cmd} {found : Bool} {F : List Ent} {D b : Nat} {es : Value} {cs : Array Value} (h : Deed w now c at' found F D es wr) (hb : wr.heap[b]? = some (.cells cs 32 (0, 0))) (hbw : w.heap.size ≤ b) (u0 u1 u2 u3 : Value) :
    Deed w now c at' found F D es ((((wr.setCell ⟨b, 0, none⟩ u0).setCell ⟨b, 1, none⟩ u1).setCell ⟨b, 2, none⟩ u2).setCell ⟨b, 3, none⟩ u3) := by
  have h1 := setCell_in u0 (o := 0) hb
  have h2 := setCell_in u1 (o := 1) h1
  have h3 := setCell_in u2 (o := 2) h2
  exact (((h.box hb hbw u0).box h1 hbw u1).box h2 hbw u2).box h3 hbw u3

set_option maxHeartbeats 4000000 in
theorem expire_good (w wr : World) (now : Int) (p : Nat) (c : Cmd) (F : List Ent) (D : Nat) (es : Value) (h : Deed w now c (p : Int) true F D es wr) (hp : p < F.length) (hn0 : 0 ≤ now) (hn1 : now ≤ 1073741824) (h1 : 1 ≤ c.n) (h2 : c.n ≤ 1073741824 - now) :
    Calls Tryz.prog 81 #[.pointer (some ⟨D, 0, none⟩)] wr fun e w' => e = .returned (repV 0 ⟨#[]⟩ 0 (.slice none 0 0)) ∧ Deed w now c (p : Int) true (F.set p (F[p].withTil (now + c.n))) D es w' ∧ Kept D es.ownBlock wr w' := by
  obtain ⟨g, cap, S, hs, hgw, hgD, hc1, hc2, hrow, hsz⟩ := h.entry p hp
  obtain ⟨y, hy⟩ : ∃ y : Ent, F[p] = y := ⟨_, rfl⟩
  have HY := hideE hy
  subst hs
  have hbl := balloc wr (.cells #[.int .i64 0, .string ⟨#[]⟩, .int .i64 0, .slice none 0 0] 32)
  have nx := alloc_at wr (.cells #[.int .i64 0, .string ⟨#[]⟩, .int .i64 0, .slice none 0 0] 32)
  have hd := h.mid hbl
  have nR := (hbl.block g (lt_at hrow)).trans hrow
  have hbw : w.heap.size ≤ wr.heap.size := h.below.size
  obtain ⟨k, key, fld, txt, n⟩ := c
  simp only at h1 h2
  have hpi : (p : Int) < (F.length : Int) := by omega
  have hpi0 : (0 : Int) ≤ (p : Int) := by omega
  clear h hrow
  go_enter Tryz.func81, Tryz.ntmps81
  go_upto_region 1 with fail
  generalize wr.alloc (.cells #[.int .i64 0, .string ⟨#[]⟩, .int .i64 0, .slice none 0 0] 32) = V at nx nR hbl hd ⊢
  generalize hb : wr.heap.size = b at nx hbl hbw ⊢
  have HBL := hideE (show Below wr.heap.size wr V by first | exact hbl | (rw [hb]; exact hbl))
  have HT := hideE (hd.till (t := now + n) p hp hgw hgD hc1 hc2 nR hsz)
  have HX : Hid (V.heap[b]? = some (.cells #[.int .i64 0, .string ⟨#[]⟩, .int .i64 0, .slice none 0 0] 32 (0, 0))) := nx
  obtain ⟨q0, f0⟩ := cellsB nx
  obtain ⟨q1, f1⟩ := cellsB hd.deed
  obtain ⟨-, -, -, -, -, -, -, r7, fz⟩ := row_eight nR hp hy
  have l0 := lt_at nx
  have l1 := lt_at hd.deed
  have lg := lt_at nR
  have hgb : ¬ g = b := by
    rintro rfl
    have := nR.symm.trans nx
    simp at this
  have hwn : IntKind.i64.wrap (now + n) = now + n := by rw [IntKind.wrap_i64]; omega
  have hn3 : ¬ n < 1 := by omega
  have hn4 : ¬ 1073741824 - now < n := by omega
  obtain ⟨s0, s1, s7⟩ : V.cell? ⟨D, 0, none⟩ = some (.int .i64 now) ∧ V.cell? ⟨D, 1, none⟩ = some (.slice (some ⟨g, 0, none⟩) F.length cap) ∧ V.cell? ⟨D, 7, none⟩ = some (.int .i64 (p : Int)) := ⟨q1 0, q1 1, q1 7⟩
  have hgD' : ¬ g = D := hgD
  clear nx nR hd hbl hsz
  go_upto_region 6 with fail
  go_region_held3 (fun w' => w'.cell? ⟨D, 0, none⟩ = some (.int .i64 now) ∧ w'.cell? ⟨D, 1, none⟩ = some (.slice (some ⟨g, 0, none⟩) F.length cap) ∧ w'.cell? ⟨D, 7, none⟩ = some (.int .i64 (p : Int))) (go_keep) (fail)
  all_goals
    go_wp2_with fail
    refine bodyPost_ret (v := repV 0 ⟨#[]⟩ 0 (.slice none 0 0)) (by simp [results, Tryz.results81, go_sem, q0]) rfl ⟨rfl, ?_⟩
    have hx := (Below.heap_setCell V ⟨g, p * 8 + 7, none⟩ (.int .i64 (now + n)) b (fun e => hgb e.symm)).trans HX.out
    rw [← HY.out]
    have hd3 := HT.out.reply (b := b) hx hbw (.int .i64 0) (.string ⟨#[]⟩) (.int .i64 0) (.slice none 0 0)
    have hk3 := ((Kept.of (D := D) (ob := some g) HBL.out).row (o := p * 8 + 7) (.int .i64 (now + n))).fresh4 (b := b) (by omega) (.int .i64 0) (.string ⟨#[]⟩) (.int .i64 0) (.slice none 0 0)
    first
      | exact ⟨hd3, hk3⟩
      | exact ⟨hd3.mid (Below.refl _ _).drew, hk3.below (Below.refl _ _).drew⟩
end Go.Proofs.YtfnephnecighaaaGreat

/- What a deed leaves: its block, its entries, what lies of their values. -/
namespace Go.Proofs.YtfnephnecighaaaGreat
open Go.RowKit
set_option linter.unusedVariables false
set_option maxRecDepth 100000

theorem Kept.deedBelow {w wr W : World} {now at' : Int} {c : Cmd} {found : Bool} {F : List Ent} {D : Nat} {es : Value} (h : Deed w now c at' found F D es wr) (hK : Kept D es.ownBlock wr W) : Below w.heap.size w W :=
  ⟨hK.os.trans h.below.os, hK.tape.trans h.below.tape, hK.output.trans h.below.output, Nat.le_trans h.below.size hK.size, fun b hb =>
    (hK.block b (by have := h.below.size; omega) (by have := h.bD; omega) (fun hh => by have := (World.ownsRow.lt h.own b hh.symm).1; omega)).trans (h.below.block b hb)⟩
/-- The deed behind a change of its block and its row. -/
theorem Deed.turn {w wr W : World} {now at' at2 : Int} {c : Cmd} {found f2 : Bool} {F F2 : List Ent} {D : Nat} {es es2 : Value} (h : Deed w now c at' found F D es wr) (hK : Kept D es.ownBlock wr W) (hD : W.heap[D]? = some (deedO now es2 c.k c.key c.fld c.txt c.n at2 f2))
    (ho : W.ownsRow w.heap.size 57 8 es2 F2.length (F2.flatMap encE)) (hl : ∀ e ∈ F2, e ∈ F ∨ OwnVL w.heap.size W e.ps e.is e.ss e.kv.x) : Deed w now c at2 f2 F2 D es2 W :=
  ⟨h.bD, hD, ho, fun e he => (hl e he).elim (fun h1 => Kept.ownVL hK (h.lists e h1) h.deed h.own) id, hK.deedBelow h⟩
/-- The deed behind the stroke of an entry. -/
theorem Deed.dropped {w wr w2 : World} {now at' : Int} {c : Cmd} {found : Bool} {F : List Ent} {D p : Nat} {es r : Value} (h : Deed w now c at' found F D es wr) (hp : p < F.length)
    (ho : w2.ownsRow w.heap.size 57 8 r (F.length - 1) ((F.take p ++ F.drop (p + 1)).flatMap encE)) (hg : wr.grownBy w2 es.ownBlock) (hob : r.ownBlock = es.ownBlock) : Deed w now c at' found (cutAt F p) D r (w2.setCell ⟨D, 1, none⟩ r) := by
  have hne := own_ne h.own h.deed (by decide)
  have hK := ((Kept.refl D es.ownBlock wr).grown hg).cell (o := 1) r
  refine h.turn hK (setCell_in r (o := 1) ((hg.block D (lt_at h.deed) (fun e => hne e.symm)).trans h.deed)) ?_ (fun e he => .inl (mem_delete he))
  have := own_set ho (p := ⟨D, 1, none⟩) (by rw [hob]; exact hne) r
  rw [show (cutAt F p).length = F.length - 1 by have := len_cut hp; omega]
  exact this

/-- An entry's lists, all from a block number on. -/
def ListsF (B : Nat) (w : World) (e : Ent) : Prop := Lists w e.ps e.is e.ss e.kv.x ∧ From B e.ps ∧ From B e.is ∧ From B e.ss
theorem ListsF.mid {B : Nat} {w W : World} {e : Ent} (h : ListsF B w e) (hb : Below w.heap.size w W) : ListsF B W e := ⟨h.1.below hb, h.2⟩
/-- What a deed leaves. -/
structure Fin (w : World) (now : Int) (c : Cmd) (F : List Ent) (D B : Nat) (es : Value) (wr : World) : Prop where
  bD : w.heap.size ≤ D
  hB : w.heap.size ≤ B
  deed : ∃ at' found, wr.heap[D]? = some (deedO now es c.k c.key c.fld c.txt c.n at' found)
  own : wr.ownsRow w.heap.size 57 8 es F.length (F.flatMap encE)
  lists : ∀ e ∈ F, OwnVL w.heap.size wr e.ps e.is e.ss e.kv.x ∨ ListsF B wr e
  below : Below w.heap.size w wr
theorem Deed.fin {w wr : World} {now at' : Int} {c : Cmd} {found : Bool} {F : List Ent} {D B : Nat} {es : Value} (h : Deed w now c at' found F D es wr) (hB : w.heap.size ≤ B) : Fin w now c F D B es wr := ⟨h.bD, hB, ⟨_, _, h.deed⟩, h.own, fun e he => .inl (h.lists e he), h.below⟩
theorem Fin.mid {w wr w2 : World} {now : Int} {c : Cmd} {F : List Ent} {D B : Nat} {es : Value} (h : Fin w now c F D B es wr) (hb : Below wr.heap.size wr w2) : Fin w now c F D B es w2 where
  bD := h.bD
  hB := h.hB
  deed := by obtain ⟨a, f, hd⟩ := h.deed; exact ⟨a, f, (hb.block _ (lt_at hd)).trans hd⟩
  own := ownsRow_kept h.own hb
  lists := fun e he => (h.lists e he).elim (fun h1 => .inl (h1.kept hb)) (fun h1 => .inr (h1.mid hb))
  below := bstep h.below hb
theorem Fin.box {w wr : World} {now : Int} {c : Cmd} {F : List Ent} {D B b o : Nat} {es : Value} {cs : Array Value} (h : Fin w now c F D B es wr) (hb : wr.heap[b]? = some (.cells cs 32 (0, 0))) (hbw : w.heap.size ≤ b) (hbB : b < B) (u : Value) : Fin w now c F D B es (wr.setCell ⟨b, o, none⟩ u) := by
  obtain ⟨a, f, hd⟩ := h.deed
  have hbD : b ≠ D := by
    rintro rfl
    have := hb.symm.trans hd
    simp at this
  refine ⟨h.bD, h.hB, ⟨a, f, (Below.heap_setCell _ _ _ _ (fun e => hbD e.symm)).trans hd⟩, own_set h.own (own_ne h.own hb (by decide)) _, fun e he => ?_, h.below.setCell hbw _⟩
  rcases h.lists e he with hx | ⟨⟨l1, l2, l3⟩, f1, f2, f3⟩
  · exact .inl ⟨own_set hx.p (own_ne hx.p hb (by decide)) _, own_set hx.i (own_ne hx.i hb (by decide)) _, own_set hx.s (own_ne hx.s hb (by decide)) _⟩
  · exact .inr ⟨⟨l1.setCell f1 (p := ⟨b, o, none⟩) hbB _, l2.setCell f2 (p := ⟨b, o, none⟩) hbB _, l3.setCell f3 (p := ⟨b, o, none⟩) hbB _⟩, f1, f2, f3⟩
theorem Fin.reply {w wr : World} {now : Int} {c : Cmd} {F : List Ent} {D B b : Nat} {es : Value} {cs : Array Value} (h : Fin w now c F D B es wr) (hb : wr.heap[b]? = some (.cells cs 32 (0, 0))) (hbw : w.heap.size ≤ b) (hbB : b < B) (u0 u1 u2 u3 : Value) :
    Fin w now c F D B es ((((wr.setCell ⟨b, 0, none⟩ u0).setCell ⟨b, 1, none⟩ u1).setCell ⟨b, 2, none⟩ u2).setCell ⟨b, 3, none⟩ u3) := by
  have h1 := setCell_in u0 (o := 0) hb
  have h2 := setCell_in u1 (o := 1) h1
  have h3 := setCell_in u2 (o := 2) h2
  exact (((h.box hb hbw hbB u0).box h1 hbw hbB u1).box h2 hbw hbB u2).box h3 hbw hbB u3

theorem own_same {w W : World} {B k n : Nat} {t : TypeId} {v : Value} {xs : List Value} (h : w.ownsRow B t k v n xs) (hb : ∀ b, v.ownBlock = some b → W.heap[b]? = w.heap[b]?) : W.ownsRow B t k v n xs := by
  refine ⟨h.1, ?_⟩
  rcases h.2 with h1 | ⟨g, cap, cur, rfl, h2, h3, h4⟩
  · exact .inl h1
  · exact .inr ⟨g, cap, cur, rfl, h2, (hb g rfl).trans h3, h4⟩
theorem RowAt.sameS {α : Type} {k B : Nat} {enc : α → List Value} {w w' : World} {s : Value} {l : List α} (h : RowAt k enc w s l) (hf : From B s) (hs : ∀ b, B ≤ b → b < w.heap.size → w'.heap[b]? = w.heap[b]?) (hz : w.heap.size ≤ w'.heap.size) : RowAt k enc w' s l := by
  obtain ⟨hl, a, cap, rfl, h1, h2, h3⟩ := h
  refine ⟨hl, a, cap, rfl, h1, h2, ?_⟩
  rcases h3 with h3 | ⟨b, off, rfl, hbk, hc⟩
  · exact .inl h3
  · exact .inr ⟨b, off, rfl, by omega, fun i hi c hk => (World.cell?_of_block (a := ⟨b, off + i * k + c, none⟩) (hs b (hf _ _ _ rfl) hbk)).trans (hc i hi c hk)⟩
/-- What a deed leaves whose row alone has turned. -/
theorem Deed.rowed {w wr W : World} {now at' : Int} {c : Cmd} {found : Bool} {F F2 : List Ent} {D g cap B : Nat} {S : List Value} (h : Deed w now c at' found F D (.slice (some ⟨g, 0, none⟩) F.length cap) wr) (hgD : g ≠ D) (hgw : w.heap.size ≤ g) (hc : F.length ≤ cap) (hm : cap ≤ maxLen)
    (hl2 : F2.length = F.length) (hrow : W.heap[g]? = some (.cells (F2.flatMap encE ++ S).toArray 57 (0, 0))) (hold : wr.heap[g]? = some (.cells (F.flatMap encE ++ S).toArray 57 (0, 0))) (hsz : (F.flatMap encE ++ S).length = cap * 8)
    (ho : ∀ b, b ≠ g → W.heap[b]? = wr.heap[b]?) (hz : W.heap.size = wr.heap.size) (h1 : W.os = wr.os) (h2 : W.tape = wr.tape) (h3 : W.output = wr.output) (hgB : g < B) (hwB : w.heap.size ≤ B)
    (hnew : ∀ e ∈ F2, (∃ a ∈ F, e.ps = a.ps ∧ e.is = a.is ∧ e.ss = a.ss ∧ e.kv.x = a.kv.x) ∨ ListsF B wr e) : Fin w now c F2 D B (.slice (some ⟨g, 0, none⟩) F.length cap) W ∧ Kept D (some g) wr W := by
  refine ⟨⟨h.bD, hwB, ⟨_, _, (ho D (fun e => hgD e.symm)).trans h.deed⟩, ?_, fun e he => ?_, ?_⟩, ⟨h1, h2, h3, by omega, fun b hl hb1 hb2 => ho b (fun e => hb2 (by rw [e]))⟩⟩
  · rw [← hl2]
    refine own_mk (S := S) (flat_length lenE _) hgw hrow (by omega) hm ?_
    rw [List.length_append, flat_length lenE] at hsz ⊢
    rw [hl2]; exact hsz
  · rcases hnew e he with ⟨a, ha, e1, e2, e3, e4⟩ | ⟨hl, f1, f2, f3⟩
    · have q := h.lists a ha
      rw [e1, e2, e3, e4]
      exact .inl ⟨own_same q.p fun b hb => ho b (fun e => own_ne q.p hold (by decide) (by rw [← e]; exact hb)), own_same q.i fun b hb => ho b (fun e => own_ne q.i hold (by decide) (by rw [← e]; exact hb)), own_same q.s fun b hb => ho b (fun e => own_ne q.s hold (by decide) (by rw [← e]; exact hb))⟩
    · have hsm : ∀ b, B ≤ b → b < wr.heap.size → W.heap[b]? = wr.heap[b]? := fun b hb _ => ho b (by omega)
      exact .inr ⟨⟨hl.p.sameS f1 hsm (by omega), hl.i.sameS f2 hsm (by omega), hl.s.sameS f3 hsm (by omega)⟩, f1, f2, f3⟩
  · have hb := h.below
    exact ⟨h1.trans hb.os, h2.trans hb.tape, h3.trans hb.output, by have := hb.size; omega, fun b hl => (ho b (by omega)).trans (hb.block b hl)⟩
end Go.Proofs.YtfnephnecighaaaGreat
