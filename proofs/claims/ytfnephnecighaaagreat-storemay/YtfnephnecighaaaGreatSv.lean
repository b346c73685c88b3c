/- What store.Apply comes to, as plain functions; what a store has under a key: plain lists alone. -/
import Derived.Test.YtfnephnecighaaaGreatMu
import Derived.Test.YtfnephnecighaaaGreatGn
import Derived.Test.YtfnephnecighaaaGreatRf
import Derived.Test.YtfnephnecighaaaGreatLf
namespace Go.Proofs.YtfnephnecighaaaGreat
open Go.RowKit
set_option linter.unusedVariables false

theorem cmd_key {c : Cmd} (h : c.fault = 0) (hk : c.k ≠ 22) : isNameB c.key = true := by
  unfold Cmd.fault cmdFault at h
  by_cases h1 : c.k < 1 ∨ 22 < c.k
  · rw [if_pos h1] at h; omega
  rw [if_neg h1] at h
  cases h2 : foreignB c.k c.key c.fld c.txt c.n with
  | true => rw [h2, if_pos rfl] at h; omega
  | false =>
    rw [h2, if_neg (by simp)] at h
    cases h3 : partsB c.k c.key c.fld c.txt with
    | false => rw [h3, if_pos rfl] at h; omega
    | true =>
      unfold partsB at h3
      simp [hasKeyB, hk] at h3
      exact h3.1.1
theorem doR_none {c : Cmd} (hc : c.fault = 0) (hs : ofStoreB c.k = false) (hm : makesB c.k = false) : (doR (emptyVal 0) c).code = 5 := by
  have hr := (show Well (emptyVal 0) from .inl rfl).ref hc hs
  have ha : answerV (emptyVal 0) c = (emptyVal 0, { code := 5 }) := by
    unfold answerV; rw [if_pos none_empty, hm]; simp
  unfold doR
  rw [if_neg (by omega), ha]
  simp

abbrev kCm (key : ByteArray) : Kv → Int := fun e => cmpS e.key key
abbrev atK (key : ByteArray) (L : List Kv) : Nat := posOf (kCm key) L
abbrev hasK (key : ByteArray) (L : List Kv) : Bool := hitB (kCm key) L (atK key L)
def noKv : Kv := ⟨⟨#[]⟩, emptyVal 0, 0⟩
/-- What a list has under a key; else nothing. -/
def getK (key : ByteArray) (L : List Kv) : Kv := if hasK key L = true then (L[atK key L]?).getD noKv else noKv
def tilK (c : Cmd) (t : Int) : Int := if c.k = 1 then 0 else t
/-- A value laid under a key: the entries, the error. -/
def layK (c : Cmd) (L : List Kv) (y : Val) : List Kv × Int :=
  if y.kind = 0 then (cutAt L (atK c.key L), 0)
  else if hasK c.key L = true then (L.set (atK c.key L) ⟨c.key, y, tilK c (getK c.key L).til⟩, 0)
  else if 12 ≤ L.length then (L, 6) else (layAt L (atK c.key L) ⟨c.key, y, 0⟩, 0)
def changeK (c : Cmd) (L : List Kv) : List Kv × Rep :=
  if (doR (getK c.key L).x c).code ≠ 0 then (L, doR (getK c.key L).x c)
  else if (layK c L (doV (getK c.key L).x c)).2 ≠ 0 then (L, { code := (layK c L (doV (getK c.key L).x c)).2 })
  else ((layK c L (doV (getK c.key L).x c)).1, doR (getK c.key L).x c)
def expireK (now : Int) (c : Cmd) (L : List Kv) : List Kv × Rep :=
  if hasK c.key L = false then (L, { code := 5 }) else if c.n < 1 ∨ 1073741824 - now < c.n then (L, { code := 2 })
  else (L.set (atK c.key L) ⟨c.key, (getK c.key L).x, now + c.n⟩, {})
def ansK (now : Int) (c : Cmd) (L : List Kv) : List Kv × Rep :=
  if c.k = 22 then (L, { list := L.map (·.key) })
  else if c.k = 19 then if hasK c.key L = true then (cutAt L (atK c.key L), { n := 1 }) else (L, {})
  else if c.k = 20 then expireK now c L
  else if c.k = 21 then (L, lifeRep now (hasK c.key L) (getK c.key L).til)
  else changeK c L
/-- A store's entries behind a time. -/
def keptK (now : Int) (L : List Kv) : List Kv := L.filter (fun e => !goneB now e)
def applyS (s : Sto) (t : Int) (c : Cmd) : Sto := if refS s t c ≠ 0 then ⟨0, []⟩ else ⟨max s.now t, (ansK (max s.now t) c (keptK (max s.now t) s.es)).1⟩
def applyR (s : Sto) (t : Int) (c : Cmd) : Rep := if refS s t c ≠ 0 then {} else (ansK (max s.now t) c (keptK (max s.now t) s.es)).2

abbrev Rise (L : List Kv) : Prop := L.Pairwise (fun a b => ltK a b = true)
theorem kcm_lt {k : ByteArray} {a b : Kv} (h : ltK a b = true) (h' : kCm k b < 0) : kCm k a < 0 := by
  rw [kCm, cmpS_lt] at *
  exact ltS_trans h h'
theorem kcm_gt {k : ByteArray} {a b : Kv} (h : ltK a b = true) (h' : 0 < kCm k a) : 0 < kCm k b := by
  rw [kCm, cmpS_gt] at *
  exact ltS_trans h' h
theorem kparts {L : List Kv} (hr : Rise L) (k : ByteArray) : Parts (kCm k) L (atK k L) := parts_of (lt := ltK) _ (fun a b h h' => kcm_lt h h') L hr
theorem has_get {k : ByteArray} {L : List Kv} (h : hasK k L = true) : ∃ hp : atK k L < L.length, (L[atK k L]).key = k ∧ getK k L = L[atK k L] := by
  obtain ⟨hp, h0⟩ := hit_some h
  refine ⟨hp, (cmpS_eq _ _).1 h0, ?_⟩
  rw [getK, if_pos h, List.getElem?_eq_getElem hp, Option.getD_some]
theorem rise_uniq {L : List Kv} (hr : Rise L) {a b : Kv} (ha : a ∈ L) (hb : b ∈ L) (he : a.key = b.key) : a = b := by
  obtain ⟨i, hi, rfl⟩ := List.getElem_of_mem ha
  obtain ⟨j, hj, rfl⟩ := List.getElem_of_mem hb
  have hp := List.pairwise_iff_getElem.1 hr
  rcases Nat.lt_trichotomy i j with h | h | h
  · have := hp i j hi hj h; rw [ltK, he, ltS_irrefl] at this; cases this
  · subst h; rfl
  · have := hp j i hj hi h; rw [ltK, he, ltS_irrefl] at this; cases this
theorem has_iff {L : List Kv} (hr : Rise L) {k : ByteArray} : hasK k L = true ↔ ∃ e ∈ L, e.key = k := by
  constructor
  · intro h
    obtain ⟨hp, h1, -⟩ := has_get h
    exact ⟨_, List.getElem_mem hp, h1⟩
  · rintro ⟨e, he, hk⟩
    obtain ⟨i, hi, rfl⟩ := List.getElem_of_mem he
    have h0 : kCm k L[i] = 0 := (cmpS_eq _ _).2 hk
    obtain ⟨h1, h2⟩ := kparts hr k
    have hpi : ¬ i < atK k L := fun h => by have := (h2 i hi).2 h; omega
    have hpl : atK k L < L.length := by omega
    have h3 : ¬ kCm k L[atK k L] < 0 := fun h => by have := (h2 _ hpl).1 h; omega
    have h4 : kCm k L[atK k L] = 0 := by
      by_cases e : atK k L = i
      · have : ∀ j (hj : j < L.length), j = i → kCm k L[j] = 0 := by rintro j hj rfl; exact h0
        exact this _ hpl e
      · have hlt := List.pairwise_iff_getElem.1 hr (atK k L) i hpl hi (by omega)
        by_cases h5 : 0 < kCm k L[atK k L]
        · have := kcm_gt hlt h5; omega
        · omega
    unfold hasK hitB
    rw [List.getElem?_eq_getElem hpl]
    simpa using h4
theorem has_not {L : List Kv} (hr : Rise L) {k : ByteArray} : hasK k L = false ↔ ∀ e ∈ L, e.key ≠ k := by
  rw [← Bool.not_eq_true, has_iff hr]
  simp
theorem get_of {L : List Kv} (hr : Rise L) {e : Kv} (he : e ∈ L) : hasK e.key L = true ∧ getK e.key L = e := by
  have h := (has_iff hr).2 ⟨e, he, rfl⟩
  obtain ⟨hp, h1, h2⟩ := has_get h
  exact ⟨h, by rw [h2]; exact rise_uniq hr (List.getElem_mem hp) he h1⟩
theorem get_mem {k : ByteArray} {L : List Kv} (h : hasK k L = true) : getK k L ∈ L ∧ (getK k L).key = k := by
  obtain ⟨hp, h1, h2⟩ := has_get h
  rw [h2]; exact ⟨List.getElem_mem hp, h1⟩
theorem get_none {k : ByteArray} {L : List Kv} (h : hasK k L = false) : getK k L = noKv := by rw [getK, h]; simp
/-- Two lists that have the same under a key. -/
theorem same_key {L M : List Kv} (hL : Rise L) (hM : Rise M) {k : ByteArray} (h : ∀ e : Kv, e.key = k → (e ∈ M ↔ e ∈ L)) : hasK k M = hasK k L ∧ getK k M = getK k L := by
  cases hh : hasK k L with
  | true =>
    obtain ⟨h1, h2⟩ := get_mem hh
    have := get_of hM ((h _ h2).2 h1)
    rw [h2] at this; exact this
  | false =>
    have hn := (has_not hL).1 hh
    have : hasK k M = false := (has_not hM).2 fun e he hk => hn e ((h e hk).1 he) hk
    exact ⟨this, by rw [get_none this, get_none hh]⟩

theorem split_at {α : Type} (l : List α) (p : Nat) (h : p < l.length) : l = l.take p ++ l[p] :: l.drop (p + 1) := by
  conv => lhs; rw [← List.take_append_drop p l, List.drop_eq_getElem_cons h]
/-- What stands elsewhere has another key. -/
theorem mem_cut {L : List Kv} (hr : Rise L) {k : ByteArray} (h : hasK k L = true) (e : Kv) : e ∈ cutAt L (atK k L) ↔ e ∈ L ∧ e.key ≠ k := by
  obtain ⟨hp, h1, -⟩ := has_get h
  have hs := split_at L _ hp
  generalize hL : L[atK k L] = y at *
  generalize atK k L = p at *
  unfold cutAt
  have hr' := hr
  rw [hs, Rise, List.pairwise_append, List.pairwise_cons] at hr'
  obtain ⟨-, ⟨hb, -⟩, ha⟩ := hr'
  have hm : e ∈ L ↔ e ∈ L.take p ∨ e = y ∨ e ∈ L.drop (p + 1) := by
    conv => lhs; rw [hs]
    simp
  rw [hm, List.mem_append]
  constructor
  · rintro (he | he)
    · refine ⟨.inl he, fun hk => ?_⟩
      have := ha e he y (by simp)
      rw [ltK, hk, h1, ltS_irrefl] at this; cases this
    · refine ⟨.inr (.inr he), fun hk => ?_⟩
      have := hb e he
      rw [ltK, hk, h1, ltS_irrefl] at this; cases this
  · rintro ⟨he | rfl | he, hk⟩
    · exact .inl he
    · exact absurd h1 hk
    · exact .inr he
theorem mem_setK {L : List Kv} (hr : Rise L) {k : ByteArray} (h : hasK k L = true) (y e : Kv) : e ∈ L.set (atK k L) y ↔ e = y ∨ (e ∈ L ∧ e.key ≠ k) := by
  have h0 := mem_cut hr h e
  obtain ⟨hp, h1, -⟩ := has_get h
  unfold cutAt at h0
  rw [List.mem_append] at h0
  rw [List.set_eq_take_append_cons_drop, if_pos hp, List.mem_append, List.mem_cons, ← h0]
  constructor
  · rintro (h | h | h) <;> simp [h]
  · rintro (h | h | h) <;> simp [h]
theorem mem_lay {L : List Kv} (hr : Rise L) {k : ByteArray} (h : hasK k L = false) (y e : Kv) : e ∈ layAt L (atK k L) y ↔ e = y ∨ (e ∈ L ∧ e.key ≠ k) := by
  have hn := (has_not hr).1 h
  have hm : e ∈ L ↔ e ∈ L.take (atK k L) ∨ e ∈ L.drop (atK k L) := by
    conv => lhs; rw [← List.take_append_drop (atK k L) L, List.mem_append]
  unfold layAt
  rw [List.mem_append, List.mem_cons]
  constructor
  · rintro (h | h | h)
    · have := hm.2 (.inl h); exact .inr ⟨this, hn e this⟩
    · exact .inl h
    · have := hm.2 (.inr h); exact .inr ⟨this, hn e this⟩
  · rintro (h | ⟨h, -⟩)
    · exact .inr (.inl h)
    · rcases hm.1 h with h | h
      · exact .inl h
      · exact .inr (.inr h)
theorem rise_cut {L : List Kv} (hr : Rise L) (p : Nat) : Rise (cutAt L p) := pair_delete p hr
theorem rise_set {L : List Kv} (hr : Rise L) {k : ByteArray} (h : hasK k L = true) {y : Kv} (hy : y.key = k) : Rise (L.set (atK k L) y) := by
  obtain ⟨hp, h1, -⟩ := has_get h
  have h2 : (L.map (·.key)).Pairwise (fun a b => ltS a b = true) := by rw [List.pairwise_map]; exact hr
  have := pair_set (R := fun a b => ltS a b = true) (·.key) (x := y) h2 hp (by rw [hy, h1])
  rw [List.pairwise_map] at this
  exact this
theorem rise_lay {L : List Kv} (hr : Rise L) {k : ByteArray} (h : hasK k L = false) {y : Kv} (hy : y.key = k) : Rise (layAt L (atK k L) y) := by
  have hp := kparts hr k
  have ha := parts_above (lt := ltK) (cm := kCm k) (fun a b h h' => kcm_gt h h') hr hp h
  refine pair_insert hr (fun a hm => ?_) (fun b hm => ?_)
  · have := (parts_take hp).1 a hm
    rw [ltK, hy]; exact (cmpS_lt _ _).1 this
  · have := ha b hm
    rw [ltK, hy]; exact (cmpS_gt _ _).1 this
theorem rise_filter {L : List Kv} (hr : Rise L) (P : Kv → Bool) : Rise (L.filter P) := hr.filter _
theorem len_cut {α : Type} {L : List α} {p : Nat} (h : p < L.length) : (cutAt L p).length + 1 = L.length := by simp [cutAt]; omega
theorem len_lay {α : Type} {L : List α} {p : Nat} {y : α} (h : p ≤ L.length) : (layAt L p y).length = L.length + 1 := by simp [layAt]; omega

structure OkSto (s : Sto) : Prop where
  t0 : 0 ≤ s.now
  t1 : s.now ≤ 1073741824
  len : s.es.length ≤ 12
  ok : ∀ e ∈ s.es, wrongK s.now e = false
  rise : Rise s.es
theorem ltK_trans (a b c : Kv) (h : ltK a b = true) (h' : ltK b c = true) : ltK a c = true := ltS_trans h h'
theorem okSto {s : Sto} : s.fault = 0 ↔ OkSto s := by
  have e : s.fault = 0 ↔ s.badB = false := by
    unfold Sto.fault
    cases s.badB <;> simp
  rw [e, Sto.badB, Bool.or_eq_false_iff, Bool.or_eq_false_iff, Bool.or_eq_false_iff, Bool.not_eq_false', Bool.not_eq_false', rises_pair ltK_trans, anyB_false, decide_eq_false_iff_not, isTimeB, Bool.and_eq_true, decide_eq_true_iff, decide_eq_true_iff]
  constructor
  · rintro ⟨⟨⟨⟨h1, h2⟩, h3⟩, h4⟩, h5⟩; exact ⟨h1, h2, by omega, h4, h5⟩
  · rintro ⟨h1, h2, h3, h4, h5⟩; exact ⟨⟨⟨⟨h1, h2⟩, by omega⟩, h4⟩, h5⟩
theorem wrong_iff {now : Int} {e : Kv} : wrongK now e = false ↔ isNameB e.key = true ∧ OkVal e.x ∧ (e.til = 0 ∨ (now < e.til ∧ e.til ≤ 1073741824)) := by
  have hv : e.x.fault = 0 ↔ OkVal e.x := ⟨okVal, OkVal.fault⟩
  unfold wrongK
  rw [Bool.not_eq_false', Bool.and_eq_true, Bool.and_eq_true, Bool.or_eq_true, Bool.and_eq_true, decide_eq_true_iff, decide_eq_true_iff, decide_eq_true_iff, decide_eq_true_iff, hv, and_assoc]
theorem refS_ok {s : Sto} {t : Int} {c : Cmd} : refS s t c = 0 ↔ OkSto s ∧ (0 ≤ t ∧ t ≤ 1073741824) ∧ c.fault = 0 := by
  unfold refS
  rw [← okSto]
  by_cases h : s.fault = 0
  · rw [if_neg (by simp [h])]
    by_cases ht : isTimeB t = false
    · rw [if_pos ht]
      have : ¬ (0 ≤ t ∧ t ≤ 1073741824) := by
        intro h; rw [isTimeB] at ht; simp at ht; omega
      simp [this]
    · rw [if_neg ht]
      have : 0 ≤ t ∧ t ≤ 1073741824 := by rw [isTimeB] at ht; simp at ht; omega
      simp [h, this]
  · rw [if_pos h]
    simp [h]

/-- Entries that may be at a time. -/
structure OkKs (now : Int) (L : List Kv) : Prop where
  len : L.length ≤ 12
  ok : ∀ e ∈ L, wrongK now e = false
  rise : Rise L
theorem OkSto.kept {s : Sto} (h : OkSto s) (t : Int) : OkKs (max s.now t) (keptK (max s.now t) s.es) where
  len := Nat.le_trans (List.length_filter_le _ _) h.len
  rise := rise_filter h.rise _
  ok := fun e he => by
    obtain ⟨h1, h2⟩ := List.mem_filter.1 he
    obtain ⟨h3, h4, h5⟩ := wrong_iff.1 (h.ok e h1)
    refine wrong_iff.2 ⟨h3, h4, ?_⟩
    simp [goneB] at h2
    rcases h5 with h5 | h5
    · exact .inl h5
    · rcases h2 with h2 | h2
      · exact .inl h2
      · exact .inr ⟨h2, h5.2⟩
theorem get_well {now : Int} {L : List Kv} (h : OkKs now L) (k : ByteArray) : Well (getK k L).x := by
  cases hh : hasK k L with
  | true => exact .inr (wrong_iff.1 (h.ok _ (get_mem hh).1)).2.1
  | false => rw [get_none hh]; exact .inl rfl
/-- Of no value none is made. -/
theorem made_of_none {c : Cmd} (hc : c.fault = 0) (hs : ofStoreB c.k = false) (h0 : (doR (emptyVal 0) c).code = 0) : (doV (emptyVal 0) c).kind ≠ 0 := by
  cases hm : makesB c.k with
  | true => have := (doV_made hc hm (x := emptyVal 0) (.inl rfl)).1.lo; omega
  | false => rw [doR_none hc hs hm] at h0; omega
theorem lay_found {now : Int} {c : Cmd} {L : List Kv} (h : OkKs now L) (hc : c.fault = 0) (hs : ofStoreB c.k = false) (h0 : (doR (getK c.key L).x c).code = 0) (hk : (doV (getK c.key L).x c).kind = 0) : hasK c.key L = true := by
  cases hh : hasK c.key L with
  | true => rfl
  | false =>
    rw [get_none hh] at h0 hk
    exact absurd hk (made_of_none hc hs h0)
theorem okKs_cut {now : Int} {L : List Kv} (h : OkKs now L) (p : Nat) : OkKs now (cutAt L p) where
  len := by have := h.len; simp [cutAt]; omega
  rise := rise_cut h.rise p
  ok := fun e he => h.ok e (mem_delete he)
theorem okKs_set {now : Int} {L : List Kv} (h : OkKs now L) {k : ByteArray} (hh : hasK k L = true) {y : Kv} (hy : y.key = k) (hw : wrongK now y = false) : OkKs now (L.set (atK k L) y) where
  len := by simpa using h.len
  rise := rise_set h.rise hh hy
  ok := fun e he => by
    rcases (mem_setK h.rise hh y e).1 he with rfl | ⟨h1, -⟩
    · exact hw
    · exact h.ok e h1
theorem okKs_lay {now : Int} {L : List Kv} (h : OkKs now L) {k : ByteArray} (hh : hasK k L = false) {y : Kv} (hy : y.key = k) (hw : wrongK now y = false) (hl : L.length < 12) : OkKs now (layAt L (atK k L) y) where
  len := by rw [len_lay (posOf_le _ _)]; omega
  rise := rise_lay h.rise hh hy
  ok := fun e he => by
    rcases (mem_lay h.rise hh y e).1 he with rfl | ⟨h1, -⟩
    · exact hw
    · exact h.ok e h1
theorem okKs_change {now : Int} {c : Cmd} {L : List Kv} (h : OkKs now L) (hc : c.fault = 0) (hs : ofStoreB c.k = false) : OkKs now (changeK c L).1 := by
  have hk22 : c.k ≠ 22 := by intro e; rw [e] at hs; simp [ofStoreB] at hs
  have hw := get_well h c.key
  have hv := doV_well c hw
  unfold changeK
  by_cases h0 : (doR (getK c.key L).x c).code = 0
  · rw [if_neg (by simpa using h0)]
    have hf := lay_found h hc hs h0
    generalize doV (getK c.key L).x c = y at *
    unfold layK
    by_cases hk : y.kind = 0
    · simp only [hk, if_pos]
      exact okKs_cut h _
    · have hy := hv.ok hk
      simp only [if_neg hk]
      cases hh : hasK c.key L with
      | true =>
        simp only [if_pos]
        refine okKs_set h hh rfl (wrong_iff.2 ⟨cmd_key hc hk22, hy, ?_⟩)
        have := (wrong_iff.1 (h.ok _ (get_mem hh).1)).2.2
        unfold tilK
        by_cases h1 : c.k = 1
        · rw [if_pos h1]; exact .inl rfl
        · rw [if_neg h1]; exact this
      | false =>
        by_cases hl : 12 ≤ L.length
        · simp [hl]; exact h
        · simp [hl]
          exact okKs_lay h hh rfl (wrong_iff.2 ⟨cmd_key hc hk22, hy, .inl rfl⟩) (by omega)
  · rw [if_pos h0]; exact h
theorem okKs_ans {now : Int} {c : Cmd} {L : List Kv} (hn : 0 ≤ now) (h : OkKs now L) (hc : c.fault = 0) : OkKs now (ansK now c L).1 := by
  unfold ansK
  by_cases h22 : c.k = 22
  · rw [if_pos h22]; exact h
  rw [if_neg h22]
  by_cases h19 : c.k = 19
  · rw [if_pos h19]
    cases hh : hasK c.key L with
    | true => simp only [if_pos]; exact okKs_cut h _
    | false => simpa using h
  rw [if_neg h19]
  by_cases h20 : c.k = 20
  · rw [if_pos h20]
    unfold expireK
    cases hh : hasK c.key L with
    | false => simpa using h
    | true =>
      by_cases hb : c.n < 1 ∨ 1073741824 - now < c.n
      · simp [hb]; exact h
      · simp only [hb, if_neg, reduceCtorEq, not_false_eq_true]
        have := wrong_iff.1 (h.ok _ (get_mem hh).1)
        exact okKs_set h hh rfl (wrong_iff.2 ⟨cmd_key hc h22, this.2.1, .inr ⟨by simp only; omega, by simp only; omega⟩⟩)
  rw [if_neg h20]
  by_cases h21 : c.k = 21
  · rw [if_pos h21]; exact h
  rw [if_neg h21]
  exact okKs_change h hc (by simp [ofStoreB]; omega)
theorem OkSto.max0 {s : Sto} (h : OkSto s) {t : Int} (ht : t ≤ 1073741824) : 0 ≤ max s.now t ∧ max s.now t ≤ 1073741824 := by
  have := h.t0; have := h.t1; omega
theorem applyS_ok {s : Sto} {t : Int} {c : Cmd} (h : refS s t c = 0) : OkSto (applyS s t c) := by
  obtain ⟨h1, h2, h3⟩ := refS_ok.1 h
  have hm := h1.max0 h2.2
  have hk := okKs_ans hm.1 (h1.kept t) h3
  rw [applyS, if_neg (by simp [h])]
  exact ⟨hm.1, hm.2, hk.len, hk.ok, hk.rise⟩
theorem okSto_none : OkSto ⟨0, []⟩ := ⟨by simp, by simp, by simp, fun e he => by simp at he, List.Pairwise.nil⟩
end Go.Proofs.YtfnephnecighaaaGreat
