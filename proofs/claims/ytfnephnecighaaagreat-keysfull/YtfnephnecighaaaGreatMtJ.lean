/- Whatever is done, a value may be, or there is none: plain lists alone. -/
import Derived.Test.YtfnephnecighaaaGreatPmJ
import Derived.Test.YtfnephnecighaaaGreatWcJ
namespace Go.Proofs.YtfnephnecighaaaGreat
open Go.RowKit
set_option linter.unusedVariables false
/-- A value that may be, or none. -/
def Well (x : Val) : Prop := x = emptyVal 0 ∨ OkVal x
theorem bytes_empty {a : ByteArray} (h : a.toList.isEmpty = true) : a = ⟨#[]⟩ := by
  apply bytes_ext
  rw [List.isEmpty_iff.1 h]; decide +kernel
theorem none_eq {x : Val} (h : x.none = true) : x = emptyVal 0 := by
  obtain ⟨k, t, n, ps, is, ss⟩ := x
  simp [Val.none, noneN, Val.size] at h
  obtain ⟨⟨⟨rfl, h2⟩, rfl⟩, ⟨rfl, rfl⟩, rfl⟩ := h
  rw [bytes_empty (a := t) (by simp [h2])]; rfl
theorem none_empty : (emptyVal 0).none = true := by decide +kernel
theorem well_of {x : Val} (h : x.none = true ∨ x.none = false ∧ x.fault = 0) : Well x := by
  rcases h with h | ⟨-, h⟩
  · exact .inl (none_eq h)
  · exact .inr (okVal h)
theorem OkVal.not_none {x : Val} (h : OkVal x) : x.none = false := by
  have := h.lo
  simp [Val.none, noneN]; intro h; omega
theorem Well.ref {x : Val} {c : Cmd} (h : Well x) (hc : c.fault = 0) (hs : ofStoreB c.k = false) : refusalI x c = 0 := by
  unfold refusalI
  rcases h with rfl | h
  · rw [if_neg (by rw [none_empty]; simp), if_neg (by simp [hc]), if_neg (by simp [hs])]
  · rw [if_neg (by rw [h.fault]; simp), if_neg (by simp [hc]), if_neg (by simp [hs])]

theorem anyB_nil {α : Type} (pr : α → Bool) : anyB pr [] = false := rfl
theorem anyB_false {α : Type} {pr : α → Bool} {l : List α} : anyB pr l = false ↔ ∀ a ∈ l, pr a = false := by
  unfold anyB; rw [List.any_eq_false]; simp

/-- What a command that may be has. -/
theorem cmd_parts {c : Cmd} (h : c.fault = 0) : isTextB c.txt = true ∧ (hasFieldB c.k = true → isNameB c.fld = true) ∧ isCountB c.n = true ∧ (hasTextB c.k = false → c.txt = ⟨#[]⟩) := by
  unfold Cmd.fault cmdFault at h
  by_cases h1 : c.k < 1 ∨ 22 < c.k
  · rw [if_pos h1] at h; omega
  rw [if_neg h1] at h
  cases h2 : foreignB c.k c.key c.fld c.txt c.n with
  | true => rw [h2, if_pos rfl] at h; omega
  | false =>
    rw [h2, if_neg (by simp)] at h
    cases h3 : partsB c.k c.key c.fld c.txt with
    | false => rw [h3, if_pos rfl] at h; omega
    | true =>
      rw [h3, if_neg (by simp)] at h
      cases h4 : isCountB c.n with
      | false => rw [h4, if_pos rfl] at h; omega
      | true =>
        unfold partsB at h3
        unfold foreignB at h2
        rw [Bool.and_eq_true, Bool.and_eq_true] at h3
        refine ⟨h3.2, fun e => by rw [e] at h3; simpa using h3.1.2, rfl, fun e => ?_⟩
        rw [e] at h2
        simp at h2
        exact bytes_empty (by simp [h2.1.2])

/- Elements of a value that may be. -/
theorem OkVal.parts {x : Val} (h : OkVal x) : isTextB x.text = true ∧ (∀ a ∈ x.pairs, wrongP a = false) ∧ (∀ a ∈ x.items, wrongI a = false) ∧ (∀ a ∈ x.scores, wrongS a = false) ∧ (∀ a ∈ x.scores, wrongN a = false) ∧ isCountB x.count = true := by
  have hs := h.sizes
  have hn := h.numbers
  unfold Val.sizesB at hs
  unfold Val.numbersB at hn
  simp only [Bool.and_eq_true, Bool.not_eq_true'] at hs hn
  exact ⟨hs.2.1.1.1, anyB_false.1 hs.2.1.1.2, anyB_false.1 hs.2.1.2, anyB_false.1 hs.2.2, anyB_false.1 hn.2, hn.1⟩

theorem empty_list : (⟨#[]⟩ : ByteArray).toList = [] := by decide +kernel
theorem text_empty : isTextB ⟨#[]⟩ = true := by decide +kernel
/-- Kinds of elements, made: what is to be shown. -/
theorem ok_hash {l : List (ByteArray × ByteArray)} (h1 : 1 ≤ l.length) (h2 : l.length ≤ 20) (hw : ∀ a ∈ l, wrongP a = false) (ho : l.Pairwise (fun a b => ltP a b = true)) : OkVal ⟨3, ⟨#[]⟩, 0, l, [], []⟩ := by
  refine ⟨by simp, by simp, ?_, ?_, by simp [Val.numbersB, isCountB, anyB], ?_⟩
  · simp [Val.foreign, foreignN]
  · have := anyB_false.2 hw
    have hz : ¬ 20 < l.length := by omega
    have hz1 : ¬ l.length < 1 := by omega
    simp [Val.sizesB, holdsB, Val.size, this, text_empty, anyB_nil, hz, hz1]
    try omega
  · rw [Val.orderB, if_pos rfl]
    exact (rises_pair (lt := ltP) (fun a b c h h' => ltS_trans h h') _).2 ho
theorem ok_list {l : List ByteArray} (h1 : 1 ≤ l.length) (h2 : l.length ≤ 20) (hw : ∀ a ∈ l, wrongI a = false) : OkVal ⟨4, ⟨#[]⟩, 0, [], l, []⟩ := by
  refine ⟨by simp, by simp, ?_, ?_, by simp [Val.numbersB, isCountB, anyB], ?_⟩
  · simp [Val.foreign, foreignN]
  · have := anyB_false.2 hw
    have hz : ¬ 20 < l.length := by omega
    have hz1 : ¬ l.length < 1 := by omega
    simp [Val.sizesB, holdsB, Val.size, this, text_empty, anyB_nil, hz, hz1]
    try omega
  · simp [Val.orderB]
theorem ok_set {l : List ByteArray} (h1 : 1 ≤ l.length) (h2 : l.length ≤ 20) (hw : ∀ a ∈ l, wrongI a = false) (ho : l.Pairwise (fun a b => ltS a b = true)) : OkVal ⟨5, ⟨#[]⟩, 0, [], l, []⟩ := by
  refine ⟨by simp, by simp, ?_, ?_, by simp [Val.numbersB, isCountB, anyB], ?_⟩
  · simp [Val.foreign, foreignN]
  · have := anyB_false.2 hw
    have hz : ¬ 20 < l.length := by omega
    have hz1 : ¬ l.length < 1 := by omega
    simp [Val.sizesB, holdsB, Val.size, this, text_empty, anyB_nil, hz, hz1]
    try omega
  · rw [Val.orderB, if_neg (by simp), if_pos rfl]
    exact (rises_pair (lt := ltS) (fun a b c h h' => ltS_trans h h') _).2 ho

theorem ok_rank {l : List (ByteArray × Int)} (h1 : 1 ≤ l.length) (h2 : l.length ≤ 20) (hw : ∀ a ∈ l, wrongS a = false) (hn : ∀ a ∈ l, wrongN a = false) (ho : l.Pairwise (fun a b => ltSc a b = true)) (hd : (l.map (·.1)).Nodup) : OkVal ⟨6, ⟨#[]⟩, 0, [], [], l⟩ := by
  refine ⟨by simp, by simp, ?_, ?_, ?_, ?_⟩
  · simp [Val.foreign, foreignN]
  · have := anyB_false.2 hw
    have hz : ¬ 20 < l.length := by omega
    have hz1 : ¬ l.length < 1 := by omega
    simp [Val.sizesB, holdsB, Val.size, this, text_empty, anyB_nil, hz, hz1]
    try omega
  · have := anyB_false.2 hn
    simp [Val.numbersB, isCountB, this]
  · rw [Val.orderB, if_neg (by simp), if_neg (by simp), if_pos rfl, Bool.and_eq_true]
    refine ⟨(rises_pair (lt := ltSc) (fun a b c h h' => ltSc_trans h h') _).2 ho, (sorted_rises _).2 ?_⟩
    simpa [Val.names] using hd
theorem OkVal.nodup {x : Val} (h : OkVal x) (hk : x.kind = 6) : (x.scores.map (·.1)).Nodup := by
  obtain ⟨h1, h2, -⟩ := h.rank hk
  have ho := h.order
  rw [Val.orderB, if_neg (by omega), if_neg (by omega), if_pos hk, Bool.and_eq_true] at ho
  have := (sorted_rises _).1 ho.2
  simpa [Val.names, h1, h2] using this

/-- What a value that may be is, by its kind. -/
theorem OkVal.cases {x : Val} (h : OkVal x) :
    (∃ t, isTextB t = true ∧ x = ⟨1, t, 0, [], [], []⟩) ∨ (∃ n, isCountB n = true ∧ x = ⟨2, ⟨#[]⟩, n, [], [], []⟩) ∨
    (∃ l, 1 ≤ l.length ∧ l.length ≤ 20 ∧ (∀ a ∈ l, wrongP a = false) ∧ l.Pairwise (fun a b => ltP a b = true) ∧ x = ⟨3, ⟨#[]⟩, 0, l, [], []⟩) ∨
    (∃ l, 1 ≤ l.length ∧ l.length ≤ 20 ∧ (∀ a ∈ l, wrongI a = false) ∧ x = ⟨4, ⟨#[]⟩, 0, [], l, []⟩) ∨
    (∃ l, 1 ≤ l.length ∧ l.length ≤ 20 ∧ (∀ a ∈ l, wrongI a = false) ∧ l.Pairwise (fun a b => ltS a b = true) ∧ x = ⟨5, ⟨#[]⟩, 0, [], l, []⟩) ∨
    (∃ l, 1 ≤ l.length ∧ l.length ≤ 20 ∧ (∀ a ∈ l, wrongS a = false) ∧ (∀ a ∈ l, wrongN a = false) ∧ l.Pairwise (fun a b => ltSc a b = true) ∧ (l.map (·.1)).Nodup ∧ x = ⟨6, ⟨#[]⟩, 0, [], [], l⟩) := by
  obtain ⟨p1, p2, p3, p4, p5, p6⟩ := h.parts
  have hf := h.foreign
  have h1 := h.lo
  have h2 := h.hi
  have hsz := h.size
  have hone := h.one
  have hh := h.hash
  have hs := h.set
  have hr := h.rank
  have hnd := h.nodup
  obtain ⟨k, t, n, ps, is, ss⟩ := x
  simp only at *
  have hk : k = 1 ∨ k = 2 ∨ k = 3 ∨ k = 4 ∨ k = 5 ∨ k = 6 := by omega
  have et : ∀ {t : ByteArray}, t.toList = [] → t = ⟨#[]⟩ := fun e => bytes_empty (by simp [e])
  rcases hk with rfl | rfl | rfl | rfl | rfl | rfl
  · simp [Val.foreign, foreignN] at hf
    obtain ⟨⟨⟨rfl, rfl⟩, rfl⟩, rfl⟩ := hf
    exact .inl ⟨t, p1, rfl⟩
  · simp [Val.foreign, foreignN] at hf
    obtain ⟨⟨⟨ht, rfl⟩, rfl⟩, rfl⟩ := hf
    exact .inr (.inl ⟨n, p6, by rw [et ht]⟩)
  · simp [Val.foreign, foreignN] at hf
    obtain ⟨⟨⟨ht, rfl⟩, rfl⟩, rfl⟩ := hf
    simp [Val.size] at hsz hone
    exact .inr (.inr (.inl ⟨ps, by omega, hsz, p2, (hh rfl).2.2, by rw [et ht]⟩))
  · simp [Val.foreign, foreignN] at hf
    obtain ⟨⟨⟨ht, rfl⟩, rfl⟩, rfl⟩ := hf
    simp [Val.size] at hsz hone
    exact .inr (.inr (.inr (.inl ⟨is, by omega, hsz, p3, by rw [et ht]⟩)))
  · simp [Val.foreign, foreignN] at hf
    obtain ⟨⟨⟨ht, rfl⟩, rfl⟩, rfl⟩ := hf
    simp [Val.size] at hsz hone
    exact .inr (.inr (.inr (.inr (.inl ⟨is, by omega, hsz, p3, (hs rfl).2.2, by rw [et ht]⟩))))
  · simp [Val.foreign, foreignN] at hf
    obtain ⟨⟨⟨ht, rfl⟩, rfl⟩, rfl⟩ := hf
    simp [Val.size] at hsz hone
    exact .inr (.inr (.inr (.inr (.inr ⟨ss, by omega, hsz, p4, p5, (hr rfl).2.2, hnd rfl, by rw [et ht]⟩))))

/- Lists of elements that may be. -/
def HashL (l : List (ByteArray × ByteArray)) : Prop := l.length ≤ 20 ∧ (∀ a ∈ l, wrongP a = false) ∧ l.Pairwise (fun a b => ltP a b = true)
def ListL (l : List ByteArray) : Prop := l.length ≤ 20 ∧ (∀ a ∈ l, wrongI a = false)
def SetL (l : List ByteArray) : Prop := l.length ≤ 20 ∧ (∀ a ∈ l, wrongI a = false) ∧ l.Pairwise (fun a b => ltS a b = true)
def RankL (l : List (ByteArray × Int)) : Prop := l.length ≤ 20 ∧ (∀ a ∈ l, wrongS a = false) ∧ (∀ a ∈ l, wrongN a = false) ∧ l.Pairwise (fun a b => ltSc a b = true) ∧ (l.map (·.1)).Nodup
abbrev hashX (l : List (ByteArray × ByteArray)) : Val := ⟨3, ⟨#[]⟩, 0, l, [], []⟩
abbrev listX (l : List ByteArray) : Val := ⟨4, ⟨#[]⟩, 0, [], l, []⟩
abbrev setX (l : List ByteArray) : Val := ⟨5, ⟨#[]⟩, 0, [], l, []⟩
abbrev rankX (l : List (ByteArray × Int)) : Val := ⟨6, ⟨#[]⟩, 0, [], [], l⟩
theorem kept_hash {l : List (ByteArray × ByteArray)} (h : HashL l) : Well (keptV (hashX l)) := by
  unfold keptV
  by_cases h0 : l = []
  · subst h0; exact .inl rfl
  · have : 1 ≤ l.length := by cases l; exact absurd rfl h0; simp
    rw [if_neg (by simp [holdsB, Val.size, h0])]
    exact .inr (ok_hash this h.1 h.2.1 h.2.2)
theorem kept_list {l : List ByteArray} (h : ListL l) : Well (keptV (listX l)) := by
  unfold keptV
  by_cases h0 : l = []
  · subst h0; exact .inl rfl
  · have : 1 ≤ l.length := by cases l; exact absurd rfl h0; simp
    rw [if_neg (by simp [holdsB, Val.size, h0])]
    exact .inr (ok_list this h.1 h.2)
theorem kept_set {l : List ByteArray} (h : SetL l) : Well (keptV (setX l)) := by
  unfold keptV
  by_cases h0 : l = []
  · subst h0; exact .inl rfl
  · have : 1 ≤ l.length := by cases l; exact absurd rfl h0; simp
    rw [if_neg (by simp [holdsB, Val.size, h0])]
    exact .inr (ok_set this h.1 h.2.1 h.2.2)
theorem kept_rank {l : List (ByteArray × Int)} (h : RankL l) : Well (keptV (rankX l)) := by
  unfold keptV
  by_cases h0 : l = []
  · subst h0; exact .inl rfl
  · have : 1 ≤ l.length := by cases l; exact absurd rfl h0; simp
    rw [if_neg (by simp [holdsB, Val.size, h0])]
    exact .inr (ok_rank this h.1 h.2.1 h.2.2.1 h.2.2.2.1 h.2.2.2.2)

theorem length_layAt {α : Type} (l : List α) (p : Nat) (x : α) : (layAt l p x).length = l.length + 1 := by
  unfold layAt; simp; omega
theorem length_cutAt {α : Type} {l : List α} {p : Nat} (h : p < l.length) : (cutAt l p).length = l.length - 1 := by
  unfold cutAt; simp; omega
theorem length_cutAt_le {α : Type} (l : List α) (p : Nat) : (cutAt l p).length ≤ l.length := by
  unfold cutAt; simp; omega
theorem perm_layAt {α : Type} (l : List α) (p : Nat) (x : α) : (layAt l p x).Perm (x :: l) := by
  unfold layAt
  have := List.perm_middle (a := x) (l₁ := l.take p) (l₂ := l.drop p)
  rwa [List.take_append_drop] at this
theorem mem_layAt {α : Type} {l : List α} {p : Nat} {x y : α} : y ∈ layAt l p x ↔ y = x ∨ y ∈ l := by
  rw [(perm_layAt l p x).mem_iff, List.mem_cons]
theorem mem_cutAt {α : Type} {l : List α} {p : Nat} {y : α} (h : y ∈ cutAt l p) : y ∈ l := mem_delete h
theorem sub_cutAt {α : Type} (l : List α) (p : Nat) : (cutAt l p).Sublist l := by
  unfold cutAt
  conv => rhs; rw [← List.take_append_drop p l]
  exact List.Sublist.append (List.Sublist.refl _) (by rw [← List.drop_drop]; exact List.drop_sublist 1 _)

theorem hash_lay {l : List (ByteArray × ByteArray)} {f t : ByteArray} (h : HashL l) (hl : l.length < 20) (hh : hitB (cmF f) l (posOf (cmF f) l) = false) (hf : isNameB f = true) (ht : isTextB t = true) : HashL (layAt l (posOf (cmF f) l) (f, t)) := by
  refine ⟨by rw [length_layAt]; omega, fun a ha => ?_, ?_⟩
  · rcases mem_layAt.1 ha with rfl | ha
    · simp [wrongP, hf, ht]
    · exact h.2.1 a ha
  · have hp := parts_fld f l h.2.2
    refine pair_insert h.2.2 (fun a ha => ?_) (fun a ha => ?_)
    · have := (parts_take hp).1 a ha
      rw [cmpS_lt] at this; exact this
    · have := parts_above (lt := ltP) (cm := cmF f) (fun a b hab ha => by rw [cmpS_gt] at ha ⊢; exact ltS_trans ha hab) h.2.2 hp hh a ha
      rw [cmpS_gt] at this; exact this
theorem hash_lay_old {l : List (ByteArray × ByteArray)} {f t : ByteArray} (h : HashL l) (hh : hitB (cmF f) l (posOf (cmF f) l) = true) (hf : isNameB f = true) (ht : isTextB t = true) : HashL (l.set (posOf (cmF f) l) (f, t)) := by
  obtain ⟨hp, he⟩ := hit_some hh
  rw [cmpS_eq] at he
  refine ⟨by simpa using h.1, fun a ha => ?_, ?_⟩
  · rcases List.mem_or_eq_of_mem_set ha with ha | rfl
    · exact h.2.1 a ha
    · simp [wrongP, hf, ht]
  · have := pair_set (R := fun a b => ltS a b = true) (fun q : ByteArray × ByteArray => q.1) (x := (f, t)) (List.pairwise_map.2 h.2.2) hp he.symm
    exact List.pairwise_map.1 this
theorem hash_cut {l : List (ByteArray × ByteArray)} (h : HashL l) (p : Nat) : HashL (cutAt l p) :=
  ⟨Nat.le_trans (length_cutAt_le l p) h.1, fun a ha => h.2.1 a (mem_cutAt ha), h.2.2.sublist (sub_cutAt l p)⟩
theorem list_lay {l : List ByteArray} {t : ByteArray} (h : ListL l) (hl : l.length < 20) (p : Nat) (ht : isTextB t = true) : ListL (layAt l p t) := by
  refine ⟨by rw [length_layAt]; omega, fun a ha => ?_⟩
  rcases mem_layAt.1 ha with rfl | ha
  · simp [wrongI, ht]
  · exact h.2 a ha
theorem list_cut {l : List ByteArray} (h : ListL l) (p : Nat) : ListL (cutAt l p) := ⟨Nat.le_trans (length_cutAt_le l p) h.1, fun a ha => h.2 a (mem_cutAt ha)⟩
theorem set_lay {l : List ByteArray} {t : ByteArray} (h : SetL l) (hl : l.length < 20) (hh : hitB (cmT t) l (posOf (cmT t) l) = false) (ht : isTextB t = true) : SetL (layAt l (posOf (cmT t) l) t) := by
  refine ⟨by rw [length_layAt]; omega, fun a ha => ?_, ?_⟩
  · rcases mem_layAt.1 ha with rfl | ha
    · simp [wrongI, ht]
    · exact h.2.1 a ha
  · have hp := parts_txt t l h.2.2
    refine pair_insert h.2.2 (fun a ha => ?_) (fun a ha => ?_)
    · have := (parts_take hp).1 a ha
      rw [cmpS_lt] at this; exact this
    · have := parts_above (lt := ltS) (cm := cmT t) (fun a b hab ha => by rw [cmpS_gt] at ha ⊢; exact ltS_trans ha hab) h.2.2 hp hh a ha
      rw [cmpS_gt] at this; exact this
theorem set_cut {l : List ByteArray} (h : SetL l) (p : Nat) : SetL (cutAt l p) :=
  ⟨Nat.le_trans (length_cutAt_le l p) h.1, fun a ha => h.2.1 a (mem_cutAt ha), h.2.2.sublist (sub_cutAt l p)⟩
theorem rank_cut {l : List (ByteArray × Int)} (h : RankL l) (p : Nat) : RankL (cutAt l p) :=
  ⟨Nat.le_trans (length_cutAt_le l p) h.1, fun a ha => h.2.1 a (mem_cutAt ha), fun a ha => h.2.2.1 a (mem_cutAt ha), h.2.2.2.1.sublist (sub_cutAt l p), h.2.2.2.2.sublist ((sub_cutAt l p).map _)⟩
theorem isMember_iff (t : ByteArray) (q : ByteArray × Int) : isMember t q = true ↔ q.1 = t := by
  unfold isMember
  constructor
  · intro h; exact bytes_ext (by simpa using h)
  · intro h; simp [h]
theorem cmpSc_cases (a b : ByteArray × Int) : (cmpSc a b < 0 ∧ ltSc a b = true) ∨ (cmpSc a b = 0 ∧ a = b) ∨ (0 < cmpSc a b ∧ ltSc b a = true) := by
  by_cases h : a.2 = b.2
  · have e : cmpSc a b = cmpS a.1 b.1 := by unfold cmpSc; rw [if_pos h]
    have l1 : ltSc a b = true ↔ ltS a.1 b.1 = true := by rw [ltSc_iff]; constructor; (rintro (h' | h'); omega; exact h'.2); (intro h'; exact .inr ⟨h, h'⟩)
    have l2 : ltSc b a = true ↔ ltS b.1 a.1 = true := by rw [ltSc_iff]; constructor; (rintro (h' | h'); omega; exact h'.2); (intro h'; exact .inr ⟨h.symm, h'⟩)
    rw [e, l1, l2]
    rcases cmpS_cases a.1 b.1 with ⟨h1, h2⟩ | ⟨h1, h2⟩ | ⟨h1, h2⟩
    · exact .inl ⟨by omega, h2⟩
    · exact .inr (.inl ⟨h1, by cases a; cases b; simp_all⟩)
    · exact .inr (.inr ⟨by omega, h2⟩)
  · have e : cmpSc a b = cmpI a.2 b.2 := by unfold cmpSc; rw [if_neg h]
    rw [e, ltSc_iff, ltSc_iff]
    unfold cmpI
    by_cases h1 : a.2 < b.2
    · rw [if_pos h1]; exact .inl ⟨by omega, .inl h1⟩
    · rw [if_neg h1, if_pos (by omega)]; exact .inr (.inr ⟨by omega, .inl (by omega)⟩)
theorem cmpSc_gt (a b : ByteArray × Int) : 0 < cmpSc a b ↔ ltSc b a = true := by
  rcases cmpSc_cases a b with ⟨h, e⟩ | ⟨h, e⟩ | ⟨h, e⟩
  · constructor
    · intro h'; omega
    · intro h'; have := ltSc_trans e h'; rw [ltSc_irrefl] at this; cases this
  · subst e; rw [ltSc_irrefl]; simp [h]
  · exact ⟨fun _ => e, fun _ => h⟩
theorem rank_miss {l : List (ByteArray × Int)} {t : ByteArray} {n : Int} (hd : t ∉ l.map (·.1)) (p : Nat) : hitB (cmZ (t, n)) l p = false := by
  cases hh : hitB (cmZ (t, n)) l p with
  | false => rfl
  | true =>
    obtain ⟨hp, he⟩ := hit_some hh
    rcases cmpSc_cases l[p] (t, n) with h | ⟨-, h⟩ | h
    · simp only [cmZ] at he; omega
    · exact absurd (List.mem_map.2 ⟨l[p], List.getElem_mem hp, by rw [h]⟩) hd
    · simp only [cmZ] at he; omega
theorem rank_lay {l : List (ByteArray × Int)} {t : ByteArray} {n : Int} (h : RankL l) (hl : l.length < 20) (hd : t ∉ l.map (·.1)) (ht : isTextB t = true) (hn : isCountB n = true) : RankL (layAt l (posOf (cmZ (t, n)) l) (t, n)) := by
  refine ⟨by rw [length_layAt]; omega, fun a ha => ?_, fun a ha => ?_, ?_, ?_⟩
  · rcases mem_layAt.1 ha with rfl | ha
    · simp [wrongS, ht]
    · exact h.2.1 a ha
  · rcases mem_layAt.1 ha with rfl | ha
    · simp [wrongN, hn]
    · exact h.2.2.1 a ha
  · have hp := parts_sc (t, n) l h.2.2.2.1
    refine pair_insert h.2.2.2.1 (fun a ha => ?_) (fun a ha => ?_)
    · have := (parts_take hp).1 a ha
      rw [cmpSc_neg] at this; exact this
    · have := parts_above (lt := ltSc) (cm := cmZ (t, n)) (fun a b hab ha => by rw [cmpSc_gt] at ha ⊢; exact ltSc_trans ha hab) h.2.2.2.1 hp (rank_miss hd _) a ha
      rw [cmpSc_gt] at this; exact this
  · have := (perm_layAt l (posOf (cmZ (t, n)) l) (t, n)).map (·.1)
    rw [this.nodup_iff, List.map_cons, List.nodup_cons]
    exact ⟨hd, h.2.2.2.2⟩
theorem cut_not {l : List (ByteArray × Int)} {t : ByteArray} {i : Nat} (hd : (l.map (·.1)).Nodup) (hi : l.findIdx? (isMember t) = some i) : t ∉ (cutAt l i).map (·.1) := by
  rw [List.findIdx?_eq_some_iff_getElem] at hi
  obtain ⟨hl, hm, -⟩ := hi
  rw [isMember_iff] at hm
  have hs : l = l.take i ++ l[i] :: l.drop (i + 1) := by rw [← List.drop_eq_getElem_cons hl, List.take_append_drop]
  rw [hs, List.map_append, List.map_cons, List.nodup_append] at hd
  obtain ⟨-, h2, h3⟩ := hd
  rw [List.nodup_cons] at h2
  unfold cutAt
  rw [List.map_append, List.mem_append]
  rintro (h | h)
  · exact h3 _ h _ (by simp) hm.symm
  · exact h2.1 (by rw [hm]; exact h)
theorem find_not {l : List (ByteArray × Int)} {t : ByteArray} (hi : l.findIdx? (isMember t) = none) : t ∉ l.map (·.1) := by
  rw [List.findIdx?_eq_none_iff] at hi
  intro h
  obtain ⟨a, ha, e⟩ := List.mem_map.1 h
  have := hi a ha
  rw [(isMember_iff t a).2 e] at this; cases this

theorem size_hash (l : List (ByteArray × ByteArray)) : (hashX l).size = l.length := by simp [Val.size]
theorem size_list (l : List ByteArray) : (listX l).size = l.length := by simp [Val.size]
theorem size_set (l : List ByteArray) : (setX l).size = l.length := by simp [Val.size]
theorem size_rank (l : List (ByteArray × Int)) : (rankX l).size = l.length := by simp [Val.size]
theorem hashV_well {l : List (ByteArray × ByteArray)} {c : Cmd} (h : HashL l) (hc : c.fault = 0) (hk : c.k = 4 ∨ c.k = 5 ∨ c.k = 6) : ∃ l', (hashV (hashX l) c).1 = hashX l' ∧ HashL l' := by
  obtain ⟨ht, hf, -⟩ := cmd_parts hc
  have hf := hf (by rcases hk with hk | hk | hk <;> simp [hasFieldB, hk])
  unfold hashV
  rw [size_hash]
  cases hh : hitB (cmF c.fld) (hashX l).pairs (posOf (cmF c.fld) (hashX l).pairs) with
  | true =>
    rw [if_pos rfl]
    by_cases h4 : c.k = 4
    · rw [if_pos h4]; exact ⟨_, rfl, hash_lay_old h hh hf ht⟩
    by_cases h5 : c.k = 5
    · rw [if_neg h4, if_pos h5]; exact ⟨l, rfl, h⟩
    · rw [if_neg h4, if_neg h5]; exact ⟨_, rfl, hash_cut h _⟩
  | false =>
    rw [if_neg (by simp)]
    by_cases h4 : c.k = 4
    · rw [if_pos h4]
      by_cases hl : 20 ≤ l.length
      · rw [if_pos hl]; exact ⟨l, rfl, h⟩
      · rw [if_neg hl]; exact ⟨_, rfl, hash_lay h (show l.length < 20 by omega) hh hf ht⟩
    by_cases h5 : c.k = 5
    · rw [if_neg h4, if_pos h5]; exact ⟨l, rfl, h⟩
    · rw [if_neg h4, if_neg h5]; exact ⟨l, rfl, h⟩
theorem listV_well {l : List ByteArray} {c : Cmd} (h : ListL l) (hc : c.fault = 0) : ∃ l', (listV (listX l) c).1 = listX l' ∧ ListL l' := by
  obtain ⟨ht, -⟩ := cmd_parts hc
  unfold listV
  rw [size_list]
  by_cases h7 : c.k = 7
  · rw [if_pos h7]
    by_cases hl : 20 ≤ l.length
    · rw [if_pos hl]; exact ⟨l, rfl, h⟩
    · rw [if_neg hl]; exact ⟨_, rfl, list_lay h (by omega) _ ht⟩
  by_cases h8 : c.k = 8
  · rw [if_neg h7, if_pos h8]
    by_cases hl : 20 ≤ l.length
    · rw [if_pos hl]; exact ⟨l, rfl, h⟩
    · rw [if_neg hl]; exact ⟨_, rfl, list_lay h (by omega) _ ht⟩
  by_cases h9 : c.k = 9
  · rw [if_neg h7, if_neg h8, if_pos h9]; exact ⟨_, rfl, list_cut h _⟩
  · rw [if_neg h7, if_neg h8, if_neg h9]; exact ⟨_, rfl, list_cut h _⟩
theorem setV_well {l : List ByteArray} {c : Cmd} (h : SetL l) (hc : c.fault = 0) : ∃ l', (setV (setX l) c).1 = setX l' ∧ SetL l' := by
  obtain ⟨ht, -⟩ := cmd_parts hc
  unfold setV
  rw [size_set]
  cases hh : hitB (cmT c.txt) (setX l).items (posOf (cmT c.txt) (setX l).items) with
  | true =>
    rw [if_pos rfl]
    by_cases h11 : c.k = 11
    · rw [if_pos h11]; exact ⟨l, rfl, h⟩
    by_cases h12 : c.k = 12
    · rw [if_neg h11, if_pos h12]; exact ⟨_, rfl, set_cut h _⟩
    · rw [if_neg h11, if_neg h12]; exact ⟨l, rfl, h⟩
  | false =>
    rw [if_neg (by simp)]
    by_cases h11 : c.k = 11
    · rw [if_pos h11]
      by_cases hl : 20 ≤ l.length
      · rw [if_pos hl]; exact ⟨l, rfl, h⟩
      · rw [if_neg hl]; exact ⟨_, rfl, set_lay h (show l.length < 20 by omega) hh ht⟩
    · rw [if_neg h11]; exact ⟨l, rfl, h⟩
theorem rankV_well {l : List (ByteArray × Int)} {c : Cmd} (h : RankL l) (hc : c.fault = 0) : ∃ l', (rankV (rankX l) c).1 = rankX l' ∧ RankL l' := by
  obtain ⟨ht, -, hn, -⟩ := cmd_parts hc
  unfold rankV
  rw [size_rank]
  cases hi : l.findIdx? (isMember c.txt) with
  | some i =>
    have hil : i < l.length := (List.findIdx?_eq_some_iff_getElem.1 hi).1
    simp only
    by_cases h14 : c.k = 14
    · rw [if_pos h14]
      have h' := rank_cut h i
      have hl' : (cutAt l i).length < 20 := by rw [length_cutAt hil]; have := h.1; omega
      exact ⟨_, rfl, rank_lay h' hl' (cut_not h.2.2.2.2 hi) ht hn⟩
    by_cases h15 : c.k = 15
    · rw [if_neg h14, if_pos h15]; exact ⟨_, rfl, rank_cut h _⟩
    · rw [if_neg h14, if_neg h15]; exact ⟨l, rfl, h⟩
  | none =>
    simp only
    by_cases h14 : c.k = 14
    · rw [if_pos h14]
      by_cases hl : 20 ≤ l.length
      · rw [if_pos hl]; exact ⟨l, rfl, h⟩
      · rw [if_neg hl]; exact ⟨_, rfl, rank_lay h (by omega) (find_not hi) ht hn⟩
    by_cases h15 : c.k = 15
    · rw [if_neg h14, if_pos h15]; exact ⟨l, rfl, h⟩
    · rw [if_neg h14, if_neg h15]; exact ⟨l, rfl, h⟩
theorem kept_small {y : Val} (h : holdsB y.kind = false) : keptV y = y := by unfold keptV; rw [h]; simp
theorem ok_text {t : ByteArray} (h : isTextB t = true) : OkVal ⟨1, t, 0, [], [], []⟩ := by
  refine ⟨by simp, by simp, by simp [Val.foreign, foreignN], ?_, by simp [Val.numbersB, isCountB, anyB], by simp [Val.orderB]⟩
  simp [Val.sizesB, holdsB, h, anyB]
theorem ok_count {n : Int} (h : isCountB n = true) : OkVal ⟨2, ⟨#[]⟩, n, [], [], []⟩ := by
  refine ⟨by simp, by simp, by simp [Val.foreign, foreignN], ?_, by simp [Val.numbersB, h, anyB], by simp [Val.orderB]⟩
  simp [Val.sizesB, holdsB, text_empty, anyB]

/-- Whatever is done, a value may be, or there is none. -/
theorem doV_well {x : Val} (c : Cmd) (h : Well x) : Well (doV x c) := by
  unfold doV
  by_cases hr : refusalI x c ≠ 0
  · rw [if_pos hr]; exact .inl rfl
  rw [if_neg hr]
  obtain ⟨-, hc, hs⟩ := of_refusal (show refusalI x c = 0 by omega)
  by_cases hcode : (answerV x c).2.code ≠ 0
  · rw [if_pos hcode]; exact h
  rw [if_neg hcode]
  obtain ⟨ht, hf, hn, -⟩ := cmd_parts hc
  have hst : ¬ (c.k = 19 ∨ c.k = 20 ∨ c.k = 21 ∨ c.k = 22) := by simpa [ofStoreB] using hs
  unfold answerV at hcode ⊢
  rcases h with rfl | h
  · rw [none_empty, if_pos rfl] at hcode ⊢
    cases hm : makesB c.k with
    | false => rw [hm, if_neg (by simp)] at hcode; exact absurd (by decide) hcode
    | true =>
      rw [hm, if_pos rfl] at hcode
      rw [if_pos rfl]
      have hk : c.k = 1 ∨ c.k = 3 ∨ c.k = 4 ∨ c.k = 7 ∨ c.k = 8 ∨ c.k = 11 ∨ c.k = 14 := by simpa [makesB] using hm
      rcases hk with hk | hk | hk | hk | hk | hk | hk
      · simp only [performV, hk, if_pos]
        rw [kept_small (by simp [emptyVal, holdsB])]
        exact .inr (ok_text ht)
      · simp only [performV, hk, kindOfI] at hcode ⊢
        simp [addV, emptyVal, hn]
        rw [kept_small (by simp [holdsB])]
        exact .inr (ok_count hn)
      · obtain ⟨l', e, hl⟩ := hashV_well (l := []) (c := c) ⟨by simp, by simp, List.Pairwise.nil⟩ hc (.inl hk)
        have : (performV (emptyVal (kindOfI c.k)) c).1 = hashX l' := by rw [← e]; simp [performV, hk, kindOfI, emptyVal]
        rw [this]; exact kept_hash hl
      · obtain ⟨l', e, hl⟩ := listV_well (l := []) (c := c) ⟨by simp, by simp⟩ hc
        have : (performV (emptyVal (kindOfI c.k)) c).1 = listX l' := by rw [← e]; simp [performV, hk, kindOfI, emptyVal]
        rw [this]; exact kept_list hl
      · obtain ⟨l', e, hl⟩ := listV_well (l := []) (c := c) ⟨by simp, by simp⟩ hc
        have : (performV (emptyVal (kindOfI c.k)) c).1 = listX l' := by rw [← e]; simp [performV, hk, kindOfI, emptyVal]
        rw [this]; exact kept_list hl
      · obtain ⟨l', e, hl⟩ := setV_well (l := []) (c := c) ⟨by simp, by simp, List.Pairwise.nil⟩ hc
        have : (performV (emptyVal (kindOfI c.k)) c).1 = setX l' := by rw [← e]; simp [performV, hk, kindOfI, emptyVal]
        rw [this]; exact kept_set hl
      · obtain ⟨l', e, hl⟩ := rankV_well (l := []) (c := c) ⟨by simp, by simp, by simp, List.Pairwise.nil, by simp⟩ hc
        have : (performV (emptyVal (kindOfI c.k)) c).1 = rankX l' := by rw [← e]; simp [performV, hk, kindOfI, emptyVal]
        rw [this]; exact kept_rank hl
  · rw [h.not_none, if_neg (by simp)] at hcode ⊢
    have keep : keptV x = x := by
      unfold keptV
      by_cases hh : holdsB x.kind = true
      · have := h.one (by simp [holdsB] at hh; omega)
        rw [if_neg (by simp; intro _; omega)]
      · rw [if_neg (by simp [hh])]
    cases hm : fitsB x.kind c.k with
    | false => rw [if_neg (by simp)]; show Well (keptV x); rw [keep]; exact .inr h
    | true =>
      rw [hm, if_pos rfl] at hcode
      rw [if_pos rfl]
      by_cases h1 : c.k = 1
      · simp only [performV, h1, if_pos]
        rw [kept_small (by simp [emptyVal, holdsB])]
        exact .inr (ok_text ht)
      by_cases h2 : c.k = 2
      · simp only [performV, h2]; simp; rw [keep]; exact .inr h
      by_cases h17 : c.k = 17
      · simp only [performV, h17]; simp; rw [keep]; exact .inr h
      by_cases h18 : c.k = 18
      · simp only [performV, h18]; simp; rw [keep]; exact .inr h
      have hkk : x.kind = kindOfI c.k := by
        unfold fitsB at hm
        rw [if_neg h1, if_neg (by omega)] at hm
        simpa using hm
      by_cases h3 : c.k = 3
      · have e2 : x.kind = 2 := by rw [hkk, h3]; rfl
        rcases h.cases with ⟨t, -, rfl⟩ | ⟨n, hn', rfl⟩ | ⟨l, -, -, -, -, rfl⟩ | ⟨l, -, -, -, rfl⟩ | ⟨l, -, -, -, -, rfl⟩ | ⟨l, -, -, -, -, -, -, rfl⟩ <;> simp at e2
        simp only [performV, h3] at hcode ⊢
        simp only [addV] at hcode ⊢
        by_cases hb : isCountB (n + c.n) = true
        · simp [hb]
          rw [kept_small (by simp [holdsB])]
          exact .inr (ok_count hb)
        · simp [hb]
          rw [keep]; exact .inr h
      have hp : performV x c = if x.kind = 3 then hashV x c else if x.kind = 4 then listV x c else if x.kind = 5 then setV x c else rankV x c := by
        unfold performV; rw [if_neg h1, if_neg h2, if_neg h3, if_neg h17, if_neg h18]
      rw [hp] at hcode ⊢
      have hlo := (okCmd hc).lo
      have hhi := (okCmd hc).hi
      have hkc : (x.kind = 3 → c.k = 4 ∨ c.k = 5 ∨ c.k = 6) := by
        intro e; rw [e] at hkk; unfold kindOfI at hkk
        rw [if_neg (by omega), if_neg h3] at hkk
        by_cases a : 4 ≤ c.k ∧ c.k ≤ 6
        · omega
        · rw [if_neg a] at hkk; repeat' split at hkk
          all_goals omega
      have hk12 : x.kind ≠ 1 ∧ x.kind ≠ 2 := by
        rw [hkk]; unfold kindOfI
        rw [if_neg (by omega), if_neg h3]
        repeat' split
        all_goals omega
      rcases h.cases with ⟨t, -, rfl⟩ | ⟨n, hn', rfl⟩ | ⟨l, a1, a2, a3, a4, rfl⟩ | ⟨l, a1, a2, a3, rfl⟩ | ⟨l, a1, a2, a3, a4, rfl⟩ | ⟨l, a1, a2, a3, a4, a5, a6, rfl⟩
      · exact absurd rfl hk12.1
      · exact absurd rfl hk12.2
      · rw [if_pos rfl]
        obtain ⟨l', e, hl⟩ := hashV_well (c := c) ⟨a2, a3, a4⟩ hc (hkc rfl)
        rw [e]; exact kept_hash hl
      · rw [if_neg (by simp), if_pos rfl]
        obtain ⟨l', e, hl⟩ := listV_well (c := c) ⟨a2, a3⟩ hc
        rw [e]; exact kept_list hl
      · rw [if_neg (by simp), if_neg (by simp), if_pos rfl]
        obtain ⟨l', e, hl⟩ := setV_well (c := c) ⟨a2, a3, a4⟩ hc
        rw [e]; exact kept_set hl
      · rw [if_neg (by simp), if_neg (by simp), if_neg (by simp)]
        obtain ⟨l', e, hl⟩ := rankV_well (c := c) ⟨a2, a3, a4, a5, a6⟩ hc
        rw [e]; exact kept_rank hl
end Go.Proofs.YtfnephnecighaaaGreat

/- What a command makes of nothing, or of a value of its kind: plain lists alone. -/
namespace Go.Proofs.YtfnephnecighaaaGreat
open Go.RowKit
set_option linter.unusedVariables false
theorem Well.ok {x : Val} (h : Well x) (hk : x.kind ≠ 0) : OkVal x := by
  rcases h with rfl | h
  · exact absurd rfl hk
  · exact h
theorem kept_kind {y : Val} (h : holdsB y.kind = true → 1 ≤ y.size) : keptV y = y := by
  unfold keptV
  by_cases hh : holdsB y.kind = true
  · rw [if_neg (by have := h hh; simp; intro _; omega)]
  · rw [if_neg (by simp [hh])]
theorem hashV_made (l : List (ByteArray × ByteArray)) (c : Cmd) (h4 : c.k = 4) : (hashV (hashX l) c).2.code ≠ 0 ∨ ((hashV (hashX l) c).1.kind = 3 ∧ 1 ≤ (hashV (hashX l) c).1.size) := by
  unfold hashV
  rw [size_hash]
  cases hh : hitB (cmF c.fld) (hashX l).pairs (posOf (cmF c.fld) (hashX l).pairs) with
  | true =>
    obtain ⟨hp, -⟩ := hit_some hh
    rw [if_pos rfl, if_pos h4]
    right
    refine ⟨rfl, ?_⟩
    have hp' : posOf (cmF c.fld) l < l.length := hp
    simp [Val.size]; omega
  | false =>
    rw [if_neg (by simp), if_pos h4]
    by_cases hl : 20 ≤ l.length
    · rw [if_pos hl]; left; simp
    · rw [if_neg hl]; right; exact ⟨rfl, by simp [Val.size, length_layAt]⟩
theorem listV_made (l : List ByteArray) (c : Cmd) (h7 : c.k = 7 ∨ c.k = 8) : (listV (listX l) c).2.code ≠ 0 ∨ ((listV (listX l) c).1.kind = 4 ∧ 1 ≤ (listV (listX l) c).1.size) := by
  unfold listV
  rw [size_list]
  rcases h7 with h7 | h8
  · rw [if_pos h7]
    by_cases hl : 20 ≤ l.length
    · rw [if_pos hl]; left; simp
    · rw [if_neg hl]; right; exact ⟨rfl, by simp [Val.size, length_layAt]⟩
  · rw [if_neg (by omega), if_pos h8]
    by_cases hl : 20 ≤ l.length
    · rw [if_pos hl]; left; simp
    · rw [if_neg hl]; right; exact ⟨rfl, by simp [Val.size, length_layAt]⟩
theorem setV_made (l : List ByteArray) (c : Cmd) (h : c.k = 11) : (setV (setX l) c).2.code ≠ 0 ∨ ((setV (setX l) c).1.kind = 5 ∧ 1 ≤ (setV (setX l) c).1.size) := by
  unfold setV
  rw [size_set]
  cases hh : hitB (cmT c.txt) (setX l).items (posOf (cmT c.txt) (setX l).items) with
  | true =>
    obtain ⟨hp, -⟩ := hit_some hh
    rw [if_pos rfl, if_pos h]
    right
    refine ⟨rfl, ?_⟩
    have hp' : posOf (cmT c.txt) l < l.length := hp
    simp [Val.size]; omega
  | false =>
    rw [if_neg (by simp), if_pos h]
    by_cases hl : 20 ≤ l.length
    · rw [if_pos hl]; left; simp
    · rw [if_neg hl]; right; exact ⟨rfl, by simp [Val.size, length_layAt]⟩
theorem rankV_made (l : List (ByteArray × Int)) (c : Cmd) (h : c.k = 14) : (rankV (rankX l) c).2.code ≠ 0 ∨ ((rankV (rankX l) c).1.kind = 6 ∧ 1 ≤ (rankV (rankX l) c).1.size) := by
  unfold rankV
  rw [size_rank]
  cases hi : l.findIdx? (isMember c.txt) with
  | some i =>
    simp only
    rw [if_pos h]; right; exact ⟨rfl, by simp [Val.size, length_layAt]⟩
  | none =>
    simp only
    rw [if_pos h]
    by_cases hl : 20 ≤ l.length
    · rw [if_pos hl]; left; simp
    · rw [if_neg hl]; right; exact ⟨rfl, by simp [Val.size, length_layAt]⟩

theorem addV_code {x : Val} {n : Int} : (addV x n).2.code ≠ 0 ∨ ((addV x n).1.kind = x.kind) := by
  unfold addV
  by_cases h : isCountB (x.count + n) = true
  · rw [if_pos h]; exact .inr rfl
  · rw [if_neg h]; left; simp

/-- What a command makes of nothing, or of a value of its kind, is of its kind. -/
theorem doV_made {x : Val} {c : Cmd} (hc : c.fault = 0) (hm : makesB c.k = true) (hx : x = emptyVal 0 ∨ (OkVal x ∧ x.kind = kindOfI c.k)) : OkVal (doV x c) ∧ (doV x c).kind = kindOfI c.k := by
  have hw : Well x := by rcases hx with h | h; exact .inl h; exact .inr h.1
  have hk : c.k = 1 ∨ c.k = 3 ∨ c.k = 4 ∨ c.k = 7 ∨ c.k = 8 ∨ c.k = 11 ∨ c.k = 14 := by simpa [makesB] using hm
  have hs : ofStoreB c.k = false := by simp [ofStoreB]; omega
  have hr := hw.ref hc hs
  have hpos : kindOfI c.k ≠ 0 := by rcases hk with h | h | h | h | h | h | h <;> rw [h] <;> decide
  have key : (doV x c).kind = kindOfI c.k := by
    unfold doV
    rw [if_neg (by omega)]
    obtain ⟨ht, hf, hn, -⟩ := cmd_parts hc
    have fin : ∀ y : Val × Rep, answerV x c = y → (y.2.code = 0 → y.1.kind = kindOfI c.k ∧ (holdsB y.1.kind = true → 1 ≤ y.1.size)) → (x = emptyVal 0 → y.2.code = 0) → (if (answerV x c).2.code ≠ 0 then x else keptV (answerV x c).1).kind = kindOfI c.k := by
      intro y hy h1 h2
      rw [hy]
      by_cases h0 : y.2.code = 0
      · rw [if_neg (by simp [h0]), kept_kind (h1 h0).2]; exact (h1 h0).1
      · rw [if_pos h0]
        rcases hx with hx | hx
        · exact absurd (h2 hx) h0
        · exact hx.2
    have ex : ∀ k, c.k = k → k = 3 ∨ k = 4 ∨ k = 7 ∨ k = 8 ∨ k = 11 ∨ k = 14 → answerV x c = performV (if x.none = true then emptyVal (kindOfI c.k) else x) c := by
      intro k hk' h
      unfold answerV
      rcases hx with rfl | ⟨ho, hkk⟩
      · simp only [none_empty, if_pos, hm]
      · have hf : fitsB x.kind c.k = true := by unfold fitsB; rw [if_neg (by omega), if_neg (by omega)]; simpa using hkk
        simp only [ho.not_none, hf, if_pos]; simp
    rcases hk with hk | hk | hk | hk | hk | hk | hk
    · refine fin ({ emptyVal 1 with text := c.txt }, {}) ?_ (fun _ => ⟨by rw [hk]; rfl, fun h => by simp [emptyVal, holdsB] at h⟩) (fun _ => rfl)
      unfold answerV
      rcases hx with rfl | ⟨ho, -⟩
      · rw [none_empty, if_pos rfl, hm, if_pos rfl]; simp [performV, hk]
      · rw [ho.not_none, if_neg (by simp), if_pos (by simp [fitsB, hk])]; simp [performV, hk]
    · have e := ex 3 hk (by omega)
      refine fin _ e ?_ ?_
      · rcases hx with rfl | ⟨ho, hkk⟩
        · rw [if_pos none_empty]; simp [performV, hk, kindOfI, addV, emptyVal, hn, holdsB]
        · rw [if_neg (by rw [ho.not_none]; simp)]
          have hk2 : x.kind = 2 := by rw [hkk, hk]; rfl
          have e2 : performV x c = addV x c.n := by simp [performV, hk]
          rw [e2, hk]
          intro h0
          rcases addV_code (x := x) (n := c.n) with h | h
          · exact absurd h0 h
          · rw [h, hk2]; exact ⟨rfl, fun h => by simp [holdsB] at h⟩
      · rintro rfl; rw [if_pos none_empty]; simp [performV, hk, kindOfI, addV, emptyVal, hn]
    · have e := ex 4 hk (by omega)
      have hform : ∃ l, (if x.none = true then emptyVal (kindOfI c.k) else x) = hashX l := by
        rcases hx with rfl | ⟨ho, hkk⟩
        · rw [if_pos none_empty]; exact ⟨[], by rw [hk]; rfl⟩
        · rw [if_neg (by rw [ho.not_none]; simp)]
          have hk2 : x.kind = 3 := by rw [hkk, hk]; rfl
          rcases ho.cases with ⟨t, -, rfl⟩ | ⟨n, hn', rfl⟩ | ⟨l, -, -, -, -, rfl⟩ | ⟨l, -, -, -, rfl⟩ | ⟨l, -, -, -, -, rfl⟩ | ⟨l, -, -, -, -, -, -, rfl⟩ <;> simp at hk2
          exact ⟨l, rfl⟩
      obtain ⟨l, hl⟩ := hform
      rw [hl] at e
      have e2 : performV (hashX l) c = hashV (hashX l) c := by simp [performV, hk]
      rw [e2] at e
      refine fin _ e (fun h0 => ?_) (fun h0 => ?_)
      · rcases hashV_made l c hk with h | h
        · exact absurd h0 h
        · rw [hk]; exact ⟨h.1, fun _ => h.2⟩
      · subst h0
        rw [if_pos none_empty, hk] at hl
        have : l = [] := by have := congrArg Val.pairs hl; exact this.symm
        subst this
        simp [hashV, hk, Val.size, posOf, hitB]
    · have e := ex 7 hk (by omega)
      have hform : ∃ l, (if x.none = true then emptyVal (kindOfI c.k) else x) = listX l := by
        rcases hx with rfl | ⟨ho, hkk⟩
        · rw [if_pos none_empty]; exact ⟨[], by rw [hk]; rfl⟩
        · rw [if_neg (by rw [ho.not_none]; simp)]
          have hk2 : x.kind = 4 := by rw [hkk, hk]; rfl
          rcases ho.cases with ⟨t, -, rfl⟩ | ⟨n, hn', rfl⟩ | ⟨l, -, -, -, -, rfl⟩ | ⟨l, -, -, -, rfl⟩ | ⟨l, -, -, -, -, rfl⟩ | ⟨l, -, -, -, -, -, -, rfl⟩ <;> simp at hk2
          exact ⟨l, rfl⟩
      obtain ⟨l, hl⟩ := hform
      rw [hl] at e
      have e2 : performV (listX l) c = listV (listX l) c := by simp [performV, hk]
      rw [e2] at e
      refine fin _ e (fun h0 => ?_) (fun h0 => ?_)
      · rcases listV_made l c (.inl hk) with h | h
        · exact absurd h0 h
        · rw [hk]; exact ⟨h.1, fun _ => h.2⟩
      · subst h0
        rw [if_pos none_empty, hk] at hl
        have : l = [] := by have := congrArg Val.items hl; exact this.symm
        subst this
        simp [listV, hk, Val.size]
    · have e := ex 8 hk (by omega)
      have hform : ∃ l, (if x.none = true then emptyVal (kindOfI c.k) else x) = listX l := by
        rcases hx with rfl | ⟨ho, hkk⟩
        · rw [if_pos none_empty]; exact ⟨[], by rw [hk]; rfl⟩
        · rw [if_neg (by rw [ho.not_none]; simp)]
          have hk2 : x.kind = 4 := by rw [hkk, hk]; rfl
          rcases ho.cases with ⟨t, -, rfl⟩ | ⟨n, hn', rfl⟩ | ⟨l, -, -, -, -, rfl⟩ | ⟨l, -, -, -, rfl⟩ | ⟨l, -, -, -, -, rfl⟩ | ⟨l, -, -, -, -, -, -, rfl⟩ <;> simp at hk2
          exact ⟨l, rfl⟩
      obtain ⟨l, hl⟩ := hform
      rw [hl] at e
      have e2 : performV (listX l) c = listV (listX l) c := by simp [performV, hk]
      rw [e2] at e
      refine fin _ e (fun h0 => ?_) (fun h0 => ?_)
      · rcases listV_made l c (.inr hk) with h | h
        · exact absurd h0 h
        · rw [hk]; exact ⟨h.1, fun _ => h.2⟩
      · subst h0
        rw [if_pos none_empty, hk] at hl
        have : l = [] := by have := congrArg Val.items hl; exact this.symm
        subst this
        simp [listV, hk, Val.size]
    · have e := ex 11 hk (by omega)
      have hform : ∃ l, (if x.none = true then emptyVal (kindOfI c.k) else x) = setX l := by
        rcases hx with rfl | ⟨ho, hkk⟩
        · rw [if_pos none_empty]; exact ⟨[], by rw [hk]; rfl⟩
        · rw [if_neg (by rw [ho.not_none]; simp)]
          have hk2 : x.kind = 5 := by rw [hkk, hk]; rfl
          rcases ho.cases with ⟨t, -, rfl⟩ | ⟨n, hn', rfl⟩ | ⟨l, -, -, -, -, rfl⟩ | ⟨l, -, -, -, rfl⟩ | ⟨l, -, -, -, -, rfl⟩ | ⟨l, -, -, -, -, -, -, rfl⟩ <;> simp at hk2
          exact ⟨l, rfl⟩
      obtain ⟨l, hl⟩ := hform
      rw [hl] at e
      have e2 : performV (setX l) c = setV (setX l) c := by simp [performV, hk]
      rw [e2] at e
      refine fin _ e (fun h0 => ?_) (fun h0 => ?_)
      · rcases setV_made l c hk with h | h
        · exact absurd h0 h
        · rw [hk]; exact ⟨h.1, fun _ => h.2⟩
      · subst h0
        rw [if_pos none_empty, hk] at hl
        have : l = [] := by have := congrArg Val.items hl; exact this.symm
        subst this
        simp [setV, hk, Val.size, posOf, hitB]
    · have e := ex 14 hk (by omega)
      have hform : ∃ l, (if x.none = true then emptyVal (kindOfI c.k) else x) = rankX l := by
        rcases hx with rfl | ⟨ho, hkk⟩
        · rw [if_pos none_empty]; exact ⟨[], by rw [hk]; rfl⟩
        · rw [if_neg (by rw [ho.not_none]; simp)]
          have hk2 : x.kind = 6 := by rw [hkk, hk]; rfl
          rcases ho.cases with ⟨t, -, rfl⟩ | ⟨n, hn', rfl⟩ | ⟨l, -, -, -, -, rfl⟩ | ⟨l, -, -, -, rfl⟩ | ⟨l, -, -, -, -, rfl⟩ | ⟨l, -, -, -, -, -, -, rfl⟩ <;> simp at hk2
          exact ⟨l, rfl⟩
      obtain ⟨l, hl⟩ := hform
      rw [hl] at e
      have e2 : performV (rankX l) c = rankV (rankX l) c := by simp [performV, hk]
      rw [e2] at e
      refine fin _ e (fun h0 => ?_) (fun h0 => ?_)
      · rcases rankV_made l c hk with h | h
        · exact absurd h0 h
        · rw [hk]; exact ⟨h.1, fun _ => h.2⟩
      · subst h0
        rw [if_pos none_empty, hk] at hl
        have : l = [] := by have := congrArg Val.scores hl; exact this.symm
        subst this
        simp [rankV, hk, Val.size]
  exact ⟨(doV_well c hw).ok (by rw [key]; exact hpos), key⟩
end Go.Proofs.YtfnephnecighaaaGreat
