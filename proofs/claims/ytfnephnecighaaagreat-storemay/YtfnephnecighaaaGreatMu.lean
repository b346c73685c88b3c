/- What a command makes of nothing, or of a value of its kind: plain lists alone. -/
import Derived.Test.YtfnephnecighaaaGreatMt
namespace Go.Proofs.YtfnephnecighaaaGreat
open Go.RowKit
set_option linter.unusedVariables false
theorem Well.ok {x : Val} (h : Well x) (hk : x.kind ≠ 0) : OkVal x := by
  rcases h with rfl | h
  · exact absurd rfl hk
  · exact h
theorem kept_kind {y : Val} (h : holdsB y.kind = true → 1 ≤ y.size) : keptV y = y := by
  unfold keptV
  by_cases hh : holdsB y.kind = true
  · rw [if_neg (by have := h hh; simp; intro _; omega)]
  · rw [if_neg (by simp [hh])]
theorem hashV_made (l : List (ByteArray × ByteArray)) (c : Cmd) (h4 : c.k = 4) : (hashV (hashX l) c).2.code ≠ 0 ∨ ((hashV (hashX l) c).1.kind = 3 ∧ 1 ≤ (hashV (hashX l) c).1.size) := by
  unfold hashV
  rw [size_hash]
  cases hh : hitB (cmF c.fld) (hashX l).pairs (posOf (cmF c.fld) (hashX l).pairs) with
  | true =>
    obtain ⟨hp, -⟩ := hit_some hh
    rw [if_pos rfl, if_pos h4]
    right
    refine ⟨rfl, ?_⟩
    have hp' : posOf (cmF c.fld) l < l.length := hp
    simp [Val.size]; omega
  | false =>
    rw [if_neg (by simp), if_pos h4]
    by_cases hl : 20 ≤ l.length
    · rw [if_pos hl]; left; simp
    · rw [if_neg hl]; right; exact ⟨rfl, by simp [Val.size, length_layAt]⟩
theorem listV_made (l : List ByteArray) (c : Cmd) (h7 : c.k = 7 ∨ c.k = 8) : (listV (listX l) c).2.code ≠ 0 ∨ ((listV (listX l) c).1.kind = 4 ∧ 1 ≤ (listV (listX l) c).1.size) := by
  unfold listV
  rw [size_list]
  rcases h7 with h7 | h8
  · rw [if_pos h7]
    by_cases hl : 20 ≤ l.length
    · rw [if_pos hl]; left; simp
    · rw [if_neg hl]; right; exact ⟨rfl, by simp [Val.size, length_layAt]⟩
  · rw [if_neg (by omega), if_pos h8]
    by_cases hl : 20 ≤ l.length
    · rw [if_pos hl]; left; simp
    · rw [if_neg hl]; right; exact ⟨rfl, by simp [Val.size, length_layAt]⟩
theorem setV_made (l : List ByteArray) (c : Cmd) (h : c.k = 11) : (setV (setX l) c).2.code ≠ 0 ∨ ((setV (setX l) c).1.kind = 5 ∧ 1 ≤ (setV (setX l) c).1.size) := by
  unfold setV
  rw [size_set]
  cases hh : hitB (cmT c.txt) (setX l).items (posOf (cmT c.txt) (setX l).items) with
  | true =>
    obtain ⟨hp, -⟩ := hit_some hh
    rw [if_pos rfl, if_pos h]
    right
    refine ⟨rfl, ?_⟩
    have hp' : posOf (cmT c.txt) l < l.length := hp
    simp [Val.size]; omega
  | false =>
    rw [if_neg (by simp), if_pos h]
    by_cases hl : 20 ≤ l.length
    · rw [if_pos hl]; left; simp
    · rw [if_neg hl]; right; exact ⟨rfl, by simp [Val.size, length_layAt]⟩
theorem rankV_made (l : List (ByteArray × Int)) (c : Cmd) (h : c.k = 14) : (rankV (rankX l) c).2.code ≠ 0 ∨ ((rankV (rankX l) c).1.kind = 6 ∧ 1 ≤ (rankV (rankX l) c).1.size) := by
  unfold rankV
  rw [size_rank]
  cases hi : l.findIdx? (isMember c.txt) with
  | some i =>
    simp only
    rw [if_pos h]; right; exact ⟨rfl, by simp [Val.size, length_layAt]⟩
  | none =>
    simp only
    rw [if_pos h]
    by_cases hl : 20 ≤ l.length
    · rw [if_pos hl]; left; simp
    · rw [if_neg hl]; right; exact ⟨rfl, by simp [Val.size, length_layAt]⟩

theorem addV_code {x : Val} {n : Int} : (addV x n).2.code ≠ 0 ∨ ((addV x n).1.kind = x.kind) := by
  unfold addV
  by_cases h : isCountB (x.count + n) = true
  · rw [if_pos h]; exact .inr rfl
  · rw [if_neg h]; left; simp

/-- What a command makes of nothing, or of a value of its kind, is of its kind. -/
theorem doV_made {x : Val} {c : Cmd} (hc : c.fault = 0) (hm : makesB c.k = true) (hx : x = emptyVal 0 ∨ (OkVal x ∧ x.kind = kindOfI c.k)) : OkVal (doV x c) ∧ (doV x c).kind = kindOfI c.k := by
  have hw : Well x := by rcases hx with h | h; exact .inl h; exact .inr h.1
  have hk : c.k = 1 ∨ c.k = 3 ∨ c.k = 4 ∨ c.k = 7 ∨ c.k = 8 ∨ c.k = 11 ∨ c.k = 14 := by simpa [makesB] using hm
  have hs : ofStoreB c.k = false := by simp [ofStoreB]; omega
  have hr := hw.ref hc hs
  have hpos : kindOfI c.k ≠ 0 := by rcases hk with h | h | h | h | h | h | h <;> rw [h] <;> decide
  have key : (doV x c).kind = kindOfI c.k := by
    unfold doV
    rw [if_neg (by omega)]
    obtain ⟨ht, hf, hn, -⟩ := cmd_parts hc
    have fin : ∀ y : Val × Rep, answerV x c = y → (y.2.code = 0 → y.1.kind = kindOfI c.k ∧ (holdsB y.1.kind = true → 1 ≤ y.1.size)) → (x = emptyVal 0 → y.2.code = 0) → (if (answerV x c).2.code ≠ 0 then x else keptV (answerV x c).1).kind = kindOfI c.k := by
      intro y hy h1 h2
      rw [hy]
      by_cases h0 : y.2.code = 0
      · rw [if_neg (by simp [h0]), kept_kind (h1 h0).2]; exact (h1 h0).1
      · rw [if_pos h0]
        rcases hx with hx | hx
        · exact absurd (h2 hx) h0
        · exact hx.2
    have ex : ∀ k, c.k = k → k = 3 ∨ k = 4 ∨ k = 7 ∨ k = 8 ∨ k = 11 ∨ k = 14 → answerV x c = performV (if x.none = true then emptyVal (kindOfI c.k) else x) c := by
      intro k hk' h
      unfold answerV
      rcases hx with rfl | ⟨ho, hkk⟩
      · simp only [none_empty, if_pos, hm]
      · have hf : fitsB x.kind c.k = true := by unfold fitsB; rw [if_neg (by omega), if_neg (by omega)]; simpa using hkk
        simp only [ho.not_none, hf, if_pos]; simp
    rcases hk with hk | hk | hk | hk | hk | hk | hk
    · refine fin ({ emptyVal 1 with text := c.txt }, {}) ?_ (fun _ => ⟨by rw [hk]; rfl, fun h => by simp [emptyVal, holdsB] at h⟩) (fun _ => rfl)
      unfold answerV
      rcases hx with rfl | ⟨ho, -⟩
      · rw [none_empty, if_pos rfl, hm, if_pos rfl]; simp [performV, hk]
      · rw [ho.not_none, if_neg (by simp), if_pos (by simp [fitsB, hk])]; simp [performV, hk]
    · have e := ex 3 hk (by omega)
      refine fin _ e ?_ ?_
      · rcases hx with rfl | ⟨ho, hkk⟩
        · rw [if_pos none_empty]; simp [performV, hk, kindOfI, addV, emptyVal, hn, holdsB]
        · rw [if_neg (by rw [ho.not_none]; simp)]
          have hk2 : x.kind = 2 := by rw [hkk, hk]; rfl
          have e2 : performV x c = addV x c.n := by simp [performV, hk]
          rw [e2, hk]
          intro h0
          rcases addV_code (x := x) (n := c.n) with h | h
          · exact absurd h0 h
          · rw [h, hk2]; exact ⟨rfl, fun h => by simp [holdsB] at h⟩
      · rintro rfl; rw [if_pos none_empty]; simp [performV, hk, kindOfI, addV, emptyVal, hn]
    · have e := ex 4 hk (by omega)
      have hform : ∃ l, (if x.none = true then emptyVal (kindOfI c.k) else x) = hashX l := by
        rcases hx with rfl | ⟨ho, hkk⟩
        · rw [if_pos none_empty]; exact ⟨[], by rw [hk]; rfl⟩
        · rw [if_neg (by rw [ho.not_none]; simp)]
          have hk2 : x.kind = 3 := by rw [hkk, hk]; rfl
          rcases ho.cases with ⟨t, -, rfl⟩ | ⟨n, hn', rfl⟩ | ⟨l, -, -, -, -, rfl⟩ | ⟨l, -, -, -, rfl⟩ | ⟨l, -, -, -, -, rfl⟩ | ⟨l, -, -, -, -, -, -, rfl⟩ <;> simp at hk2
          exact ⟨l, rfl⟩
      obtain ⟨l, hl⟩ := hform
      rw [hl] at e
      have e2 : performV (hashX l) c = hashV (hashX l) c := by simp [performV, hk]
      rw [e2] at e
      refine fin _ e (fun h0 => ?_) (fun h0 => ?_)
      · rcases hashV_made l c hk with h | h
        · exact absurd h0 h
        · rw [hk]; exact ⟨h.1, fun _ => h.2⟩
      · subst h0
        rw [if_pos none_empty, hk] at hl
        have : l = [] := by have := congrArg Val.pairs hl; exact this.symm
        subst this
        simp [hashV, hk, Val.size, posOf, hitB]
    · have e := ex 7 hk (by omega)
      have hform : ∃ l, (if x.none = true then emptyVal (kindOfI c.k) else x) = listX l := by
        rcases hx with rfl | ⟨ho, hkk⟩
        · rw [if_pos none_empty]; exact ⟨[], by rw [hk]; rfl⟩
        · rw [if_neg (by rw [ho.not_none]; simp)]
          have hk2 : x.kind = 4 := by rw [hkk, hk]; rfl
          rcases ho.cases with ⟨t, -, rfl⟩ | ⟨n, hn', rfl⟩ | ⟨l, -, -, -, -, rfl⟩ | ⟨l, -, -, -, rfl⟩ | ⟨l, -, -, -, -, rfl⟩ | ⟨l, -, -, -, -, -, -, rfl⟩ <;> simp at hk2
          exact ⟨l, rfl⟩
      obtain ⟨l, hl⟩ := hform
      rw [hl] at e
      have e2 : performV (listX l) c = listV (listX l) c := by simp [performV, hk]
      rw [e2] at e
      refine fin _ e (fun h0 => ?_) (fun h0 => ?_)
      · rcases listV_made l c (.inl hk) with h | h
        · exact absurd h0 h
        · rw [hk]; exact ⟨h.1, fun _ => h.2⟩
      · subst h0
        rw [if_pos none_empty, hk] at hl
        have : l = [] := by have := congrArg Val.items hl; exact this.symm
        subst this
        simp [listV, hk, Val.size]
    · have e := ex 8 hk (by omega)
      have hform : ∃ l, (if x.none = true then emptyVal (kindOfI c.k) else x) = listX l := by
        rcases hx with rfl | ⟨ho, hkk⟩
        · rw [if_pos none_empty]; exact ⟨[], by rw [hk]; rfl⟩
        · rw [if_neg (by rw [ho.not_none]; simp)]
          have hk2 : x.kind = 4 := by rw [hkk, hk]; rfl
          rcases ho.cases with ⟨t, -, rfl⟩ | ⟨n, hn', rfl⟩ | ⟨l, -, -, -, -, rfl⟩ | ⟨l, -, -, -, rfl⟩ | ⟨l, -, -, -, -, rfl⟩ | ⟨l, -, -, -, -, -, -, rfl⟩ <;> simp at hk2
          exact ⟨l, rfl⟩
      obtain ⟨l, hl⟩ := hform
      rw [hl] at e
      have e2 : performV (listX l) c = listV (listX l) c := by simp [performV, hk]
      rw [e2] at e
      refine fin _ e (fun h0 => ?_) (fun h0 => ?_)
      · rcases listV_made l c (.inr hk) with h | h
        · exact absurd h0 h
        · rw [hk]; exact ⟨h.1, fun _ => h.2⟩
      · subst h0
        rw [if_pos none_empty, hk] at hl
        have : l = [] := by have := congrArg Val.items hl; exact this.symm
        subst this
        simp [listV, hk, Val.size]
    · have e := ex 11 hk (by omega)
      have hform : ∃ l, (if x.none = true then emptyVal (kindOfI c.k) else x) = setX l := by
        rcases hx with rfl | ⟨ho, hkk⟩
        · rw [if_pos none_empty]; exact ⟨[], by rw [hk]; rfl⟩
        · rw [if_neg (by rw [ho.not_none]; simp)]
          have hk2 : x.kind = 5 := by rw [hkk, hk]; rfl
          rcases ho.cases with ⟨t, -, rfl⟩ | ⟨n, hn', rfl⟩ | ⟨l, -, -, -, -, rfl⟩ | ⟨l, -, -, -, rfl⟩ | ⟨l, -, -, -, -, rfl⟩ | ⟨l, -, -, -, -, -, -, rfl⟩ <;> simp at hk2
          exact ⟨l, rfl⟩
      obtain ⟨l, hl⟩ := hform
      rw [hl] at e
      have e2 : performV (setX l) c = setV (setX l) c := by simp [performV, hk]
      rw [e2] at e
      refine fin _ e (fun h0 => ?_) (fun h0 => ?_)
      · rcases setV_made l c hk with h | h
        · exact absurd h0 h
        · rw [hk]; exact ⟨h.1, fun _ => h.2⟩
      · subst h0
        rw [if_pos none_empty, hk] at hl
        have : l = [] := by have := congrArg Val.items hl; exact this.symm
        subst this
        simp [setV, hk, Val.size, posOf, hitB]
    · have e := ex 14 hk (by omega)
      have hform : ∃ l, (if x.none = true then emptyVal (kindOfI c.k) else x) = rankX l := by
        rcases hx with rfl | ⟨ho, hkk⟩
        · rw [if_pos none_empty]; exact ⟨[], by rw [hk]; rfl⟩
        · rw [if_neg (by rw [ho.not_none]; simp)]
          have hk2 : x.kind = 6 := by rw [hkk, hk]; rfl
          rcases ho.cases with ⟨t, -, rfl⟩ | ⟨n, hn', rfl⟩ | ⟨l, -, -, -, -, rfl⟩ | ⟨l, -, -, -, rfl⟩ | ⟨l, -, -, -, -, rfl⟩ | ⟨l, -, -, -, -, -, -, rfl⟩ <;> simp at hk2
          exact ⟨l, rfl⟩
      obtain ⟨l, hl⟩ := hform
      rw [hl] at e
      have e2 : performV (rankX l) c = rankV (rankX l) c := by simp [performV, hk]
      rw [e2] at e
      refine fin _ e (fun h0 => ?_) (fun h0 => ?_)
      · rcases rankV_made l c hk with h | h
        · exact absurd h0 h
        · rw [hk]; exact ⟨h.1, fun _ => h.2⟩
      · subst h0
        rw [if_pos none_empty, hk] at hl
        have : l = [] := by have := congrArg Val.scores hl; exact this.symm
        subst this
        simp [rankV, hk, Val.size]
  exact ⟨(doV_well c hw).ok (by rw [key]; exact hpos), key⟩
end Go.Proofs.YtfnephnecighaaaGreat
