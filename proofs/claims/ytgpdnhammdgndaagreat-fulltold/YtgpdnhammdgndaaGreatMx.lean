/- Values of elements under the command that lays one more: there is room for twenty. -/
import Derived.Test.YtgpdnhammdgndaaGreatMv
import Derived.Test.YtgpdnhammdgndaaGreatFwJ
namespace Go.Proofs.YtgpdnhammdgndaaGreat
open Go.RowKit
set_option linter.unusedVariables false
set_option maxRecDepth 100000

theorem ans_new {c : Cmd} (hm : makesB c.k = true) : answerV (emptyVal 0) c = performV (emptyVal (kindOfI c.k)) c := by
  unfold answerV; rw [none_empty, if_pos rfl, if_pos hm]
theorem kept_nilH : keptV (hashX []) = emptyVal 0 := rfl
theorem kept_nilL : keptV (listX []) = emptyVal 0 := rfl
theorem kept_nilS : keptV (setX []) = emptyVal 0 := rfl
theorem kept_nilR : keptV (rankX []) = emptyVal 0 := rfl
theorem kept_someH {L : List (ByteArray × ByteArray)} (h : 1 ≤ L.length) : keptV (hashX L) = hashX L := kept_kind (fun _ => by rw [size_hash]; exact h)
theorem kept_someS {L : List ByteArray} (h : 1 ≤ L.length) : keptV (setX L) = setX L := kept_kind (fun _ => by rw [size_set]; exact h)
theorem hash_okX {L : List (ByteArray × ByteArray)} (h : HashL L) (h1 : 1 ≤ L.length) : OkVal (hashX L) := ok_hash h1 h.1 h.2.1 h.2.2
theorem set_okX {L : List ByteArray} (h : SetL L) (h1 : 1 ≤ L.length) : OkVal (setX L) := ok_set h1 h.1 h.2.1 h.2.2
theorem ans_hash {L : List (ByteArray × ByteArray)} (h : HashL L) {c : Cmd} (hk : c.k = 4 ∨ (1 ≤ L.length ∧ (c.k = 5 ∨ c.k = 6))) : answerV (keptV (hashX L)) c = hashV (hashX L) c := by
  by_cases h0 : 1 ≤ L.length
  · rw [kept_someH h0]
    unfold answerV
    rw [(hash_okX h h0).not_none, if_neg (by simp), if_pos]
    · unfold performV
      rw [if_neg (by omega), if_neg (by omega), if_neg (by omega), if_neg (by omega), if_neg (by omega), if_pos rfl]
    · unfold fitsB kindOfI
      rw [if_neg (by omega), if_neg (by omega), if_neg (by omega), if_neg (by omega), if_pos (by omega)]; simp
  · have e : L = [] := List.eq_nil_of_length_eq_zero (by omega)
    subst e
    have h4 : c.k = 4 := by
      rcases hk with h | ⟨h, -⟩
      · exact h
      · simp at h
    rw [kept_nilH, ans_new (by rw [h4]; rfl), show kindOfI c.k = 3 by rw [h4]; rfl]
    unfold performV
    rw [if_neg (by omega), if_neg (by omega), if_neg (by omega), if_neg (by omega), if_neg (by omega), if_pos (show (emptyVal 3).kind = 3 from rfl)]; rfl
theorem ans_listA {L : List ByteArray} (h : ListL L) {c : Cmd} (hk : (c.k = 7 ∨ c.k = 8) ∨ (1 ≤ L.length ∧ (c.k = 9 ∨ c.k = 10))) : answerV (keptV (listX L)) c = listV (listX L) c := by
  by_cases h0 : 1 ≤ L.length
  · rw [kept_some h0]; exact ans_list h h0 (by omega)
  · have e : L = [] := List.eq_nil_of_length_eq_zero (by omega)
    subst e
    have h7 : c.k = 7 ∨ c.k = 8 := by
      rcases hk with h | ⟨h, -⟩
      · exact h
      · simp at h
    rw [kept_nilL, ans_new (by rcases h7 with h | h <;> rw [h] <;> rfl), show kindOfI c.k = 4 by rcases h7 with h | h <;> rw [h] <;> rfl]
    unfold performV
    rw [if_neg (by omega), if_neg (by omega), if_neg (by omega), if_neg (by omega), if_neg (by omega), if_neg (by decide), if_pos (show (emptyVal 4).kind = 4 from rfl)]; rfl
theorem ans_set {L : List ByteArray} (h : SetL L) {c : Cmd} (hk : c.k = 11 ∨ (1 ≤ L.length ∧ (c.k = 12 ∨ c.k = 13))) : answerV (keptV (setX L)) c = setV (setX L) c := by
  by_cases h0 : 1 ≤ L.length
  · rw [kept_someS h0]
    unfold answerV
    rw [(set_okX h h0).not_none, if_neg (by simp), if_pos]
    · unfold performV
      rw [if_neg (by omega), if_neg (by omega), if_neg (by omega), if_neg (by omega), if_neg (by omega), if_neg (by simp), if_neg (by simp), if_pos rfl]
    · unfold fitsB kindOfI
      rw [if_neg (by omega), if_neg (by omega), if_neg (by omega), if_neg (by omega), if_neg (by omega), if_neg (by omega), if_pos (by omega)]; simp
  · have e : L = [] := List.eq_nil_of_length_eq_zero (by omega)
    subst e
    have h7 : c.k = 11 := by
      rcases hk with h | ⟨h, -⟩
      · exact h
      · simp at h
    rw [kept_nilS, ans_new (by rw [h7]; rfl), show kindOfI c.k = 5 by rw [h7]; rfl]
    unfold performV
    rw [if_neg (by omega), if_neg (by omega), if_neg (by omega), if_neg (by omega), if_neg (by omega), if_neg (by decide), if_neg (by decide), if_pos (show (emptyVal 5).kind = 5 from rfl)]; rfl
theorem ans_rankA {L : List (ByteArray × Int)} (h : RankL L) {c : Cmd} (hk : c.k = 14 ∨ (1 ≤ L.length ∧ (c.k = 15 ∨ c.k = 16))) : answerV (keptV (rankX L)) c = rankV (rankX L) c := by
  by_cases h0 : 1 ≤ L.length
  · rw [kept_rankS h0]; exact ans_rank h h0 (by omega)
  · have e : L = [] := List.eq_nil_of_length_eq_zero (by omega)
    subst e
    have h7 : c.k = 14 := by
      rcases hk with h | ⟨h, -⟩
      · exact h
      · simp at h
    rw [kept_nilR, ans_new (by rw [h7]; rfl), show kindOfI c.k = 6 by rw [h7]; rfl]
    unfold performV
    rw [if_neg (by omega), if_neg (by omega), if_neg (by omega), if_neg (by omega), if_neg (by omega), if_neg (by decide), if_neg (by decide), if_neg (by decide)]; rfl
theorem doV_of {x y : Val} {c : Cmd} {r : Rep} (hr : refusalI x c = 0) (ha : answerV x c = (y, r)) : doV x c = (if r.code ≠ 0 then x else keptV y) ∧ doR x c = (if r.code ≠ 0 then { code := r.code } else r) := by
  unfold doV doR; rw [hr, ha]; simp

def tOf (i : Nat) : ByteArray := ⟨#[UInt8.ofNat (97 + i % 26), UInt8.ofNat (97 + i / 26)]⟩
theorem tOf_inj : ∀ i < 40, ∀ j < 40, tOf i = tOf j → i = j := by decide +kernel
theorem tOf_text (i : Nat) : isTextB (tOf i) = true := rfl
theorem tOf_name (i : Nat) : isNameB (tOf i) = true := rfl
/-- The command that lays element i: 2 a hash, 3 a list, 4 a set, 5 a rank. -/
def fcmd (p i : Nat) : Cmd := match p with
  | 2 => ⟨4, ⟨#[97]⟩, tOf i, tOf i, 0⟩
  | 3 => ⟨7, ⟨#[97]⟩, ⟨#[]⟩, tOf i, 0⟩
  | 4 => ⟨11, ⟨#[97]⟩, ⟨#[]⟩, tOf i, 0⟩
  | _ => ⟨14, ⟨#[97]⟩, ⟨#[]⟩, tOf i, -6⟩
theorem fcmd_fault (p i : Nat) (hp : p = 2 ∨ p = 3 ∨ p = 4 ∨ p = 5) : (fcmd p i).fault = 0 := by
  have e1 : (⟨#[97]⟩ : ByteArray).size = 1 := by decide +kernel
  have e2 : (⟨#[]⟩ : ByteArray).toList = [] := empty_list
  have e3 := tOf_text i
  have e4 := tOf_name i
  rcases hp with rfl | rfl | rfl | rfl <;> simp [fcmd, Cmd.fault, cmdFault, foreignB, partsB, hasKeyB, hasFieldB, hasTextB, hasNumberB, e2, e3, e4] <;> simp [isNameB, isCountB, e1]
def FT (p i : Nat) (x : Val) : Prop :=
  (p = 2 ∧ ∃ L, HashL L ∧ L.length = min i 20 ∧ (∀ a ∈ L, ∃ j < i, a.1 = tOf j) ∧ x = keptV (hashX L)) ∨
  (p = 3 ∧ ∃ L, ListL L ∧ L.length = min i 20 ∧ x = keptV (listX L)) ∨
  (p = 4 ∧ ∃ L, SetL L ∧ L.length = min i 20 ∧ (∀ a ∈ L, ∃ j < i, a = tOf j) ∧ x = keptV (setX L)) ∨
  (p = 5 ∧ ∃ L, RankL L ∧ L.length = min i 20 ∧ (∀ a ∈ L, ∃ j < i, a.1 = tOf j) ∧ x = keptV (rankX L))
theorem ft_zero (p : Nat) (hp : p = 2 ∨ p = 3 ∨ p = 4 ∨ p = 5) : FT p 0 (emptyVal 0) := by
  rcases hp with rfl | rfl | rfl | rfl
  · exact .inl ⟨rfl, [], by simp [HashL], by simp, by simp, kept_nilH.symm⟩
  · exact .inr (.inl ⟨rfl, [], by simp [ListL], by simp, kept_nilL.symm⟩)
  · exact .inr (.inr (.inl ⟨rfl, [], by simp [SetL], by simp, by simp, kept_nilS.symm⟩))
  · exact .inr (.inr (.inr ⟨rfl, [], by simp [RankL], by simp, by simp, kept_nilR.symm⟩))
theorem FT.well {p i : Nat} {x : Val} (h : FT p i x) : Well x := by
  rcases h with ⟨-, L, h, -, -, rfl⟩ | ⟨-, L, h, -, rfl⟩ | ⟨-, L, h, -, -, rfl⟩ | ⟨-, L, h, -, -, rfl⟩
  · exact kept_hash h
  · exact kept_list h
  · exact kept_set h
  · exact kept_rank h
theorem ft_step (p i : Nat) {x : Val} (hi : i < 39) (h : FT p i x) : refusalI x (fcmd p i) = 0 ∧ (doR x (fcmd p i)).code = (if 20 ≤ i then 6 else 0) ∧ FT p (i + 1) (doV x (fcmd p i)) := by
  have hp : p = 2 ∨ p = 3 ∨ p = 4 ∨ p = 5 := by rcases h with h | h | h | h <;> omega
  have hf := fcmd_fault p i hp
  have hst : ofStoreB (fcmd p i).k = false := by rcases hp with rfl | rfl | rfl | rfl <;> rfl
  have hr := h.well.ref hf hst
  refine ⟨hr, ?_⟩
  have hnew : ∀ a, (∃ j < i, a = tOf j) → a ≠ tOf i := fun a ⟨j, hj, ha⟩ he => by
    have := tOf_inj j (by omega) i (by omega) (ha.symm.trans he); omega
  rcases h with ⟨rfl, L, h, hl, hn, rfl⟩ | ⟨rfl, L, h, hl, rfl⟩ | ⟨rfl, L, h, hl, hn, rfl⟩ | ⟨rfl, L, h, hl, hn, rfl⟩
  · have hh : hitB (cmF (tOf i)) L (posOf (cmF (tOf i)) L) = false := by
      cases hh : hitB (cmF (tOf i)) L (posOf (cmF (tOf i)) L) with
      | false => rfl
      | true =>
        obtain ⟨hp, he⟩ := hit_some hh
        exact absurd ((cmpS_eq _ _).1 he) (hnew _ (hn _ (List.getElem_mem hp)))
    by_cases h20 : 20 ≤ i
    · have ha : answerV (keptV (hashX L)) (fcmd 2 i) = (hashX L, { code := 6 }) := by
        rw [ans_hash h (.inl rfl)]; unfold hashV; rw [size_hash]
        simp [fcmd, hh, show 20 ≤ L.length by omega]
      obtain ⟨e1, e2⟩ := doV_of hr ha
      rw [e1, e2, if_pos h20]
      exact ⟨rfl, .inl ⟨rfl, L, h, by omega, fun a ha => by obtain ⟨j, hj, e⟩ := hn a ha; exact ⟨j, by omega, e⟩, rfl⟩⟩
    · have ha : answerV (keptV (hashX L)) (fcmd 2 i) = (hashX (layAt L (posOf (cmF (tOf i)) L) (tOf i, tOf i)), { n := 1 }) := by
        rw [ans_hash h (.inl rfl)]; unfold hashV; rw [size_hash]
        simp [fcmd, hh, show ¬ 20 ≤ L.length by omega]
      obtain ⟨e1, e2⟩ := doV_of hr ha
      rw [e1, e2, if_neg h20]
      refine ⟨rfl, .inl ⟨rfl, _, hash_lay h (by omega) hh (tOf_name i) (tOf_text i), by rw [length_layAt]; omega, fun a ha => ?_, rfl⟩⟩
      rcases mem_layAt.1 ha with rfl | ha
      · exact ⟨i, by omega, rfl⟩
      · obtain ⟨j, hj, e⟩ := hn a ha; exact ⟨j, by omega, e⟩
  · by_cases h20 : 20 ≤ i
    · have ha : answerV (keptV (listX L)) (fcmd 3 i) = (listX L, { code := 6 }) := by
        rw [ans_listA h (.inl (.inl rfl))]; unfold listV; rw [size_list]
        simp [fcmd, show 20 ≤ L.length by omega]
      obtain ⟨e1, e2⟩ := doV_of hr ha
      rw [e1, e2, if_pos h20]
      exact ⟨rfl, .inr (.inl ⟨rfl, L, h, by omega, rfl⟩)⟩
    · have ha : answerV (keptV (listX L)) (fcmd 3 i) = (listX (layAt L L.length (tOf i)), { n := (L.length : Int) + 1 }) := by
        rw [ans_listA h (.inl (.inl rfl))]; unfold listV; rw [size_list]
        simp [fcmd, show ¬ 20 ≤ L.length by omega]
      obtain ⟨e1, e2⟩ := doV_of hr ha
      rw [e1, e2, if_neg h20]
      exact ⟨rfl, .inr (.inl ⟨rfl, _, list_lay h (by omega) _ (tOf_text i), by rw [length_layAt]; omega, rfl⟩)⟩
  · have hh : hitB (cmT (tOf i)) L (posOf (cmT (tOf i)) L) = false := by
      cases hh : hitB (cmT (tOf i)) L (posOf (cmT (tOf i)) L) with
      | false => rfl
      | true =>
        obtain ⟨hp, he⟩ := hit_some hh
        exact absurd ((cmpS_eq _ _).1 he) (hnew _ (hn _ (List.getElem_mem hp)))
    by_cases h20 : 20 ≤ i
    · have ha : answerV (keptV (setX L)) (fcmd 4 i) = (setX L, { code := 6 }) := by
        rw [ans_set h (.inl rfl)]; unfold setV; rw [size_set]
        simp [fcmd, hh, show 20 ≤ L.length by omega]
      obtain ⟨e1, e2⟩ := doV_of hr ha
      rw [e1, e2, if_pos h20]
      exact ⟨rfl, .inr (.inr (.inl ⟨rfl, L, h, by omega, fun a ha => by obtain ⟨j, hj, e⟩ := hn a ha; exact ⟨j, by omega, e⟩, rfl⟩))⟩
    · have ha : answerV (keptV (setX L)) (fcmd 4 i) = (setX (layAt L (posOf (cmT (tOf i)) L) (tOf i)), { n := 1 }) := by
        rw [ans_set h (.inl rfl)]; unfold setV; rw [size_set]
        simp [fcmd, hh, show ¬ 20 ≤ L.length by omega]
      obtain ⟨e1, e2⟩ := doV_of hr ha
      rw [e1, e2, if_neg h20]
      refine ⟨rfl, .inr (.inr (.inl ⟨rfl, _, set_lay h (by omega) hh (tOf_text i), by rw [length_layAt]; omega, fun a ha => ?_, rfl⟩))⟩
      rcases mem_layAt.1 ha with rfl | ha
      · exact ⟨i, by omega, rfl⟩
      · obtain ⟨j, hj, e⟩ := hn a ha; exact ⟨j, by omega, e⟩
  · have hnot : tOf i ∉ L.map (·.1) := fun hm => by
      obtain ⟨a, ha, e⟩ := List.mem_map.1 hm
      exact hnew _ (hn a ha) e
    have hf : L.findIdx? (isMember (tOf i)) = none := by
      rw [List.findIdx?_eq_none_iff]
      intro a ha
      cases hm : isMember (tOf i) a with
      | false => rfl
      | true => exact absurd ((isMember_iff _ _).1 hm) (hnew _ (hn a ha))
    by_cases h20 : 20 ≤ i
    · have ha : answerV (keptV (rankX L)) (fcmd 5 i) = (rankX L, { code := 6 }) := by
        rw [ans_rankA h (.inl rfl)]; unfold rankV; rw [size_rank]
        simp [fcmd, hf, show 20 ≤ L.length by omega]
      obtain ⟨e1, e2⟩ := doV_of hr ha
      rw [e1, e2, if_pos h20]
      exact ⟨rfl, .inr (.inr (.inr ⟨rfl, L, h, by omega, fun a ha => by obtain ⟨j, hj, e⟩ := hn a ha; exact ⟨j, by omega, e⟩, rfl⟩))⟩
    · have ha : answerV (keptV (rankX L)) (fcmd 5 i) = (rankX (layAt L (posOf (cmZ (tOf i, -6)) L) (tOf i, -6)), { n := 1 }) := by
        rw [ans_rankA h (.inl rfl)]; unfold rankV; rw [size_rank]
        simp [fcmd, hf, show ¬ 20 ≤ L.length by omega]
      obtain ⟨e1, e2⟩ := doV_of hr ha
      rw [e1, e2, if_neg h20]
      refine ⟨rfl, .inr (.inr (.inr ⟨rfl, _, rank_lay h (by omega) hnot (tOf_text i) (by decide), by rw [length_layAt]; omega, fun a ha => ?_, rfl⟩))⟩
      rcases mem_layAt.1 ha with rfl | ha
      · exact ⟨i, by omega, rfl⟩
      · obtain ⟨j, hj, e⟩ := hn a ha; exact ⟨j, by omega, e⟩
theorem FT.some {p i : Nat} {x : Val} (h : FT p i x) (hi : 0 < i) : OkVal x ∧ 3 ≤ x.kind ∧ x.size = min i 20 := by
  rcases h with ⟨-, L, h, hl, -, rfl⟩ | ⟨-, L, h, hl, rfl⟩ | ⟨-, L, h, hl, -, rfl⟩ | ⟨-, L, h, hl, -, rfl⟩
  · rw [kept_someH (by omega)]; exact ⟨hash_okX h (by omega), by simp, by rw [size_hash, hl]⟩
  · rw [kept_some (by omega)]; exact ⟨list_ok h (by omega), by simp, by rw [size_list, hl]⟩
  · rw [kept_someS (by omega)]; exact ⟨set_okX h (by omega), by simp, by rw [size_set, hl]⟩
  · rw [kept_rankS (by omega)]; exact ⟨rank_okX h (by omega), by simp, by rw [size_rank, hl]⟩
theorem FT.none {p : Nat} {x : Val} (h : FT p 0 x) : x = emptyVal 0 := by
  rcases h with ⟨-, L, h, hl, -, rfl⟩ | ⟨-, L, h, hl, rfl⟩ | ⟨-, L, h, hl, -, rfl⟩ | ⟨-, L, h, hl, -, rfl⟩ <;>
    (have e := List.eq_nil_of_length_eq_zero (by simpa using hl); subst e)
  · exact kept_nilH
  · exact kept_nilL
  · exact kept_nilS
  · exact kept_nilR
end Go.Proofs.YtgpdnhammdgndaaGreat
