/- A rank's members stand anew, go, and are asked for: what value.Do makes of it. -/
import Derived.Test.YtgpdnhammdgndaaGreatFw
namespace Go.Proofs.YtgpdnhammdgndaaGreat
open Go.RowKit
set_option linter.unusedVariables false

theorem rank_okX {L : List (ByteArray × Int)} (h : RankL L) (h1 : 1 ≤ L.length) : OkVal (rankX L) := ok_rank h1 h.1 h.2.1 h.2.2.1 h.2.2.2.1 h.2.2.2.2
theorem ans_rank {L : List (ByteArray × Int)} (h : RankL L) (h1 : 1 ≤ L.length) {c : Cmd} (hk : 14 ≤ c.k ∧ c.k ≤ 16) : answerV (rankX L) c = rankV (rankX L) c := by
  unfold answerV
  rw [(rank_okX h h1).not_none, if_neg (by simp), if_pos]
  · unfold performV
    rw [if_neg (by omega), if_neg (by omega), if_neg (by omega), if_neg (by omega), if_neg (by omega), if_neg (by simp), if_neg (by simp), if_neg (by simp)]
  · unfold fitsB kindOfI
    rw [if_neg (by omega), if_neg (by omega), if_neg (by omega), if_neg (by omega), if_neg (by omega), if_neg (by omega), if_neg (by omega), if_pos hk]; simp
theorem find_at {L : List (ByteArray × Int)} (hd : (L.map (·.1)).Nodup) (i : Nat) (hi : i < L.length) : L.findIdx? (isMember L[i].1) = some i := by
  rw [List.findIdx?_eq_some_iff_getElem]
  refine ⟨hi, (isMember_iff _ _).2 rfl, fun j hj => ?_⟩
  intro h
  have he := (isMember_iff _ _).1 h
  rw [List.nodup_iff_pairwise_ne, List.pairwise_iff_getElem] at hd
  have := hd j i (by simp; omega) (by simp; omega) hj
  simp at this
  exact this he
abbrev zaddC (t : ByteArray) (n : Int) : Cmd := ⟨14, ⟨#[107]⟩, ⟨#[]⟩, t, n⟩
abbrev zremC (t : ByteArray) : Cmd := ⟨15, ⟨#[107]⟩, ⟨#[]⟩, t, 0⟩
abbrev zrankC (t : ByteArray) : Cmd := ⟨16, ⟨#[107]⟩, ⟨#[]⟩, t, 0⟩
theorem rankC_fault (k : Int) (t : ByteArray) (n : Int) (hk : k = 14 ∨ (k = 15 ∨ k = 16) ∧ n = 0) (ht : isTextB t = true) (hn : isCountB n = true) : (⟨k, ⟨#[107]⟩, ⟨#[]⟩, t, n⟩ : Cmd).fault = 0 := by
  have e1 : (⟨#[107]⟩ : ByteArray).size = 1 := by decide +kernel
  have e2 : (⟨#[]⟩ : ByteArray).toList = [] := empty_list
  rcases hk with rfl | ⟨rfl | rfl, rfl⟩ <;> simp [Cmd.fault, cmdFault, foreignB, partsB, hasKeyB, hasFieldB, hasTextB, hasNumberB, isNameB, e1, e2, ht, hn]
theorem cnt0 : isCountB 0 = true := by decide
theorem RankL.text {L : List (ByteArray × Int)} (h : RankL L) (i : Nat) (hi : i < L.length) : isTextB L[i].1 = true := by
  have := h.2.1 L[i] (List.getElem_mem hi)
  simpa [wrongS] using this

theorem acts_code {x y : Val} {c : Cmd} {r : Rep} (hr : refusalI x c = 0) (ha : answerV x c = (y, r)) (h0 : r.code = 0) : Acts x c (keptV y) r 0 := by
  have := acts_any x c
  unfold doV doR at this
  rw [hr, ha] at this
  simpa [h0] using this
theorem acts_refused {x y : Val} {c : Cmd} {r : Rep} (hr : refusalI x c = 0) (ha : answerV x c = (y, r)) (h0 : r.code ≠ 0) : Acts x c x { code := r.code } 0 := by
  have := acts_any x c
  unfold doV doR at this
  rw [hr, ha] at this
  simpa [h0] using this
theorem kept_rankS {L : List (ByteArray × Int)} (h : 1 ≤ L.length) : keptV (rankX L) = rankX L := kept_kind (fun _ => by rw [size_rank]; exact h)

theorem zadd_acts {L : List (ByteArray × Int)} (h : RankL L) (i : Nat) (hi : i < L.length) (n : Int) (hn : isCountB n = true) :
    ∃ L', Acts (rankX L) (zaddC L[i].1 n) (rankX L') {} 0 ∧ RankL L' ∧ L'.length = L.length ∧ ∃ j, ∃ hj : j < L'.length, L'[j] = (L[i].1, n) := by
  have ht := h.text i hi
  have hc := rankC_fault 14 L[i].1 n (.inl rfl) ht hn
  have hr := Well.ref (.inr (rank_okX h (by omega))) hc (by simp [ofStoreB])
  have hf := find_at h.2.2.2.2 i hi
  have hnot := cut_not h.2.2.2.2 hf
  have hv : rankV (rankX L) (zaddC L[i].1 n) = (rankX (layAt (cutAt L i) (posOf (cmZ (L[i].1, n)) (cutAt L i)) (L[i].1, n)), {}) := by
    unfold rankV
    simp only [hf]
    rfl
  have hL := rank_lay (t := L[i].1) (n := n) (rank_cut h i) (by rw [length_cutAt hi]; have := h.1; omega) hnot ht hn
  have hlen : (layAt (cutAt L i) (posOf (cmZ (L[i].1, n)) (cutAt L i)) (L[i].1, n)).length = L.length := by rw [length_layAt, length_cutAt hi]; omega
  refine ⟨_, ?_, hL, hlen, ?_⟩
  · have := acts_code hr ((ans_rank h (by omega) (c := zaddC L[i].1 n) (by simp)).trans hv) rfl
    rwa [kept_rankS (by rw [hlen]; omega)] at this
  · have hm : (L[i].1, n) ∈ layAt (cutAt L i) (posOf (cmZ (L[i].1, n)) (cutAt L i)) (L[i].1, n) := mem_layAt.2 (.inl rfl)
    obtain ⟨j, hj, e⟩ := List.mem_iff_getElem.1 hm
    exact ⟨j, hj, e⟩
theorem zrem_acts {L : List (ByteArray × Int)} (h : RankL L) (i : Nat) (hi : i < L.length) : Acts (rankX L) (zremC L[i].1) (keptV (rankX (cutAt L i))) { n := 1 } 0 ∧ (keptV (rankX (cutAt L i))).scores.length = L.length - 1 := by
  have ht := h.text i hi
  have hc := rankC_fault 15 L[i].1 0 (.inr ⟨.inl rfl, rfl⟩) ht cnt0
  have hr := Well.ref (.inr (rank_okX h (by omega))) hc (by simp [ofStoreB])
  have hf := find_at h.2.2.2.2 i hi
  have hv : rankV (rankX L) (zremC L[i].1) = (rankX (cutAt L i), { n := 1 }) := by
    unfold rankV
    simp only [hf]
    rfl
  refine ⟨acts_code hr ((ans_rank h (by omega) (c := zremC L[i].1) (by simp)).trans hv) rfl, ?_⟩
  have hl := length_cutAt hi
  by_cases h0 : (cutAt L i).length = 0
  · have e := List.eq_nil_of_length_eq_zero h0
    rw [e] at hl ⊢
    have : (keptV (rankX [])).scores = [] := by decide +kernel
    rw [this]; simpa using hl
  · rw [kept_rankS (by omega)]; exact hl
theorem zrank_acts {L : List (ByteArray × Int)} (h : RankL L) (i : Nat) (hi : i < L.length) : Acts (rankX L) (zrankC L[i].1) (rankX L) { n := (i : Int) } 0 := by
  have ht := h.text i hi
  have hc := rankC_fault 16 L[i].1 0 (.inr ⟨.inr rfl, rfl⟩) ht cnt0
  have hr := Well.ref (.inr (rank_okX h (by omega))) hc (by simp [ofStoreB])
  have hf := find_at h.2.2.2.2 i hi
  have hv : rankV (rankX L) (zrankC L[i].1) = (rankX L, { n := (i : Int) }) := by
    unfold rankV
    simp only [hf]
    rfl
  have := acts_code hr ((ans_rank h (by omega) (c := zrankC L[i].1) (by simp)).trans hv) rfl
  rwa [kept_rankS (by omega)] at this
theorem zrank_none {L : List (ByteArray × Int)} (h : RankL L) (h1 : 1 ≤ L.length) (t : ByteArray) (ht : isTextB t = true) (hn : t ∉ L.map (·.1)) : Acts (rankX L) (zrankC t) (rankX L) { code := 5 } 0 := by
  have hc := rankC_fault 16 t 0 (.inr ⟨.inr rfl, rfl⟩) ht cnt0
  have hr := Well.ref (.inr (rank_okX h h1)) hc (by simp [ofStoreB])
  have hf : L.findIdx? (isMember t) = none := by
    rw [List.findIdx?_eq_none_iff]
    intro a ha
    cases hm : isMember t a with
    | false => rfl
    | true => exact absurd (List.mem_map.2 ⟨a, ha, (isMember_iff _ _).1 hm⟩) hn
  have hv : rankV (rankX L) (zrankC t) = (rankX L, { code := 5 }) := by
    unfold rankV
    simp only [hf]
    rfl
  exact acts_refused hr ((ans_rank h h1 (c := zrankC t) (by simp)).trans hv) (by decide)

/-- How many of the first so many members are a text. -/
def manyOf (t : ByteArray) (L : List (ByteArray × Int)) (m : Nat) : Nat := ((L.take m).filter (isMember t)).length
theorem many_step (t : ByteArray) (L : List (ByteArray × Int)) (m : Nat) (hm : m < L.length) : manyOf t L (m + 1) = manyOf t L m + (if isMember t L[m] = true then 1 else 0) := by
  unfold manyOf
  rw [List.take_succ_eq_append_getElem hm, List.filter_append, List.length_append]
  cases h : isMember t L[m] <;> simp [h]
theorem many_all {L : List (ByteArray × Int)} (hd : (L.map (·.1)).Nodup) (j : Nat) (hj : j < L.length) : manyOf L[j].1 L L.length = 1 := by
  unfold manyOf
  rw [List.take_length]
  have hs : L = L.take j ++ L[j] :: L.drop (j + 1) := by rw [← List.drop_eq_getElem_cons hj, List.take_append_drop]
  generalize L[j] = q at *
  rw [hs, List.map_append, List.map_cons, List.nodup_append] at hd
  obtain ⟨-, h2, h3⟩ := hd
  rw [List.nodup_cons] at h2
  rw [hs, List.filter_append, List.filter_cons, if_pos ((isMember_iff _ _).2 rfl)]
  have e1 : (L.take j).filter (isMember q.1) = [] := by
    rw [List.filter_eq_nil_iff]
    intro a ha h
    exact h3 a.1 (List.mem_map.2 ⟨a, ha, rfl⟩) q.1 (by simp) ((isMember_iff _ _).1 h)
  have e2 : (L.drop (j + 1)).filter (isMember q.1) = [] := by
    rw [List.filter_eq_nil_iff]
    intro a ha h
    exact h2.1 (List.mem_map.2 ⟨a, ha, (isMember_iff _ _).1 h⟩)
  rw [e1, e2]; rfl
theorem many_own {L : List (ByteArray × Int)} (hd : (L.map (·.1)).Nodup) (j m : Nat) (hj : j < L.length) (hm : m < L.length) (h : L[m].1 = L[j].1) : m = j := by
  have h1 := find_at hd m hm
  have h2 := find_at hd j hj
  rw [h] at h1
  rw [h1] at h2
  exact Option.some.inj h2
end Go.Proofs.YtgpdnhammdgndaaGreat
