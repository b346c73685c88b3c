/- What performHash, performList, performSet and performRank make of a value in its order: just what the plain functions say. -/
import Derived.Test.YtfnephnecighaaaGreatMq
import Derived.Test.YtfnephnecighaaaGreatPn
import Derived.Test.YtfnephnecighaaaGreatPl
import Derived.Test.YtfnephnecighaaaGreatPm
namespace Go.Proofs.YtfnephnecighaaaGreat
open Go.RowKit
set_option linter.unusedVariables false

theorem parts_fld (t : ByteArray) (l : List (ByteArray × ByteArray)) (h : l.Pairwise (fun a b => ltP a b = true)) : Parts (cmF t) l (posOf (cmF t) l) :=
  parts_of (lt := ltP) (cmF t) (fun a b hab hb => by rw [cmpS_lt] at hb ⊢; exact ltS_trans hab hb) l h
theorem parts_txt (t : ByteArray) (l : List ByteArray) (h : l.Pairwise (fun a b => ltS a b = true)) : Parts (cmT t) l (posOf (cmT t) l) :=
  parts_of (lt := ltS) (cmT t) (fun a b hab hb => by rw [cmpS_lt] at hb ⊢; exact ltS_trans hab hb) l h
theorem parts_sc (t : ByteArray × Int) (l : List (ByteArray × Int)) (h : l.Pairwise (fun a b => ltSc a b = true)) : Parts (cmZ t) l (posOf (cmZ t) l) :=
  parts_of (lt := ltSc) (cmZ t) (fun a b hab hb => by rw [cmpSc_neg] at hb ⊢; exact ltSc_trans hab hb) l h

theorem hash_does (x : Val) (c : Cmd) (hk : c.k = 4 ∨ c.k = 5 ∨ c.k = 6) (hi : x.items = []) (hs : x.scores = []) (hm : x.size ≤ 20) (hr : x.pairs.Pairwise (fun a b => ltP a b = true)) :
    Does 96 x c (hashV x c).1 (hashV x c).2 := by
  have hp := parts_fld c.fld x.pairs hr
  have hml : x.pairs.length ≤ 1048576 := by unfold Val.size at hm; omega
  unfold hashV cutAt layAt
  cases hh : hitB (cmF c.fld) x.pairs (posOf (cmF c.fld) x.pairs) with
  | true =>
    obtain ⟨hpl, -⟩ := hit_some hh
    rw [if_pos rfl]
    rcases hk with hk | hk | hk
    · rw [if_pos hk]; exact hash_set_old x c _ hk (by omega) hpl hi hs hp hh
    · rw [if_neg (by omega), if_pos hk]
      have := hash_get x c _ hk (by omega) hp hpl hh
      rw [List.getElem?_eq_getElem hpl]
      exact this
    · rw [if_neg (by omega), if_neg (by omega)]; exact hash_del x c _ hk hml hi hs hp hpl hh
  | false =>
    rw [if_neg (by simp)]
    rcases hk with hk | hk | hk
    · rw [if_pos hk]
      by_cases hf : 20 ≤ x.size
      · rw [if_pos hf]; exact hash_full x c _ hk (by omega) hf hp hh
      · rw [if_neg hf]; exact hash_set_new x c _ hk (by omega) hi hs hp hh
    · rw [if_neg (by omega), if_pos hk]; exact hash_get_miss x c _ hk (by omega) hp hh
    · rw [if_neg (by omega), if_neg (by omega)]; exact hash_del_miss x c _ hk (by omega) hp hh

theorem list_does (x : Val) (c : Cmd) (hk : c.k = 7 ∨ c.k = 8 ∨ ((c.k = 9 ∨ c.k = 10) ∧ 0 < x.items.length)) (hi : x.pairs = []) (hs : x.scores = []) (hm : x.size ≤ 20) :
    Does 97 x c (listV x c).1 (listV x c).2 := by
  have hml : x.items.length ≤ 1048576 := by unfold Val.size at hm; omega
  unfold listV cutAt layAt
  rcases hk with hk | hk | ⟨hk | hk, hl⟩
  · rw [if_pos hk]
    by_cases hf : 20 ≤ x.size
    · rw [if_pos hf]; exact list_push_full x c hk (by omega) hf
    · rw [if_neg hf]; exact list_push x c hk (by omega) hi hs
  · rw [if_neg (by omega), if_pos hk]
    by_cases hf : 20 ≤ x.size
    · rw [if_pos hf]; exact list_front_full x c hk (by omega) hf
    · rw [if_neg hf]; exact list_front x c hk (by omega) hi hs
  · rw [if_neg (by omega), if_neg (by omega), if_pos hk]
    have := list_pop x c hk hml hi hs hl
    rw [List.getElem?_eq_getElem (by omega)]
    exact this
  · rw [if_neg (by omega), if_neg (by omega), if_neg (by omega)]
    have := list_shift x c hk hml hi hs hl
    rw [List.getElem?_eq_getElem (by omega)]
    exact this

theorem set_does (x : Val) (c : Cmd) (hk : c.k = 11 ∨ c.k = 12 ∨ c.k = 13) (hi : x.pairs = []) (hs : x.scores = []) (hm : x.size ≤ 20) (hr : x.items.Pairwise (fun a b => ltS a b = true)) :
    Does 98 x c (setV x c).1 (setV x c).2 := by
  have hp := parts_txt c.txt x.items hr
  have hml : x.items.length ≤ 1048576 := by unfold Val.size at hm; omega
  unfold setV cutAt layAt
  cases hh : hitB (cmT c.txt) x.items (posOf (cmT c.txt) x.items) with
  | true =>
    obtain ⟨hpl, -⟩ := hit_some hh
    rw [if_pos rfl]
    rcases hk with hk | hk | hk
    · rw [if_pos hk]; exact set_add_there x c _ hk (by omega) hp hh
    · rw [if_neg (by omega), if_pos hk]; exact set_del x c _ hk hml hi hs hp hpl hh
    · rw [if_neg (by omega), if_neg (by omega)]; exact set_has x c _ hk (by omega) hp hh
  | false =>
    rw [if_neg (by simp)]
    rcases hk with hk | hk | hk
    · rw [if_pos hk]
      by_cases hf : 20 ≤ x.size
      · rw [if_pos hf]; exact set_full x c _ hk (by omega) hf hp hh
      · rw [if_neg hf]; exact set_add x c _ hk (by omega) hi hs hp hh
    · rw [if_neg (by omega)]; exact set_rem_miss x c _ hk (by omega) hp hh
    · rw [if_neg (by omega)]; exact set_has_miss x c _ hk (by omega) hp hh

theorem rank_does (x : Val) (c : Cmd) (hk : c.k = 14 ∨ c.k = 15 ∨ c.k = 16) (hi : x.pairs = []) (hs : x.items = []) (hm : x.size ≤ 20) (hr : x.scores.Pairwise (fun a b => ltSc a b = true)) :
    Does 99 x c (rankV x c).1 (rankV x c).2 := by
  have hml : x.scores.length ≤ 1048576 := by unfold Val.size at hm; omega
  unfold rankV
  cases hf : x.scores.findIdx? (isMember c.txt) with
  | some i =>
    have hx : idxI (isMember c.txt) x.scores = (i : Int) := by simp [idxI, hf]
    obtain ⟨hil, -, -⟩ := List.findIdx?_eq_some_iff_getElem.1 hf
    rcases hk with hk | hk | hk
    · simp only [if_pos hk]
      exact rank_add_old x c _ i hil hk hm hi hs hx (parts_sc _ _ (pair_delete i hr))
    · simp only [if_neg (show ¬ c.k = 14 by omega), if_pos hk]
      exact rank_del x c i hk hml hi hs hil hx
    · simp only [if_neg (show ¬ c.k = 14 by omega), if_neg (show ¬ c.k = 15 by omega)]
      exact rank_rank x c i hk (by omega) hx
  | none =>
    have hx : idxI (isMember c.txt) x.scores = -1 := by simp [idxI, hf]
    rcases hk with hk | hk | hk
    · simp only [if_pos hk]
      by_cases hz : 20 ≤ x.size
      · simp only [if_pos hz]; exact rank_full x c hk (by omega) hz hx
      · simp only [if_neg hz]; exact rank_add_new x c _ hk (by omega) hi hs hx (parts_sc _ _ hr)
    · simp only [if_neg (show ¬ c.k = 14 by omega), if_pos hk]
      exact rank_rem_miss x c hk (by omega) hx
    · simp only [if_neg (show ¬ c.k = 14 by omega), if_neg (show ¬ c.k = 15 by omega)]
      exact rank_rank_miss x c hk (by omega) hx
end Go.Proofs.YtfnephnecighaaaGreat
