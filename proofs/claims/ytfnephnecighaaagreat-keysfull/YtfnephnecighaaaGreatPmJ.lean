/- How many elements a value has, and their names: the commands Len and All. -/
import Derived.Test.YtfnephnecighaaaGreatPnJ
import Derived.Test.YtfnephnecighaaaGreatMqJ
namespace Go.Proofs.YtfnephnecighaaaGreat
open Go.RowKit
set_option linter.unusedVariables false

set_option maxHeartbeats 4000000 in
theorem perf_len (x : Val) (c : Cmd) (hk : c.k = 17) (hm : x.size ≤ 1048576) : PerfOk x c x { n := (x.size : Int) } := by
  intro B W ps is ss hB ho
  have hl := ho.lists hm
  have fp := From.own ho.p.1
  have fi := From.own ho.i.1
  have fs := From.own ho.s.1
  have hb0 := perfW_below x c ps is ss W
  have hE := fun w' (hb : Below W.heap.size W w') => elements_any (valV x.kind x.text x.count ps is ss) x w' ⟨_, _, _, rfl, hl.below hb⟩
  obtain ⟨pa, pc, ia, ic, sa, sc, rfl, rfl, rfl⟩ := ho.shapes
  have hfin : ∀ w', Below W.heap.size W w' → RepsF B w' (valV x.kind x.text x.count (.slice pa x.pairs.length pc) (.slice ia x.items.length ic) (.slice sa x.scores.length sc)) x := fun w' h => ⟨_, _, _, rfl, hl.below h, fp, fi, fs⟩
  have HF : Hid (∀ w', Below W.heap.size W w' → RepsF B w' (valV x.kind x.text x.count (.slice pa x.pairs.length pc) (.slice ia x.items.length ic) (.slice sa x.scores.length sc)) x) := hfin
  have HE : Hid (∀ w', Below W.heap.size W w' → Calls Tryz.prog 32 #[valV x.kind x.text x.count (.slice pa x.pairs.length pc) (.slice ia x.items.length ic) (.slice sa x.scores.length sc)] w' fun e w'' => e = .returned (.int .i64 (x.size : Nat)) ∧ Below w'.heap.size w' w'') := hE
  have n1 : (c.k == 1) = false := by simp [hk]
  have n2 : (c.k == 2) = false := by simp [hk]
  have n3 : (c.k == 3) = false := by simp [hk]
  have n17 : (c.k == 17) = true := by simp [hk]
  clear hk ho hl hfin hE
  go_enter Tryz.func57, Tryz.ntmps57
  go_wp2_with fail
  go_region_with (go_at_call 32; refine (HE.out _ ?_).mono ?_; exact hb0.drew; rintro e w1 ⟨rfl, hb1⟩; obtain ⟨ha1, hk1⟩ := same_block (hb1.block W.heap.size (by simp <;> omega)); obtain ⟨hd1, he1⟩ := same_block (hb1.block (W.heap.size + 1 + 1) (by simp <;> omega)); obtain ⟨hg1, hi1⟩ := same_block (hb1.block (W.heap.size + 1 + 1 + 1) (by simp <;> omega)))
  all_goals
    have hB1 := bstep hb0.drew hb1
    clear hb1
    go_wp2_with fail
    refine bodyPost_ret (v := .tuple #[valV x.kind x.text x.count (.slice pa x.pairs.length pc) (.slice ia x.items.length ic) (.slice sa x.scores.length sc), repV 0 ⟨#[]⟩ (x.size : Nat) (.slice none 0 0)]) (by simp [results, Tryz.results57, go_sem, hd1, hg1]) rfl ⟨_, _, rfl, HF.out _ ?_, ⟨_, rfl, RowAt.nil _ _ _, From.nil _⟩, Below.mono (B := W.heap.size) ?_ hB⟩
    all_goals
      (repeat (with_reducible first | exact hB1 | refine Below.drew ?_ | refine Below.setCell ?_ ?_ _))
      all_goals (first | omega | (simp <;> omega))

set_option maxHeartbeats 4000000 in
theorem perf_all (x : Val) (c : Cmd) (hk : c.k = 18) (hm : x.size ≤ 1048576) : PerfOk x c x { list := x.names } := by
  intro B W ps is ss hB ho
  have hl := ho.lists hm
  have fp := From.own ho.p.1
  have fi := From.own ho.i.1
  have fs := From.own ho.s.1
  have hnl : x.names.length ≤ 140737488355328 := by unfold Val.size at hm; simp [Val.names]; omega
  have hb0 := perfW_below x c ps is ss W
  have hz0 := perfW_size x c ps is ss W
  have hE := fun w' (hb : Below W.heap.size W w') => names_any (valV x.kind x.text x.count ps is ss) x w' ⟨_, _, _, rfl, hl.below hb⟩ hm
  obtain ⟨pa, pc, ia, ic, sa, sc, rfl, rfl, rfl⟩ := ho.shapes
  have hfin : ∀ w', Below W.heap.size W w' → RepsF B w' (valV x.kind x.text x.count (.slice pa x.pairs.length pc) (.slice ia x.items.length ic) (.slice sa x.scores.length sc)) x := fun w' h => ⟨_, _, _, rfl, hl.below h, fp, fi, fs⟩
  have HF : Hid (∀ w', Below W.heap.size W w' → RepsF B w' (valV x.kind x.text x.count (.slice pa x.pairs.length pc) (.slice ia x.items.length ic) (.slice sa x.scores.length sc)) x) := hfin
  have HE : Hid (∀ w', Below W.heap.size W w' → Calls Tryz.prog 95 #[valV x.kind x.text x.count (.slice pa x.pairs.length pc) (.slice ia x.items.length ic) (.slice sa x.scores.length sc)] w' fun e w'' => ∃ r, e = .returned r ∧ w''.ownsRow w'.heap.size 9 1 r x.names.length (x.names.flatMap encI) ∧ Below w'.heap.size w' w'') := hE
  have HNL : Hid (x.names.length ≤ 140737488355328) := hnl
  have n1 : (c.k == 1) = false := by simp [hk]
  have n2 : (c.k == 2) = false := by simp [hk]
  have n3 : (c.k == 3) = false := by simp [hk]
  have n17 : (c.k == 17) = false := by simp [hk]
  have n18 : (c.k == 18) = true := by simp [hk]
  clear hk ho hl hfin hE hnl
  generalize x.names = L at HE HNL ⊢
  go_enter Tryz.func57, Tryz.ntmps57
  go_wp2_with fail
  go_region_with (go_at_call 95; refine (HE.out _ ?_).mono ?_; exact hb0.drew; rintro e w1 ⟨r1, rfl, ho1, hb1⟩; obtain ⟨la, lc, rfl⟩ := ownsRow_shape ho1; obtain ⟨ha1, hk1⟩ := same_block (hb1.block W.heap.size (by simp <;> omega)); obtain ⟨hd1, he1⟩ := same_block (hb1.block (W.heap.size + 1 + 1) (by simp <;> omega)); obtain ⟨hg1, hi1⟩ := same_block (hb1.block (W.heap.size + 1 + 1 + 1) (by simp <;> omega)))
  all_goals
    have hB1 := bstep hb0.drew hb1
    have hrow : RowAt 1 encI w1 (.slice la L.length lc) L := RowAt.ofOwn lenI ho1 HNL.out
    have hfr : From (W.heap.size + 4) (.slice la L.length lc) := (From.own ho1).mono (Nat.le_of_eq hz0.symm)
    have hru : RepRF (W.heap.size + 4) w1 (repV 0 ⟨#[]⟩ 0 (.slice la L.length lc)) { list := L } := ⟨_, rfl, hrow, hfr⟩
    clear hb1 ho1 hrow hfr
    go_wp2_with fail
    refine bodyPost_ret (v := .tuple #[valV x.kind x.text x.count (.slice pa x.pairs.length pc) (.slice ia x.items.length ic) (.slice sa x.scores.length sc), repV 0 ⟨#[]⟩ 0 (.slice la L.length lc)]) (by simp [results, Tryz.results57, go_sem, hd1, hg1]) rfl ⟨_, _, rfl, HF.out _ ?_, RepRF.mono (B := W.heap.size + 4) ?_ (by omega), Below.mono (B := W.heap.size) ?_ hB⟩
    rotate_left
    · (repeat (with_reducible first | exact hru | refine RepRF.drew ?_ | refine RepRF.setCell ?_ ?_ _))
      all_goals (first | omega | (simp <;> omega))
    all_goals
      (repeat (with_reducible first | exact hB1 | refine Below.drew ?_ | refine Below.setCell ?_ ?_ _))
      all_goals (first | omega | (simp <;> omega))
end Go.Proofs.YtfnephnecighaaaGreat

/- What performHash, performList, performSet and performRank make of a value in its order: just what the plain functions say. -/
namespace Go.Proofs.YtfnephnecighaaaGreat
open Go.RowKit
set_option linter.unusedVariables false

theorem parts_fld (t : ByteArray) (l : List (ByteArray × ByteArray)) (h : l.Pairwise (fun a b => ltP a b = true)) : Parts (cmF t) l (posOf (cmF t) l) :=
  parts_of (lt := ltP) (cmF t) (fun a b hab hb => by rw [cmpS_lt] at hb ⊢; exact ltS_trans hab hb) l h
theorem parts_txt (t : ByteArray) (l : List ByteArray) (h : l.Pairwise (fun a b => ltS a b = true)) : Parts (cmT t) l (posOf (cmT t) l) :=
  parts_of (lt := ltS) (cmT t) (fun a b hab hb => by rw [cmpS_lt] at hb ⊢; exact ltS_trans hab hb) l h
theorem parts_sc (t : ByteArray × Int) (l : List (ByteArray × Int)) (h : l.Pairwise (fun a b => ltSc a b = true)) : Parts (cmZ t) l (posOf (cmZ t) l) :=
  parts_of (lt := ltSc) (cmZ t) (fun a b hab hb => by rw [cmpSc_neg] at hb ⊢; exact ltSc_trans hab hb) l h

theorem hash_does (x : Val) (c : Cmd) (hk : c.k = 4 ∨ c.k = 5 ∨ c.k = 6) (hi : x.items = []) (hs : x.scores = []) (hm : x.size ≤ 20) (hr : x.pairs.Pairwise (fun a b => ltP a b = true)) :
    Does 96 x c (hashV x c).1 (hashV x c).2 := by
  have hp := parts_fld c.fld x.pairs hr
  have hml : x.pairs.length ≤ 1048576 := by unfold Val.size at hm; omega
  unfold hashV cutAt layAt
  cases hh : hitB (cmF c.fld) x.pairs (posOf (cmF c.fld) x.pairs) with
  | true =>
    obtain ⟨hpl, -⟩ := hit_some hh
    rw [if_pos rfl]
    rcases hk with hk | hk | hk
    · rw [if_pos hk]; exact hash_set_old x c _ hk (by omega) hpl hi hs hp hh
    · rw [if_neg (by omega), if_pos hk]
      have := hash_get x c _ hk (by omega) hp hpl hh
      rw [List.getElem?_eq_getElem hpl]
      exact this
    · rw [if_neg (by omega), if_neg (by omega)]; exact hash_del x c _ hk hml hi hs hp hpl hh
  | false =>
    rw [if_neg (by simp)]
    rcases hk with hk | hk | hk
    · rw [if_pos hk]
      by_cases hf : 20 ≤ x.size
      · rw [if_pos hf]; exact hash_full x c _ hk (by omega) hf hp hh
      · rw [if_neg hf]; exact hash_set_new x c _ hk (by omega) hi hs hp hh
    · rw [if_neg (by omega), if_pos hk]; exact hash_get_miss x c _ hk (by omega) hp hh
    · rw [if_neg (by omega), if_neg (by omega)]; exact hash_del_miss x c _ hk (by omega) hp hh

theorem list_does (x : Val) (c : Cmd) (hk : c.k = 7 ∨ c.k = 8 ∨ ((c.k = 9 ∨ c.k = 10) ∧ 0 < x.items.length)) (hi : x.pairs = []) (hs : x.scores = []) (hm : x.size ≤ 20) :
    Does 97 x c (listV x c).1 (listV x c).2 := by
  have hml : x.items.length ≤ 1048576 := by unfold Val.size at hm; omega
  unfold listV cutAt layAt
  rcases hk with hk | hk | ⟨hk | hk, hl⟩
  · rw [if_pos hk]
    by_cases hf : 20 ≤ x.size
    · rw [if_pos hf]; exact list_push_full x c hk (by omega) hf
    · rw [if_neg hf]; exact list_push x c hk (by omega) hi hs
  · rw [if_neg (by omega), if_pos hk]
    by_cases hf : 20 ≤ x.size
    · rw [if_pos hf]; exact list_front_full x c hk (by omega) hf
    · rw [if_neg hf]; exact list_front x c hk (by omega) hi hs
  · rw [if_neg (by omega), if_neg (by omega), if_pos hk]
    have := list_pop x c hk hml hi hs hl
    rw [List.getElem?_eq_getElem (by omega)]
    exact this
  · rw [if_neg (by omega), if_neg (by omega), if_neg (by omega)]
    have := list_shift x c hk hml hi hs hl
    rw [List.getElem?_eq_getElem (by omega)]
    exact this

theorem set_does (x : Val) (c : Cmd) (hk : c.k = 11 ∨ c.k = 12 ∨ c.k = 13) (hi : x.pairs = []) (hs : x.scores = []) (hm : x.size ≤ 20) (hr : x.items.Pairwise (fun a b => ltS a b = true)) :
    Does 98 x c (setV x c).1 (setV x c).2 := by
  have hp := parts_txt c.txt x.items hr
  have hml : x.items.length ≤ 1048576 := by unfold Val.size at hm; omega
  unfold setV cutAt layAt
  cases hh : hitB (cmT c.txt) x.items (posOf (cmT c.txt) x.items) with
  | true =>
    obtain ⟨hpl, -⟩ := hit_some hh
    rw [if_pos rfl]
    rcases hk with hk | hk | hk
    · rw [if_pos hk]; exact set_add_there x c _ hk (by omega) hp hh
    · rw [if_neg (by omega), if_pos hk]; exact set_del x c _ hk hml hi hs hp hpl hh
    · rw [if_neg (by omega), if_neg (by omega)]; exact set_has x c _ hk (by omega) hp hh
  | false =>
    rw [if_neg (by simp)]
    rcases hk with hk | hk | hk
    · rw [if_pos hk]
      by_cases hf : 20 ≤ x.size
      · rw [if_pos hf]; exact set_full x c _ hk (by omega) hf hp hh
      · rw [if_neg hf]; exact set_add x c _ hk (by omega) hi hs hp hh
    · rw [if_neg (by omega)]; exact set_rem_miss x c _ hk (by omega) hp hh
    · rw [if_neg (by omega)]; exact set_has_miss x c _ hk (by omega) hp hh

theorem rank_does (x : Val) (c : Cmd) (hk : c.k = 14 ∨ c.k = 15 ∨ c.k = 16) (hi : x.pairs = []) (hs : x.items = []) (hm : x.size ≤ 20) (hr : x.scores.Pairwise (fun a b => ltSc a b = true)) :
    Does 99 x c (rankV x c).1 (rankV x c).2 := by
  have hml : x.scores.length ≤ 1048576 := by unfold Val.size at hm; omega
  unfold rankV
  cases hf : x.scores.findIdx? (isMember c.txt) with
  | some i =>
    have hx : idxI (isMember c.txt) x.scores = (i : Int) := by simp [idxI, hf]
    obtain ⟨hil, -, -⟩ := List.findIdx?_eq_some_iff_getElem.1 hf
    rcases hk with hk | hk | hk
    · simp only [if_pos hk]
      exact rank_add_old x c _ i hil hk hm hi hs hx (parts_sc _ _ (pair_delete i hr))
    · simp only [if_neg (show ¬ c.k = 14 by omega), if_pos hk]
      exact rank_del x c i hk hml hi hs hil hx
    · simp only [if_neg (show ¬ c.k = 14 by omega), if_neg (show ¬ c.k = 15 by omega)]
      exact rank_rank x c i hk (by omega) hx
  | none =>
    have hx : idxI (isMember c.txt) x.scores = -1 := by simp [idxI, hf]
    rcases hk with hk | hk | hk
    · simp only [if_pos hk]
      by_cases hz : 20 ≤ x.size
      · simp only [if_pos hz]; exact rank_full x c hk (by omega) hz hx
      · simp only [if_neg hz]; exact rank_add_new x c _ hk (by omega) hi hs hx (parts_sc _ _ hr)
    · simp only [if_neg (show ¬ c.k = 14 by omega), if_pos hk]
      exact rank_rem_miss x c hk (by omega) hx
    · simp only [if_neg (show ¬ c.k = 14 by omega), if_neg (show ¬ c.k = 15 by omega)]
      exact rank_rank_miss x c hk (by omega) hx
end Go.Proofs.YtfnephnecighaaaGreat

/- value.Do answers just what the plain functions say, at every value and every command. -/
namespace Go.Proofs.YtfnephnecighaaaGreat
open Go.RowKit
set_option linter.unusedVariables false

structure OkVal (x : Val) : Prop where
  lo : 1 ≤ x.kind
  hi : x.kind ≤ 6
  foreign : x.foreign = false
  sizes : x.sizesB = true
  numbers : x.numbersB = true
  order : x.orderB = true
theorem okVal {x : Val} (h : x.fault = 0) : OkVal x := by
  unfold Val.fault at h
  by_cases h1 : x.kind < 1 ∨ 6 < x.kind
  · rw [if_pos h1] at h; omega
  rw [if_neg h1] at h
  cases h2 : x.foreign with
  | true => rw [h2, if_pos rfl] at h; omega
  | false =>
    rw [h2, if_neg (by simp)] at h
    cases h3 : x.sizesB with
    | false => rw [h3, if_pos rfl] at h; omega
    | true =>
      rw [h3, if_neg (by simp)] at h
      cases h4 : x.numbersB with
      | false => rw [h4, if_pos rfl] at h; omega
      | true =>
        rw [h4, if_neg (by simp)] at h
        cases h5 : x.orderB with
        | false => rw [h5, if_pos rfl] at h; omega
        | true => exact ⟨by omega, by omega, h2, h3, h4, h5⟩
theorem OkVal.fault {x : Val} (h : OkVal x) : x.fault = 0 := by
  have h1 := h.lo
  have h2 := h.hi
  unfold Val.fault
  rw [if_neg (by omega), h.foreign, h.sizes, h.numbers, h.order]
  simp
theorem OkVal.size {x : Val} (h : OkVal x) : x.size ≤ 20 := by
  have h1 := h.lo
  have h2 := h.hi
  have hf := h.foreign
  have hs := h.sizes
  by_cases hh : holdsB x.kind = true
  · simp [Val.sizesB, hh] at hs; omega
  · have : x.kind = 1 ∨ x.kind = 2 := by simp [holdsB] at hh; omega
    simp [Val.foreign, foreignN] at hf
    unfold Val.size
    rcases this with h | h <;> simp [h] at hf <;> simp [hf]
theorem OkVal.one {x : Val} (h : OkVal x) (hk : 3 ≤ x.kind) : 1 ≤ x.size := by
  have h2 := h.hi
  have hs := h.sizes
  have hh : holdsB x.kind = true := by simp [holdsB]; omega
  simp [Val.sizesB, hh] at hs; omega
theorem OkVal.hash {x : Val} (h : OkVal x) (hk : x.kind = 3) : x.items = [] ∧ x.scores = [] ∧ x.pairs.Pairwise (fun a b => ltP a b = true) := by
  have hf := h.foreign
  have ho := h.order
  simp [Val.foreign, foreignN, hk] at hf
  rw [Val.orderB, if_pos hk] at ho
  exact ⟨by simp_all, by simp_all, (rises_pair (lt := ltP) (fun a b c h h' => ltS_trans h h') _).1 ho⟩
theorem OkVal.list {x : Val} (h : OkVal x) (hk : x.kind = 4) : x.pairs = [] ∧ x.scores = [] := by
  have hf := h.foreign
  simp [Val.foreign, foreignN, hk] at hf
  exact ⟨by simp_all, by simp_all⟩
theorem OkVal.set {x : Val} (h : OkVal x) (hk : x.kind = 5) : x.pairs = [] ∧ x.scores = [] ∧ x.items.Pairwise (fun a b => ltS a b = true) := by
  have hf := h.foreign
  have ho := h.order
  simp [Val.foreign, foreignN, hk] at hf
  rw [Val.orderB, if_neg (by omega), if_pos hk] at ho
  exact ⟨by simp_all, by simp_all, (rises_pair (lt := ltS) (fun a b c h h' => ltS_trans h h') _).1 ho⟩
theorem OkVal.rank {x : Val} (h : OkVal x) (hk : x.kind = 6) : x.pairs = [] ∧ x.items = [] ∧ x.scores.Pairwise (fun a b => ltSc a b = true) := by
  have hf := h.foreign
  have ho := h.order
  simp [Val.foreign, foreignN, hk] at hf
  rw [Val.orderB, if_neg (by omega), if_neg (by omega), if_pos hk, Bool.and_eq_true] at ho
  exact ⟨by simp_all, by simp_all, (rises_pair (lt := ltSc) (fun a b c h h' => ltSc_trans h h') _).1 ho.1⟩

structure OkCmd (c : Cmd) : Prop where
  lo : 1 ≤ c.k
  hi : c.k ≤ 22
  n : isCountB c.n = true
theorem okCmd {c : Cmd} (h : c.fault = 0) : OkCmd c := by
  unfold Cmd.fault cmdFault at h
  by_cases h1 : c.k < 1 ∨ 22 < c.k
  · rw [if_pos h1] at h; omega
  rw [if_neg h1] at h
  cases h2 : foreignB c.k c.key c.fld c.txt c.n with
  | true => rw [h2, if_pos rfl] at h; omega
  | false =>
    rw [h2, if_neg (by simp)] at h
    cases h3 : partsB c.k c.key c.fld c.txt with
    | false => rw [h3, if_pos rfl] at h; omega
    | true =>
      rw [h3, if_neg (by simp)] at h
      cases h4 : isCountB c.n with
      | false => rw [h4, if_pos rfl] at h; omega
      | true => exact ⟨by omega, by omega, h4⟩

/-- A value that perform may be given beside a command. -/
structure Fit (x : Val) (c : Cmd) : Prop where
  size : x.size ≤ 20
  kind : c.k = 1 ∨ c.k = 17 ∨ c.k = 18 ∨ x.kind = kindOfI c.k
  count : isCountB x.count = true
  hash : x.kind = 3 → x.items = [] ∧ x.scores = [] ∧ x.pairs.Pairwise (fun a b => ltP a b = true)
  list : x.kind = 4 → x.pairs = [] ∧ x.scores = []
  some : (c.k = 9 ∨ c.k = 10) → x.kind = 4 → 0 < x.items.length
  set : x.kind = 5 → x.pairs = [] ∧ x.scores = [] ∧ x.items.Pairwise (fun a b => ltS a b = true)
  rank : x.kind = 6 → x.pairs = [] ∧ x.items = [] ∧ x.scores.Pairwise (fun a b => ltSc a b = true)
theorem fit_ok {x : Val} {c : Cmd} (h : OkVal x) (hf : fitsB x.kind c.k = true) : Fit x c := by
  refine ⟨h.size, ?_, ?_, h.hash, h.list, fun _ hk => ?_, h.set, h.rank⟩
  · unfold fitsB at hf
    by_cases h1 : c.k = 1
    · exact .inl h1
    by_cases h2 : c.k = 17 ∨ c.k = 18
    · rcases h2 with h2 | h2
      · exact .inr (.inl h2)
      · exact .inr (.inr (.inl h2))
    rw [if_neg h1, if_neg h2] at hf
    exact .inr (.inr (.inr (by simpa using hf)))
  · have := h.numbers
    simp [Val.numbersB] at this
    exact this.1
  · have h1 := h.one (by omega)
    obtain ⟨h2, h3⟩ := h.list hk
    unfold Val.size at h1
    rw [h2, h3] at h1
    simp at h1
    omega
theorem fit_new {c : Cmd} (h : makesB c.k = true) : Fit (emptyVal (kindOfI c.k)) c := by
  refine ⟨by simp [emptyVal, Val.size], .inr (.inr (.inr rfl)), by simp [emptyVal, isCountB], fun _ => ⟨rfl, rfl, List.Pairwise.nil⟩, fun _ => ⟨rfl, rfl⟩, fun hk _ => ?_, fun _ => ⟨rfl, rfl, List.Pairwise.nil⟩, fun _ => ⟨rfl, rfl, List.Pairwise.nil⟩⟩
  simp [makesB] at h
  omega

theorem perf_any (x : Val) (c : Cmd) (hx : Fit x c) (hc : OkCmd c) (hs : ofStoreB c.k = false) : PerfOk x c (performV x c).1 (performV x c).2 := by
  have h20 := hx.size
  have hlo := hc.lo
  have hhi := hc.hi
  have hk := hx.kind
  have hst : ¬ (c.k = 19 ∨ c.k = 20 ∨ c.k = 21 ∨ c.k = 22) := by simpa [ofStoreB] using hs
  unfold performV
  by_cases h1 : c.k = 1
  · rw [if_pos h1]; exact perf_put x c h1
  by_cases h2 : c.k = 2
  · rw [if_neg h1, if_pos h2]; exact perf_get x c h2 (by omega)
  by_cases h3 : c.k = 3
  · rw [if_neg h1, if_neg h2, if_pos h3]
    have hb : -1099511627776 ≤ x.count ∧ x.count ≤ 1099511627776 := by simpa [isCountB] using hx.count
    have hn : -1099511627776 ≤ c.n ∧ c.n ≤ 1099511627776 := by simpa [isCountB] using hc.n
    exact perf_add x c h3 (by omega) hb.1 hb.2 hn.1 hn.2
  by_cases h17 : c.k = 17
  · rw [if_neg h1, if_neg h2, if_neg h3, if_pos h17]; exact perf_len x c h17 (by omega)
  by_cases h18 : c.k = 18
  · rw [if_neg h1, if_neg h2, if_neg h3, if_neg h17, if_pos h18]; exact perf_all x c h18 (by omega)
  rw [if_neg h1, if_neg h2, if_neg h3, if_neg h17, if_neg h18]
  have hof : ofKind c.k := ⟨by simpa using h1, by simpa using h2, by simpa using h3, by simpa using h17, by simpa using h18⟩
  have hkk : x.kind = kindOfI c.k := by
    rcases hk with h | h | h | h
    · exact absurd h h1
    · exact absurd h h17
    · exact absurd h h18
    · exact h
  have hcase : (x.kind = 3 ∧ (c.k = 4 ∨ c.k = 5 ∨ c.k = 6)) ∨ (x.kind = 4 ∧ (c.k = 7 ∨ c.k = 8 ∨ c.k = 9 ∨ c.k = 10)) ∨ (x.kind = 5 ∧ (c.k = 11 ∨ c.k = 12 ∨ c.k = 13)) ∨ (x.kind = 6 ∧ (c.k = 14 ∨ c.k = 15 ∨ c.k = 16)) := by
    rw [hkk]
    unfold kindOfI
    have h416 : 4 ≤ c.k ∧ c.k ≤ 16 := by omega
    rw [if_neg (by omega), if_neg h3]
    by_cases a : 4 ≤ c.k ∧ c.k ≤ 6
    · rw [if_pos a]; left; omega
    rw [if_neg a]
    by_cases b : 7 ≤ c.k ∧ c.k ≤ 10
    · rw [if_pos b]; right; left; omega
    rw [if_neg b]
    by_cases d : 11 ≤ c.k ∧ c.k ≤ 13
    · rw [if_pos d]; right; right; left; omega
    rw [if_neg d, if_pos (by omega)]
    right; right; right; omega
  rcases hcase with ⟨h, hc'⟩ | ⟨h, hc'⟩ | ⟨h, hc'⟩ | ⟨h, hc'⟩
  · rw [if_pos h]
    obtain ⟨e1, e2, e3⟩ := hx.hash h
    exact perf_hash x c _ _ h hof (hash_does x c hc' e1 e2 h20 e3)
  · rw [if_neg (by omega), if_pos h]
    obtain ⟨e1, e2⟩ := hx.list h
    refine perf_list x c _ _ h hof (list_does x c ?_ e1 e2 h20)
    rcases hc' with h | h | h | h
    · exact .inl h
    · exact .inr (.inl h)
    · exact .inr (.inr ⟨.inl h, hx.some (.inl h) (by assumption)⟩)
    · exact .inr (.inr ⟨.inr h, hx.some (.inr h) (by assumption)⟩)
  · rw [if_neg (by omega), if_neg (by omega), if_pos h]
    obtain ⟨e1, e2, e3⟩ := hx.set h
    exact perf_set x c _ _ h hof (set_does x c hc' e1 e2 h20 e3)
  · rw [if_neg (by omega), if_neg (by omega), if_neg (by omega)]
    obtain ⟨e1, e2, e3⟩ := hx.rank h
    exact perf_rank x c _ _ h hof (rank_does x c hc' e1 e2 h20 e3)

theorem of_refusal {x : Val} {c : Cmd} (h : refusalI x c = 0) : (x.none = true ∨ (x.none = false ∧ x.fault = 0)) ∧ c.fault = 0 ∧ ofStoreB c.k = false := by
  unfold refusalI at h
  by_cases h1 : x.none = false ∧ x.fault ≠ 0
  · rw [if_pos h1] at h; exact absurd h h1.2
  rw [if_neg h1] at h
  by_cases h2 : c.fault ≠ 0
  · rw [if_pos h2] at h; exact absurd h h2
  rw [if_neg h2] at h
  cases h3 : ofStoreB c.k with
  | true => rw [h3, if_pos rfl] at h; omega
  | false =>
    refine ⟨?_, by omega, rfl⟩
    cases h4 : x.none with
    | true => exact .inl rfl
    | false => exact .inr ⟨rfl, Decidable.byContradiction fun e => h1 ⟨h4, e⟩⟩

theorem do_any (x : Val) (c : Cmd) : DoOk x c (doV x c) (doR x c) (refusalI x c) := by
  by_cases hr : refusalI x c ≠ 0
  · rw [doV, doR, if_pos hr, if_pos hr]
    exact do_refused x c _ rfl hr
  have h0 : refusalI x c = 0 := by omega
  obtain ⟨hx, hc, hs⟩ := of_refusal h0
  have hC := okCmd hc
  rw [doV, doR, if_neg hr, if_neg hr, h0]
  have hsz : x.size ≤ 1048576 := by
    rcases hx with hn | ⟨-, hf⟩
    · simp [Val.none, noneN] at hn; omega
    · have := (okVal hf).size; omega
  have key : AnsOk x c (answerV x c).1 (answerV x c).2 ∨ (AnsErr x c (answerV x c).2.code ∧ (answerV x c).2.code ≠ 0) := by
    unfold answerV
    rcases hx with hn | ⟨hn, hf⟩
    · rw [hn, if_pos rfl]
      cases hm : makesB c.k with
      | true => rw [if_pos rfl]; exact .inl (ans_makes x c _ _ hn hm (perf_any _ c (fit_new hm) hC hs))
      | false => rw [if_neg (by simp)]; exact .inr ⟨ans_none x c hn hm, by simp⟩
    · rw [hn, if_neg (by simp)]
      cases hm : fitsB x.kind c.k with
      | true => rw [if_pos rfl]; exact .inl (ans_fits x c _ _ hn hm hsz (perf_any x c (fit_ok (okVal hf) hm) hC hs))
      | false => rw [if_neg (by simp)]; exact .inr ⟨ans_type x c hn hm, by simp⟩
  by_cases hcode : (answerV x c).2.code ≠ 0
  · rw [if_pos hcode, if_pos hcode]
    have ha : AnsErr x c (answerV x c).2.code := by
      rcases key with h | h
      · exact h.err
      · exact h.1
    exact do_err x c _ h0 hsz ha hcode
  · rw [if_neg hcode, if_neg hcode]
    rcases key with h | h
    · exact do_ok x c _ _ h0 h (by omega)
    · exact absurd h.2 hcode
end Go.Proofs.YtfnephnecighaaaGreat
