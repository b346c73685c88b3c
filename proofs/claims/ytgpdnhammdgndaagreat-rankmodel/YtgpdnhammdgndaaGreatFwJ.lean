/- What value.Do comes to, all written out; small commands. -/
import Derived.Test.YtgpdnhammdgndaaGreatFu
import Derived.Test.YtgpdnhammdgndaaGreatKa
namespace Go.Proofs.YtgpdnhammdgndaaGreat
open Go.RowKit
set_option linter.unusedVariables false

theorem lt_at {w : World} {b : Nat} {o : Obj} (h : w.heap[b]? = some o) : b < w.heap.size := lt_heap h
theorem alloc_at (w : World) (o : Obj) : (w.alloc o).heap[w.heap.size]? = some o := alloc_here w o
theorem cellsB {w : World} {b : Nat} {cs : Array Value} {t : TypeId} (h : w.heap[b]? = some (.cells cs t (0, 0))) : (∀ o, w.cell? ⟨b, o, none⟩ = cs[o]?) ∧ (∀ o, w.frozen? ⟨b, o, none⟩ = false) := block_cells h

abbrev slV (a : Option Addr) {α : Type} (l : List α) (c : Nat) : Value := .slice a l.length c
/-- What a call of Do comes to: the value, the reply, the error. -/
def Acts (x : Val) (c : Cmd) (y : Val) (r : Rep) (f : Int) : Prop := ∀ (W : World) (ps is ss : Value), Lists W ps is ss x → Calls Tryz.prog 11 #[valV x.kind x.text x.count ps is ss, cmdV c.k c.key c.fld c.txt c.n] W fun e w' =>
  ∃ pa pc ia ic sa sc la lc, e = .returned (.tuple #[valV y.kind y.text y.count (.slice pa y.pairs.length pc) (.slice ia y.items.length ic) (.slice sa y.scores.length sc), repV r.code r.text r.n (.slice la r.list.length lc), .int .i64 f]) ∧
    Lists w' (.slice pa y.pairs.length pc) (.slice ia y.items.length ic) (.slice sa y.scores.length sc) y ∧ RowAt 1 encI w' (.slice la r.list.length lc) r.list ∧ Below W.heap.size W w'
theorem do_acts {x : Val} {c : Cmd} {y : Val} {r : Rep} {f : Int} (h : DoOk x c y r f) : Acts x c y r f := by
  intro W ps is ss hl
  refine (h W _ ⟨ps, is, ss, rfl, hl⟩).mono ?_
  rintro e w' ⟨v', u, rfl, ⟨qs, js, ts, rfl, hl', -⟩, ⟨ls, rfl, hr, -⟩, hb⟩
  obtain ⟨pa, pc, ia, ic, sa, sc, rfl, rfl, rfl, -⟩ := hl'.lens
  obtain ⟨la, lc, rfl⟩ : ∃ la lc, ls = .slice la r.list.length lc := by obtain ⟨-, a, c, h, -⟩ := hr; exact ⟨a, c, h⟩
  exact ⟨pa, pc, ia, ic, sa, sc, la, lc, rfl, hl', hr, hb⟩
theorem acts_any (x : Val) (c : Cmd) : Acts x c (doV x c) (doR x c) (refusalI x c) := do_acts (do_any x c)

abbrev lenC : Cmd := ⟨17, ⟨#[107]⟩, ⟨#[]⟩, ⟨#[]⟩, 0⟩
abbrev allC : Cmd := ⟨18, ⟨#[107]⟩, ⟨#[]⟩, ⟨#[]⟩, 0⟩
abbrev getC : Cmd := ⟨2, ⟨#[107]⟩, ⟨#[]⟩, ⟨#[]⟩, 0⟩
abbrev putC (t : ByteArray) : Cmd := ⟨1, ⟨#[107]⟩, ⟨#[]⟩, t, 0⟩
theorem lenC_fault : lenC.fault = 0 := by decide +kernel
theorem allC_fault : allC.fault = 0 := by decide +kernel
theorem getC_fault : getC.fault = 0 := by decide +kernel
theorem putC_fault (t : ByteArray) (h : t.size ≤ 20) : (putC t).fault = 0 := by
  have e1 : (⟨#[107]⟩ : ByteArray).size = 1 := by decide +kernel
  have e2 : (⟨#[]⟩ : ByteArray).toList = [] := empty_list
  simp [Cmd.fault, cmdFault, foreignB, partsB, hasKeyB, hasFieldB, hasTextB, hasNumberB, isNameB, isTextB, isCountB, e1, e2, h]
theorem holds_fits {x : Val} (h3 : 3 ≤ x.kind) (h6 : x.kind ≤ 6) (k : Int) (hk : k = 17 ∨ k = 18) : fitsB x.kind k = true := by
  have : holdsB x.kind = true := by simp [holdsB]; omega
  unfold fitsB
  rw [if_neg (by omega), if_pos hk, this]
theorem OkVal.kept {x : Val} (h : OkVal x) : keptV x = x := by
  unfold keptV
  by_cases hh : holdsB x.kind = true
  · have := h.one (by simp [holdsB] at hh; omega)
    rw [if_neg (by simp; intro _; omega)]
  · rw [if_neg (by simp [hh])]
theorem len_acts {x : Val} (h : OkVal x) (h3 : 3 ≤ x.kind) : Acts x lenC x { n := (x.size : Int) } 0 := by
  have hr := Well.ref (c := lenC) (.inr h) lenC_fault rfl
  have ha : answerV x lenC = (x, { n := (x.size : Int) }) := by
    unfold answerV
    rw [h.not_none, if_neg (by simp), if_pos (holds_fits h3 h.hi 17 (.inl rfl))]; rfl
  have := acts_any x lenC
  unfold doV doR at this
  rw [hr, ha] at this
  simpa [h.kept] using this
theorem all_acts {x : Val} (h : OkVal x) (h3 : 3 ≤ x.kind) : Acts x allC x { list := x.names } 0 := by
  have hr := Well.ref (c := allC) (.inr h) allC_fault rfl
  have ha : answerV x allC = (x, { list := x.names }) := by
    unfold answerV
    rw [h.not_none, if_neg (by simp), if_pos (holds_fits h3 h.hi 18 (.inr rfl))]; rfl
  have := acts_any x allC
  unfold doV doR at this
  rw [hr, ha] at this
  simpa [h.kept] using this
theorem put_acts {x : Val} (h : Well x) (t : ByteArray) (ht : t.size ≤ 20) : Acts x (putC t) ⟨1, t, 0, [], [], []⟩ {} 0 := by
  have hr := h.ref (c := putC t) (putC_fault t ht) rfl
  have ha : answerV x (putC t) = (⟨1, t, 0, [], [], []⟩, {}) := by
    unfold answerV
    cases hn : x.none with
    | true => rw [if_pos rfl]; rfl
    | false => rw [if_neg (by simp), if_pos (by rfl)]; rfl
  have := acts_any x (putC t)
  unfold doV doR at this
  rw [hr, ha] at this
  simpa [kept_small, holdsB] using this
theorem get_acts (t : ByteArray) (ht : t.size ≤ 20) : Acts ⟨1, t, 0, [], [], []⟩ getC ⟨1, t, 0, [], [], []⟩ { text := t } 0 := by
  have hx : OkVal ⟨1, t, 0, [], [], []⟩ := ok_text (by simp [isTextB, ht])
  have hr := Well.ref (c := getC) (.inr hx) getC_fault rfl
  have ha : answerV ⟨1, t, 0, [], [], []⟩ getC = (⟨1, t, 0, [], [], []⟩, { text := t }) := by
    unfold answerV
    rw [hx.not_none, if_neg (by simp), if_pos (by rfl)]; rfl
  have := acts_any ⟨1, t, 0, [], [], []⟩ getC
  unfold doV doR at this
  rw [hr, ha] at this
  simpa [hx.kept] using this
theorem names_length (x : Val) : x.names.length = x.size := by simp [Val.names, Val.size]; omega
theorem picked_self (n m : Nat) (h : n < m) : pickedN (n : Int) m = n := by unfold pickedN; rw [if_neg (by omega)]; simp; exact Nat.mod_eq_of_lt h
end Go.Proofs.YtgpdnhammdgndaaGreat

/- A rank's members stand anew, go, and are asked for: what value.Do makes of it. -/
namespace Go.Proofs.YtgpdnhammdgndaaGreat
open Go.RowKit
set_option linter.unusedVariables false

theorem rank_okX {L : List (ByteArray × Int)} (h : RankL L) (h1 : 1 ≤ L.length) : OkVal (rankX L) := ok_rank h1 h.1 h.2.1 h.2.2.1 h.2.2.2.1 h.2.2.2.2
theorem ans_rank {L : List (ByteArray × Int)} (h : RankL L) (h1 : 1 ≤ L.length) {c : Cmd} (hk : 14 ≤ c.k ∧ c.k ≤ 16) : answerV (rankX L) c = rankV (rankX L) c := by
  unfold answerV
  rw [(rank_okX h h1).not_none, if_neg (by simp), if_pos]
  · unfold performV
    rw [if_neg (by omega), if_neg (by omega), if_neg (by omega), if_neg (by omega), if_neg (by omega), if_neg (by simp), if_neg (by simp), if_neg (by simp)]
  · unfold fitsB kindOfI
    rw [if_neg (by omega), if_neg (by omega), if_neg (by omega), if_neg (by omega), if_neg (by omega), if_neg (by omega), if_neg (by omega), if_pos hk]; simp
theorem find_at {L : List (ByteArray × Int)} (hd : (L.map (·.1)).Nodup) (i : Nat) (hi : i < L.length) : L.findIdx? (isMember L[i].1) = some i := by
  rw [List.findIdx?_eq_some_iff_getElem]
  refine ⟨hi, (isMember_iff _ _).2 rfl, fun j hj => ?_⟩
  intro h
  have he := (isMember_iff _ _).1 h
  rw [List.nodup_iff_pairwise_ne, List.pairwise_iff_getElem] at hd
  have := hd j i (by simp; omega) (by simp; omega) hj
  simp at this
  exact this he
abbrev zaddC (t : ByteArray) (n : Int) : Cmd := ⟨14, ⟨#[107]⟩, ⟨#[]⟩, t, n⟩
abbrev zremC (t : ByteArray) : Cmd := ⟨15, ⟨#[107]⟩, ⟨#[]⟩, t, 0⟩
abbrev zrankC (t : ByteArray) : Cmd := ⟨16, ⟨#[107]⟩, ⟨#[]⟩, t, 0⟩
theorem rankC_fault (k : Int) (t : ByteArray) (n : Int) (hk : k = 14 ∨ (k = 15 ∨ k = 16) ∧ n = 0) (ht : isTextB t = true) (hn : isCountB n = true) : (⟨k, ⟨#[107]⟩, ⟨#[]⟩, t, n⟩ : Cmd).fault = 0 := by
  have e1 : (⟨#[107]⟩ : ByteArray).size = 1 := by decide +kernel
  have e2 : (⟨#[]⟩ : ByteArray).toList = [] := empty_list
  rcases hk with rfl | ⟨rfl | rfl, rfl⟩ <;> simp [Cmd.fault, cmdFault, foreignB, partsB, hasKeyB, hasFieldB, hasTextB, hasNumberB, isNameB, e1, e2, ht, hn]
theorem cnt0 : isCountB 0 = true := by decide
theorem RankL.text {L : List (ByteArray × Int)} (h : RankL L) (i : Nat) (hi : i < L.length) : isTextB L[i].1 = true := by
  have := h.2.1 L[i] (List.getElem_mem hi)
  simpa [wrongS] using this

theorem acts_code {x y : Val} {c : Cmd} {r : Rep} (hr : refusalI x c = 0) (ha : answerV x c = (y, r)) (h0 : r.code = 0) : Acts x c (keptV y) r 0 := by
  have := acts_any x c
  unfold doV doR at this
  rw [hr, ha] at this
  simpa [h0] using this
theorem acts_refused {x y : Val} {c : Cmd} {r : Rep} (hr : refusalI x c = 0) (ha : answerV x c = (y, r)) (h0 : r.code ≠ 0) : Acts x c x { code := r.code } 0 := by
  have := acts_any x c
  unfold doV doR at this
  rw [hr, ha] at this
  simpa [h0] using this
theorem kept_rankS {L : List (ByteArray × Int)} (h : 1 ≤ L.length) : keptV (rankX L) = rankX L := kept_kind (fun _ => by rw [size_rank]; exact h)

theorem zadd_acts {L : List (ByteArray × Int)} (h : RankL L) (i : Nat) (hi : i < L.length) (n : Int) (hn : isCountB n = true) :
    ∃ L', Acts (rankX L) (zaddC L[i].1 n) (rankX L') {} 0 ∧ RankL L' ∧ L'.length = L.length ∧ ∃ j, ∃ hj : j < L'.length, L'[j] = (L[i].1, n) := by
  have ht := h.text i hi
  have hc := rankC_fault 14 L[i].1 n (.inl rfl) ht hn
  have hr := Well.ref (.inr (rank_okX h (by omega))) hc (by simp [ofStoreB])
  have hf := find_at h.2.2.2.2 i hi
  have hnot := cut_not h.2.2.2.2 hf
  have hv : rankV (rankX L) (zaddC L[i].1 n) = (rankX (layAt (cutAt L i) (posOf (cmZ (L[i].1, n)) (cutAt L i)) (L[i].1, n)), {}) := by
    unfold rankV
    simp only [hf]
    rfl
  have hL := rank_lay (t := L[i].1) (n := n) (rank_cut h i) (by rw [length_cutAt hi]; have := h.1; omega) hnot ht hn
  have hlen : (layAt (cutAt L i) (posOf (cmZ (L[i].1, n)) (cutAt L i)) (L[i].1, n)).length = L.length := by rw [length_layAt, length_cutAt hi]; omega
  refine ⟨_, ?_, hL, hlen, ?_⟩
  · have := acts_code hr ((ans_rank h (by omega) (c := zaddC L[i].1 n) (by simp)).trans hv) rfl
    rwa [kept_rankS (by rw [hlen]; omega)] at this
  · have hm : (L[i].1, n) ∈ layAt (cutAt L i) (posOf (cmZ (L[i].1, n)) (cutAt L i)) (L[i].1, n) := mem_layAt.2 (.inl rfl)
    obtain ⟨j, hj, e⟩ := List.mem_iff_getElem.1 hm
    exact ⟨j, hj, e⟩
theorem zrem_acts {L : List (ByteArray × Int)} (h : RankL L) (i : Nat) (hi : i < L.length) : Acts (rankX L) (zremC L[i].1) (keptV (rankX (cutAt L i))) { n := 1 } 0 ∧ (keptV (rankX (cutAt L i))).scores.length = L.length - 1 := by
  have ht := h.text i hi
  have hc := rankC_fault 15 L[i].1 0 (.inr ⟨.inl rfl, rfl⟩) ht cnt0
  have hr := Well.ref (.inr (rank_okX h (by omega))) hc (by simp [ofStoreB])
  have hf := find_at h.2.2.2.2 i hi
  have hv : rankV (rankX L) (zremC L[i].1) = (rankX (cutAt L i), { n := 1 }) := by
    unfold rankV
    simp only [hf]
    rfl
  refine ⟨acts_code hr ((ans_rank h (by omega) (c := zremC L[i].1) (by simp)).trans hv) rfl, ?_⟩
  have hl := length_cutAt hi
  by_cases h0 : (cutAt L i).length = 0
  · have e := List.eq_nil_of_length_eq_zero h0
    rw [e] at hl ⊢
    have : (keptV (rankX [])).scores = [] := by decide +kernel
    rw [this]; simpa using hl
  · rw [kept_rankS (by omega)]; exact hl
theorem zrank_acts {L : List (ByteArray × Int)} (h : RankL L) (i : Nat) (hi : i < L.length) : Acts (rankX L) (zrankC L[i].1) (rankX L) { n := (i : Int) } 0 := by
  have ht := h.text i hi
  have hc := rankC_fault 16 L[i].1 0 (.inr ⟨.inr rfl, rfl⟩) ht cnt0
  have hr := Well.ref (.inr (rank_okX h (by omega))) hc (by simp [ofStoreB])
  have hf := find_at h.2.2.2.2 i hi
  have hv : rankV (rankX L) (zrankC L[i].1) = (rankX L, { n := (i : Int) }) := by
    unfold rankV
    simp only [hf]
    rfl
  have := acts_code hr ((ans_rank h (by omega) (c := zrankC L[i].1) (by simp)).trans hv) rfl
  rwa [kept_rankS (by omega)] at this
theorem zrank_none {L : List (ByteArray × Int)} (h : RankL L) (h1 : 1 ≤ L.length) (t : ByteArray) (ht : isTextB t = true) (hn : t ∉ L.map (·.1)) : Acts (rankX L) (zrankC t) (rankX L) { code := 5 } 0 := by
  have hc := rankC_fault 16 t 0 (.inr ⟨.inr rfl, rfl⟩) ht cnt0
  have hr := Well.ref (.inr (rank_okX h h1)) hc (by simp [ofStoreB])
  have hf : L.findIdx? (isMember t) = none := by
    rw [List.findIdx?_eq_none_iff]
    intro a ha
    cases hm : isMember t a with
    | false => rfl
    | true => exact absurd (List.mem_map.2 ⟨a, ha, (isMember_iff _ _).1 hm⟩) hn
  have hv : rankV (rankX L) (zrankC t) = (rankX L, { code := 5 }) := by
    unfold rankV
    simp only [hf]
    rfl
  exact acts_refused hr ((ans_rank h h1 (c := zrankC t) (by simp)).trans hv) (by decide)

/-- How many of the first so many members are a text. -/
def manyOf (t : ByteArray) (L : List (ByteArray × Int)) (m : Nat) : Nat := ((L.take m).filter (isMember t)).length
theorem many_step (t : ByteArray) (L : List (ByteArray × Int)) (m : Nat) (hm : m < L.length) : manyOf t L (m + 1) = manyOf t L m + (if isMember t L[m] = true then 1 else 0) := by
  unfold manyOf
  rw [List.take_succ_eq_append_getElem hm, List.filter_append, List.length_append]
  cases h : isMember t L[m] <;> simp [h]
theorem many_all {L : List (ByteArray × Int)} (hd : (L.map (·.1)).Nodup) (j : Nat) (hj : j < L.length) : manyOf L[j].1 L L.length = 1 := by
  unfold manyOf
  rw [List.take_length]
  have hs : L = L.take j ++ L[j] :: L.drop (j + 1) := by rw [← List.drop_eq_getElem_cons hj, List.take_append_drop]
  generalize L[j] = q at *
  rw [hs, List.map_append, List.map_cons, List.nodup_append] at hd
  obtain ⟨-, h2, h3⟩ := hd
  rw [List.nodup_cons] at h2
  rw [hs, List.filter_append, List.filter_cons, if_pos ((isMember_iff _ _).2 rfl)]
  have e1 : (L.take j).filter (isMember q.1) = [] := by
    rw [List.filter_eq_nil_iff]
    intro a ha h
    exact h3 a.1 (List.mem_map.2 ⟨a, ha, rfl⟩) q.1 (by simp) ((isMember_iff _ _).1 h)
  have e2 : (L.drop (j + 1)).filter (isMember q.1) = [] := by
    rw [List.filter_eq_nil_iff]
    intro a ha h
    exact h2.1 (List.mem_map.2 ⟨a, ha, (isMember_iff _ _).1 h⟩)
  rw [e1, e2]; rfl
theorem many_own {L : List (ByteArray × Int)} (hd : (L.map (·.1)).Nodup) (j m : Nat) (hj : j < L.length) (hm : m < L.length) (h : L[m].1 = L[j].1) : m = j := by
  have h1 := find_at hd m hm
  have h2 := find_at hd j hj
  rw [h] at h1
  rw [h1] at h2
  exact Option.some.inj h2
end Go.Proofs.YtgpdnhammdgndaaGreat
