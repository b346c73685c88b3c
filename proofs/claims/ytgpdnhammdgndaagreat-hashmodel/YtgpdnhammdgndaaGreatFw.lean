/- What value.Do comes to, all written out; small commands. -/
import Derived.Test.YtgpdnhammdgndaaGreatFu
import Derived.Test.YtgpdnhammdgndaaGreatKa
namespace Go.Proofs.YtgpdnhammdgndaaGreat
open Go.RowKit
set_option linter.unusedVariables false

theorem lt_at {w : World} {b : Nat} {o : Obj} (h : w.heap[b]? = some o) : b < w.heap.size := lt_heap h
theorem alloc_at (w : World) (o : Obj) : (w.alloc o).heap[w.heap.size]? = some o := alloc_here w o
theorem cellsB {w : World} {b : Nat} {cs : Array Value} {t : TypeId} (h : w.heap[b]? = some (.cells cs t (0, 0))) : (∀ o, w.cell? ⟨b, o, none⟩ = cs[o]?) ∧ (∀ o, w.frozen? ⟨b, o, none⟩ = false) := block_cells h

abbrev slV (a : Option Addr) {α : Type} (l : List α) (c : Nat) : Value := .slice a l.length c
/-- What a call of Do comes to: the value, the reply, the error. -/
def Acts (x : Val) (c : Cmd) (y : Val) (r : Rep) (f : Int) : Prop := ∀ (W : World) (ps is ss : Value), Lists W ps is ss x → Calls Tryz.prog 11 #[valV x.kind x.text x.count ps is ss, cmdV c.k c.key c.fld c.txt c.n] W fun e w' =>
  ∃ pa pc ia ic sa sc la lc, e = .returned (.tuple #[valV y.kind y.text y.count (.slice pa y.pairs.length pc) (.slice ia y.items.length ic) (.slice sa y.scores.length sc), repV r.code r.text r.n (.slice la r.list.length lc), .int .i64 f]) ∧
    Lists w' (.slice pa y.pairs.length pc) (.slice ia y.items.length ic) (.slice sa y.scores.length sc) y ∧ RowAt 1 encI w' (.slice la r.list.length lc) r.list ∧ Below W.heap.size W w'
theorem do_acts {x : Val} {c : Cmd} {y : Val} {r : Rep} {f : Int} (h : DoOk x c y r f) : Acts x c y r f := by
  intro W ps is ss hl
  refine (h W _ ⟨ps, is, ss, rfl, hl⟩).mono ?_
  rintro e w' ⟨v', u, rfl, ⟨qs, js, ts, rfl, hl', -⟩, ⟨ls, rfl, hr, -⟩, hb⟩
  obtain ⟨pa, pc, ia, ic, sa, sc, rfl, rfl, rfl, -⟩ := hl'.lens
  obtain ⟨la, lc, rfl⟩ : ∃ la lc, ls = .slice la r.list.length lc := by obtain ⟨-, a, c, h, -⟩ := hr; exact ⟨a, c, h⟩
  exact ⟨pa, pc, ia, ic, sa, sc, la, lc, rfl, hl', hr, hb⟩
theorem acts_any (x : Val) (c : Cmd) : Acts x c (doV x c) (doR x c) (refusalI x c) := do_acts (do_any x c)

abbrev lenC : Cmd := ⟨17, ⟨#[107]⟩, ⟨#[]⟩, ⟨#[]⟩, 0⟩
abbrev allC : Cmd := ⟨18, ⟨#[107]⟩, ⟨#[]⟩, ⟨#[]⟩, 0⟩
abbrev getC : Cmd := ⟨2, ⟨#[107]⟩, ⟨#[]⟩, ⟨#[]⟩, 0⟩
abbrev putC (t : ByteArray) : Cmd := ⟨1, ⟨#[107]⟩, ⟨#[]⟩, t, 0⟩
theorem lenC_fault : lenC.fault = 0 := by decide +kernel
theorem allC_fault : allC.fault = 0 := by decide +kernel
theorem getC_fault : getC.fault = 0 := by decide +kernel
theorem putC_fault (t : ByteArray) (h : t.size ≤ 20) : (putC t).fault = 0 := by
  have e1 : (⟨#[107]⟩ : ByteArray).size = 1 := by decide +kernel
  have e2 : (⟨#[]⟩ : ByteArray).toList = [] := empty_list
  simp [Cmd.fault, cmdFault, foreignB, partsB, hasKeyB, hasFieldB, hasTextB, hasNumberB, isNameB, isTextB, isCountB, e1, e2, h]
theorem holds_fits {x : Val} (h3 : 3 ≤ x.kind) (h6 : x.kind ≤ 6) (k : Int) (hk : k = 17 ∨ k = 18) : fitsB x.kind k = true := by
  have : holdsB x.kind = true := by simp [holdsB]; omega
  unfold fitsB
  rw [if_neg (by omega), if_pos hk, this]
theorem OkVal.kept {x : Val} (h : OkVal x) : keptV x = x := by
  unfold keptV
  by_cases hh : holdsB x.kind = true
  · have := h.one (by simp [holdsB] at hh; omega)
    rw [if_neg (by simp; intro _; omega)]
  · rw [if_neg (by simp [hh])]
theorem len_acts {x : Val} (h : OkVal x) (h3 : 3 ≤ x.kind) : Acts x lenC x { n := (x.size : Int) } 0 := by
  have hr := Well.ref (c := lenC) (.inr h) lenC_fault rfl
  have ha : answerV x lenC = (x, { n := (x.size : Int) }) := by
    unfold answerV
    rw [h.not_none, if_neg (by simp), if_pos (holds_fits h3 h.hi 17 (.inl rfl))]; rfl
  have := acts_any x lenC
  unfold doV doR at this
  rw [hr, ha] at this
  simpa [h.kept] using this
theorem all_acts {x : Val} (h : OkVal x) (h3 : 3 ≤ x.kind) : Acts x allC x { list := x.names } 0 := by
  have hr := Well.ref (c := allC) (.inr h) allC_fault rfl
  have ha : answerV x allC = (x, { list := x.names }) := by
    unfold answerV
    rw [h.not_none, if_neg (by simp), if_pos (holds_fits h3 h.hi 18 (.inr rfl))]; rfl
  have := acts_any x allC
  unfold doV doR at this
  rw [hr, ha] at this
  simpa [h.kept] using this
theorem put_acts {x : Val} (h : Well x) (t : ByteArray) (ht : t.size ≤ 20) : Acts x (putC t) ⟨1, t, 0, [], [], []⟩ {} 0 := by
  have hr := h.ref (c := putC t) (putC_fault t ht) rfl
  have ha : answerV x (putC t) = (⟨1, t, 0, [], [], []⟩, {}) := by
    unfold answerV
    cases hn : x.none with
    | true => rw [if_pos rfl]; rfl
    | false => rw [if_neg (by simp), if_pos (by rfl)]; rfl
  have := acts_any x (putC t)
  unfold doV doR at this
  rw [hr, ha] at this
  simpa [kept_small, holdsB] using this
theorem get_acts (t : ByteArray) (ht : t.size ≤ 20) : Acts ⟨1, t, 0, [], [], []⟩ getC ⟨1, t, 0, [], [], []⟩ { text := t } 0 := by
  have hx : OkVal ⟨1, t, 0, [], [], []⟩ := ok_text (by simp [isTextB, ht])
  have hr := Well.ref (c := getC) (.inr hx) getC_fault rfl
  have ha : answerV ⟨1, t, 0, [], [], []⟩ getC = (⟨1, t, 0, [], [], []⟩, { text := t }) := by
    unfold answerV
    rw [hx.not_none, if_neg (by simp), if_pos (by rfl)]; rfl
  have := acts_any ⟨1, t, 0, [], [], []⟩ getC
  unfold doV doR at this
  rw [hr, ha] at this
  simpa [hx.kept] using this
theorem names_length (x : Val) : x.names.length = x.size := by simp [Val.names, Val.size]; omega
theorem picked_self (n m : Nat) (h : n < m) : pickedN (n : Int) m = n := by unfold pickedN; rw [if_neg (by omega)]; simp; exact Nat.mod_eq_of_lt h
end Go.Proofs.YtgpdnhammdgndaaGreat
