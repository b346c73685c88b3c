/- Items as data, and lists of them in memory; logs. -/
import Derived.Test.YtpbgadojocgefaaEa
import Derived.Test.YtpbgadojocgefaaCd
namespace Go.Proofs.Ytpbgadojocgefaa
open Go.RowKit
set_option linter.unusedVariables false
set_option maxRecDepth 100000

structure Itm where
  t : Int
  u : Int
  p : Bool
  cl : Int
  seq : Int
  c : Cmd
abbrev Itm.v (x : Itm) : Value := itemV x.t x.u x.p x.cl x.seq x.c.k x.c.key x.c.fld x.c.txt x.c.n
def Itm.fault (x : Itm) : Int := itemFault x.t x.u x.p x.cl x.seq x.c.k x.c.key x.c.fld x.c.txt x.c.n
def noCmd : Cmd := ⟨0, ⟨#[]⟩, ⟨#[]⟩, ⟨#[]⟩, 0⟩

abbrev itemO (t u : Int) (p : Bool) (cl seq k : Int) (key fld txt : ByteArray) (n : Int) : Obj := .cells #[.int .i64 t, .int .i64 u, .bool p, .int .i64 cl, .int .i64 seq, .int .i64 k, .string key, .string fld, .string txt, .int .i64 n] 46
def encIt (x : Itm) : List Value := [.int .i64 x.t, .int .i64 x.u, .bool x.p, .int .i64 x.cl, .int .i64 x.seq, .int .i64 x.c.k, .string x.c.key, .string x.c.fld, .string x.c.txt, .int .i64 x.c.n]
theorem lenIt (x : Itm) : (encIt x).length = 10 := rfl
theorem oneIt (x : Itm) : ∀ u ∈ encIt x, u.oneCell' = true := by
  intro u hu
  simp [encIt] at hu
  rcases hu with rfl | rfl | rfl | rfl | rfl | rfl | rfl | rfl | rfl | rfl <;> rfl
theorem cellsB {w : World} {b : Nat} {cs : Array Value} {t : TypeId} (h : w.heap[b]? = some (.cells cs t (0, 0))) : (∀ o, w.cell? ⟨b, o, none⟩ = cs[o]?) ∧ (∀ o, w.frozen? ⟨b, o, none⟩ = false) := by
  refine ⟨fun o => ?_, fun o => ?_⟩
  · unfold World.cell?; rw [h]; rfl
  · unfold World.frozen?; rw [h]; simp
theorem lt_at {w : World} {b : Nat} {o : Obj} (h : w.heap[b]? = some o) : b < w.heap.size := (Array.getElem?_eq_some_iff.1 h).1
theorem alloc_at (w : World) (o : Obj) : (w.alloc o).heap[w.heap.size]? = some o := by show ((_ : Array Obj).push _)[_]? = _; simp

/-- The ten cells of an element. -/
theorem RowAt.ten {w : World} {b off : Nat} {l : List Itm} (hc : ∀ i (h : i < l.length) (c : Nat), c < 10 → w.cell? ⟨b, off + i * 10 + c, none⟩ = (encIt l[i])[c]?) (m : Nat) (hm : m < l.length) :
    w.cell? ⟨b, off + m * 10, none⟩ = some (.int .i64 l[m].t) ∧ w.cell? ⟨b, off + m * 10 + 1, none⟩ = some (.int .i64 l[m].u) ∧ w.cell? ⟨b, off + m * 10 + 2, none⟩ = some (.bool l[m].p) ∧
    w.cell? ⟨b, off + m * 10 + 3, none⟩ = some (.int .i64 l[m].cl) ∧ w.cell? ⟨b, off + m * 10 + 4, none⟩ = some (.int .i64 l[m].seq) ∧ w.cell? ⟨b, off + m * 10 + 5, none⟩ = some (.int .i64 l[m].c.k) ∧
    w.cell? ⟨b, off + m * 10 + 6, none⟩ = some (.string l[m].c.key) ∧ w.cell? ⟨b, off + m * 10 + 7, none⟩ = some (.string l[m].c.fld) ∧ w.cell? ⟨b, off + m * 10 + 8, none⟩ = some (.string l[m].c.txt) ∧
    w.cell? ⟨b, off + m * 10 + 9, none⟩ = some (.int .i64 l[m].c.n) :=
  ⟨hc m hm 0 (by omega), hc m hm 1 (by omega), hc m hm 2 (by omega), hc m hm 3 (by omega), hc m hm 4 (by omega), hc m hm 5 (by omega), hc m hm 6 (by omega), hc m hm 7 (by omega), hc m hm 8 (by omega), hc m hm 9 (by omega)⟩

/-- A slice that reads as a list of items; of a slice without elements nothing more is said. -/
def RowI (w : World) (s : Value) (l : List Itm) : Prop :=
  l.length ≤ 140737488355328 ∧ ∃ a cap, s = .slice a l.length cap ∧ l.length ≤ cap ∧ cap ≤ 9223372036854775807 ∧
    (l = [] ∨ ∃ b off, a = some ⟨b, off, none⟩ ∧ b < w.heap.size ∧ ∀ i (h : i < l.length) (c : Nat), c < 10 → w.cell? ⟨b, off + i * 10 + c, none⟩ = (encIt l[i])[c]?)
theorem RowI.below {w w' : World} {s : Value} {l : List Itm} (h : RowI w s l) (hb : Below w.heap.size w w') : RowI w' s l := by
  obtain ⟨hl, a, cap, hs, h1, h2, h3⟩ := h
  refine ⟨hl, a, cap, hs, h1, h2, ?_⟩
  rcases h3 with h3 | ⟨b, off, ha, hbk, hc⟩
  · exact .inl h3
  · exact .inr ⟨b, off, ha, bsize hb hbk, fun i hi c hk => (hb.cell (p := ⟨b, off + i * 10 + c, none⟩) hbk).trans (hc i hi c hk)⟩
theorem RowAt.toI {w : World} {s : Value} {l : List Itm} (h : RowAt 10 encIt w s l) : RowI w s l := by
  obtain ⟨hl, a, cap, hs, h1, h2, h3⟩ := h
  refine ⟨hl, a, cap, hs, h1, h2, ?_⟩
  rcases h3 with ⟨-, h3, -⟩ | h3
  · exact .inl h3
  · exact .inr h3

/-- A log: a base, its term, items. -/
structure Lg where
  base : Int
  term : Int
  items : List Itm
abbrev logV (b t : Int) (s : Value) : Value := .agg #[.int .i64 b, .int .i64 t, s]
abbrev logO (b t : Int) (s : Value) : Obj := .cells #[.int .i64 b, .int .i64 t, s] 24
/-- A log that lies in memory as g. -/
def RepsG (w : World) (v : Value) (g : Lg) : Prop := ∃ s, v = logV g.base g.term s ∧ RowI w s g.items
theorem RepsG.below {w w' : World} {v : Value} {g : Lg} (h : RepsG w v g) (hb : Below w.heap.size w w') : RepsG w' v g := by
  obtain ⟨s, hv, hr⟩ := h
  exact ⟨s, hv, hr.below hb⟩

/-- Items in their order: each may be, terms and times don't fall. -/
def itemsOk (term time : Int) : List Itm → Bool
  | [] => true
  | x :: r => decide (x.fault = 0) && decide (term ≤ x.t) && decide (time ≤ x.u) && itemsOk x.t x.u r
def baseB (b t : Int) : Bool := if b = 0 then decide (t = 0) else numB b && numB t
def Lg.last (g : Lg) : Int := g.base + g.items.length
def Lg.okB (g : Lg) : Bool := baseB g.base g.term && decide (g.items.length ≤ 200) && decide (g.last ≤ 1048576) && itemsOk g.term 0 g.items
def Lg.fault (g : Lg) : Int := if g.okB = true then 0 else 13
end Go.Proofs.Ytpbgadojocgefaa
