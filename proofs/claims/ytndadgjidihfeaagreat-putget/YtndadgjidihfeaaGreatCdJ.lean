/- Commands as data; blocks that two worlds have in common. -/
import Derived.Test.YtndadgjidihfeaaGreatCbJ
namespace Go.Proofs.YtndadgjidihfeaaGreat
open Go.RowKit
set_option linter.unusedVariables false

structure Cmd where
  k : Int
  key : ByteArray
  fld : ByteArray
  txt : ByteArray
  n : Int
abbrev Cmd.v (c : Cmd) : Value := cmdV c.k c.key c.fld c.txt c.n
def Cmd.fault (c : Cmd) : Int := cmdFault c.k c.key c.fld c.txt c.n


/-- A block that is one of two worlds' common ones: its cells and marks. -/
theorem same_block {w w' : World} {b : Nat} (h : w'.heap[b]? = w.heap[b]?) : (∀ o, w'.cell? ⟨b, o, none⟩ = w.cell? ⟨b, o, none⟩) ∧ (∀ o, w'.frozen? ⟨b, o, none⟩ = w.frozen? ⟨b, o, none⟩) :=
  ⟨fun o => World.cell?_of_block (a := ⟨b, o, none⟩) h, fun o => World.frozen?_of_block (a := ⟨b, o, none⟩) h⟩

end Go.Proofs.YtndadgjidihfeaaGreat

/- Values as lists, and how they lie in memory: plain definitions, and that what lies below stays. -/
namespace Go.Proofs.YtndadgjidihfeaaGreat
open Go.RowKit
set_option linter.unusedVariables false

structure Val where
  kind : Int
  text : ByteArray
  count : Int
  pairs : List (ByteArray × ByteArray)
  items : List ByteArray
  scores : List (ByteArray × Int)

/-- A value as it is handed over. -/
abbrev valV (kind : Int) (text : ByteArray) (count : Int) (ps is ss : Value) : Value := .agg #[.int .i64 kind, .string text, .int .i64 count, ps, is, ss]
abbrev valO (kind : Int) (text : ByteArray) (count : Int) (ps is ss : Value) : Obj := .cells #[.int .i64 kind, .string text, .int .i64 count, ps, is, ss] 26

/-- The three lists of a value, in memory. -/
structure Lists (w : World) (ps is ss : Value) (x : Val) : Prop where
  p : RowAt 2 encP w ps x.pairs
  i : RowAt 1 encI w is x.items
  s : RowAt 2 encS w ss x.scores

theorem Lists.below {w w' : World} {ps is ss : Value} {x : Val} (h : Lists w ps is ss x) (hb : Below w.heap.size w w') : Lists w' ps is ss x := ⟨h.p.below hb, h.i.below hb, h.s.below hb⟩

/-- A value that lies in memory as x. -/
def Reps (w : World) (v : Value) (x : Val) : Prop := ∃ ps is ss, v = valV x.kind x.text x.count ps is ss ∧ Lists w ps is ss x
theorem Reps.below {w w' : World} {v : Value} {x : Val} (h : Reps w v x) (hb : Below w.heap.size w w') : Reps w' v x := by
  obtain ⟨ps, is, ss, hv, hl⟩ := h
  exact ⟨ps, is, ss, hv, hl.below hb⟩
end Go.Proofs.YtndadgjidihfeaaGreat
