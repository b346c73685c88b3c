/- Values as lists, and how they lie in memory: plain definitions, and that what lies below stays. -/
import Derived.Test.YtfnephnecighaaaGreatRa
namespace Go.Proofs.YtfnephnecighaaaGreat
open Go.RowKit
set_option linter.unusedVariables false

structure Val where
  kind : Int
  text : ByteArray
  count : Int
  pairs : List (ByteArray × ByteArray)
  items : List ByteArray
  scores : List (ByteArray × Int)

/-- A value as it is handed over. -/
abbrev valV (kind : Int) (text : ByteArray) (count : Int) (ps is ss : Value) : Value := .agg #[.int .i64 kind, .string text, .int .i64 count, ps, is, ss]
abbrev valO (kind : Int) (text : ByteArray) (count : Int) (ps is ss : Value) : Obj := .cells #[.int .i64 kind, .string text, .int .i64 count, ps, is, ss] 26

/-- The three lists of a value, in memory. -/
structure Lists (w : World) (ps is ss : Value) (x : Val) : Prop where
  p : RowAt 2 encP w ps x.pairs
  i : RowAt 1 encI w is x.items
  s : RowAt 2 encS w ss x.scores

theorem Lists.below {w w' : World} {ps is ss : Value} {x : Val} (h : Lists w ps is ss x) (hb : Below w.heap.size w w') : Lists w' ps is ss x := ⟨h.p.below hb, h.i.below hb, h.s.below hb⟩

/-- A value that lies in memory as x. -/
def Reps (w : World) (v : Value) (x : Val) : Prop := ∃ ps is ss, v = valV x.kind x.text x.count ps is ss ∧ Lists w ps is ss x
theorem Reps.below {w w' : World} {v : Value} {x : Val} (h : Reps w v x) (hb : Below w.heap.size w w') : Reps w' v x := by
  obtain ⟨ps, is, ss, hv, hl⟩ := h
  exact ⟨ps, is, ss, hv, hl.below hb⟩
end Go.Proofs.YtfnephnecighaaaGreat
