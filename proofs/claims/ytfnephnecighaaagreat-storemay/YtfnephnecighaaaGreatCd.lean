/- Commands as data; blocks that two worlds have in common. -/
import Derived.Test.YtfnephnecighaaaGreatRa
namespace Go.Proofs.YtfnephnecighaaaGreat
open Go.RowKit
set_option linter.unusedVariables false

structure Cmd where
  k : Int
  key : ByteArray
  fld : ByteArray
  txt : ByteArray
  n : Int
abbrev Cmd.v (c : Cmd) : Value := cmdV c.k c.key c.fld c.txt c.n
def Cmd.fault (c : Cmd) : Int := cmdFault c.k c.key c.fld c.txt c.n


/-- A block that is one of two worlds' common ones: its cells and marks. -/
theorem same_block {w w' : World} {b : Nat} (h : w'.heap[b]? = w.heap[b]?) : (∀ o, w'.cell? ⟨b, o, none⟩ = w.cell? ⟨b, o, none⟩) ∧ (∀ o, w'.frozen? ⟨b, o, none⟩ = w.frozen? ⟨b, o, none⟩) :=
  ⟨fun o => World.cell?_of_block (a := ⟨b, o, none⟩) h, fun o => World.frozen?_of_block (a := ⟨b, o, none⟩) h⟩

end Go.Proofs.YtfnephnecighaaaGreat
