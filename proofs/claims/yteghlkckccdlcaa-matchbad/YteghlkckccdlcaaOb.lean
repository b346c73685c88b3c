/- Arguments opened: a bool. -/
import Derived.Test.YteghlkckccdlcaaOp
namespace Go.Proofs.Yteghlkckccdlcaa
open Go.ChangeShapes Go.WideShapes Go.ChangeAt Go.RowKit

/-- What a walk is told of a bool that came in. -/
def IsBool (v : Value) : Prop := ∃ a, v = .bool a
theorem shape_bool {H : Type} {enc : TypeId × Value → H} {w : World} {held : Bool} {r : Reach} {b0 : Nat} {v : Value} {d : DataW H} {p : List MemPlace}
    (hv : Value.okWide Try.prog w r b0 4 v) (h : DataW.Trod enc Try.prog w 0 (fun _ => true) held 4 v d p) : IsBool v := by
  obtain ⟨a, rfl, -⟩ := open_bool Try.underlying4 hv h
  exact ⟨a, rfl⟩
end Go.Proofs.Yteghlkckccdlcaa
