/- Arguments opened: a bool. -/
import Derived.Test.YtndadgjidihfeaaGreatOpJ
namespace Go.Proofs.YtndadgjidihfeaaGreat
open Go.ChangeShapes Go.WideShapes Go.ChangeAt Go.RowKit
set_option maxRecDepth 100000

/-- What a walk is told of a bool that came in. -/
def IsBool (v : Value) : Prop := ∃ a, v = .bool a
theorem shape_bool {H : Type} {enc : TypeId × Value → H} {w : World} {held : Bool} {r : Reach} {b0 : Nat} {v : Value} {d : DataW H} {p : List MemPlace}
    (hv : Value.okWide Tryz.prog w r b0 4 v) (h : DataW.Trod enc Tryz.prog w 0 (fun _ => true) held 4 v d p) : IsBool v := by
  obtain ⟨a, rfl, -⟩ := open_bool Tryz.underlying4 hv h
  exact ⟨a, rfl⟩
end Go.Proofs.YtndadgjidihfeaaGreat
