/- Arguments opened: a text. -/
import Derived.Test.YtndadgjidihfeaaGreatOp
namespace Go.Proofs.YtndadgjidihfeaaGreat
open Go.ChangeShapes Go.WideShapes Go.ChangeAt Go.RowKit
set_option maxRecDepth 100000

/-- What a walk is told of a text that came in. -/
def IsString (v : Value) : Prop := ∃ s, v = .string s ∧ s.size ≤ 9223372036854775807
theorem shape_string {H : Type} {enc : TypeId × Value → H} {w : World} {held : Bool} {r : Reach} {b0 : Nat} {v : Value} {d : DataW H} {p : List MemPlace}
    (hv : Value.okWide Tryz.prog w r b0 9 v) (h : DataW.Trod enc Tryz.prog w 0 (fun _ => true) held 9 v d p) : IsString v := by
  obtain ⟨s, rfl⟩ := okWide_string Tryz.underlying9 hv
  obtain ⟨fuel, hf⟩ := h
  obtain ⟨m, f, -, wm⟩ := DataW.trod_string Tryz.underlying9 hf
  simp [Value.cells] at f
  subst f
  exact ⟨_, rfl, wm⟩

end Go.Proofs.YtndadgjidihfeaaGreat
