/- Arguments opened: steps, slices of steps. -/
import Derived.Test.YtfnephnecighaaaGreatSy
namespace Go.Proofs.YtfnephnecighaaaGreat
open Go.ChangeShapes Go.WideShapes Go.ChangeAt Go.RowKit
set_option linter.unusedVariables false
set_option maxRecDepth 100000

theorem cells_step : Tryz.prog.cellsOf 50 = 6 := by kernel_rfl
theorem listS6 {α : Type} {cs : List α} (h : cs.length = 6) : ∃ c0 c1 c2 c3 c4 c5, cs = [c0, c1, c2, c3, c4, c5] := by
  match cs, h with
  | [c0, c1, c2, c3, c4, c5], _ => exact ⟨c0, c1, c2, c3, c4, c5, rfl⟩
theorem step_cells {H : Type} {enc : TypeId × Value → H} {w : World} {held : Bool} {fuel : Nat} {cs : List Value} {y : DataW H × List MemPlace} (hl : cs.length = 6)
    (h : DataW.trod enc Tryz.prog w 0 (fun _ => true) held fuel 50 cs = some y) : ∃ d : Stp, cs = encStp d ∧ d.wf := by
  obtain ⟨c0, c1, c2, c3, c4, c5, rfl⟩ := listS6 hl
  obtain ⟨xs, n, _, _, _, hlen, hf⟩ := DataW.trod_struct Tryz.underlying50 h
  have hx : ∀ i, i < 2 → ∃ y, xs[i]? = some y := fun i hi => ⟨xs[i]'(by rw [hlen]; exact hi), by simp⟩
  obtain ⟨y0, e0⟩ := hx 0 (by omega)
  obtain ⟨y1, e1⟩ := hx 1 (by omega)
  have g0 : DataW.trod enc Tryz.prog w 0 (fun _ => true) held n 48 [c0, c1, c2, c3, c4] = some y0 := by simpa [Value.cells, cells_raw] using (hf 0 _ rfl).trans e0
  have g1 : DataW.trod enc Tryz.prog w 0 (fun _ => true) held n 3 [c5] = some y1 := by simpa [Value.cells, cells_int] using (hf 1 _ rfl).trans e1
  obtain ⟨r, hr, hwf⟩ := rawrow_cells rfl g0
  obtain ⟨wt, f1, -, w1⟩ := DataW.trod_int Tryz.underlying3 g1
  simp only [encRw, List.cons.injEq, and_true] at f1 hr
  obtain ⟨rfl, rfl, rfl, rfl, rfl⟩ := hr
  subst f1
  exact ⟨⟨r, wt⟩, rfl, hwf, bounds_i64 w1⟩
/-- What a walk is told of a slice of steps that came in, and of a step. -/
def IsSteps (w : World) (v : Value) : Prop := ∃ l, StepsAt w v l
def IsStep (v : Value) : Prop := ∃ d : Stp, v = .agg (encStp d).toArray ∧ d.wf
theorem shape_steps {H : Type} {enc : TypeId × Value → H} {w : World} {held : Bool} {r : Reach} {b0 : Nat} {v : Value} {d : DataW H} {p : List MemPlace}
    (hv : Value.okWide Tryz.prog w r b0 46 v) (h : DataW.Trod enc Tryz.prog w 0 (fun _ => true) held 46 v d p) : IsSteps w v := by
  have hs := okWide_slice Tryz.underlying46 hv
  obtain ⟨fuel, hf⟩ := h
  obtain ⟨l, h1, -⟩ := open_rows 6 encStp Stp.wf (by omega) Tryz.underlying46 cells_step (fun n cs' y hl ht => step_cells hl ht) hs hf
  exact ⟨l, h1⟩
theorem shape_step {H : Type} {enc : TypeId × Value → H} {w : World} {held : Bool} {r : Reach} {b0 : Nat} {v : Value} {d : DataW H} {p : List MemPlace}
    (hv : Value.okWide Tryz.prog w r b0 50 v) (h : DataW.Trod enc Tryz.prog w 0 (fun _ => true) held 50 v d p) : IsStep v := by
  obtain ⟨cs, rfl, hsz⟩ := okWide_struct Tryz.underlying50 hv
  obtain ⟨l⟩ := cs
  obtain ⟨fuel, hf⟩ := h
  obtain ⟨d, rfl, hd⟩ := step_cells (show l.length = 6 from hsz.trans cells_step) hf
  exact ⟨d, rfl, hd⟩
end Go.Proofs.YtfnephnecighaaaGreat
