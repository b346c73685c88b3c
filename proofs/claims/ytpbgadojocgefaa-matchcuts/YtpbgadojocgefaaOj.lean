/- Arguments opened: slices of deeds. -/
import Derived.Test.YtpbgadojocgefaaOw
import Derived.Test.YtpbgadojocgefaaOd
import Derived.Test.YtpbgadojocgefaaHb
namespace Go.Proofs.Ytpbgadojocgefaa
open Go.ChangeShapes Go.WideShapes Go.ChangeAt Go.RowKit
set_option maxRecDepth 100000

theorem list8 {α : Type} {cs : List α} (h : cs.length = 8) : ∃ c0 c1 c2 c3 c4 c5 c6 c7, cs = [c0, c1, c2, c3, c4, c5, c6, c7] := by
  match cs, h with
  | [c0, c1, c2, c3, c4, c5, c6, c7], _ => exact ⟨c0, c1, c2, c3, c4, c5, c6, c7, rfl⟩

theorem deed_cells {H : Type} {enc : TypeId × Value → H} {w : World} {held : Bool} {fuel : Nat} {cs : List Value} {y : DataW H × List MemPlace} (hl : cs.length = 8)
    (h : DataW.trod enc Try.prog w 0 (fun _ => true) held fuel 37 cs = some y) : ∃ d : Deed, cs = encD d ∧ d.wf := by
  obtain ⟨c0, c1, c2, c3, c4, c5, c6, c7, rfl⟩ := list8 hl
  obtain ⟨xs, n, _, _, _, hlen, hf⟩ := DataW.trod_struct Try.underlying37 h
  have hx : ∀ i, i < 4 → ∃ y, xs[i]? = some y := fun i hi => ⟨xs[i]'(by rw [hlen]; exact hi), by simp⟩
  obtain ⟨y0, e0⟩ := hx 0 (by omega)
  obtain ⟨y1, e1⟩ := hx 1 (by omega)
  obtain ⟨y2, e2⟩ := hx 2 (by omega)
  obtain ⟨y3, e3⟩ := hx 3 (by omega)
  have g0 : DataW.trod enc Try.prog w 0 (fun _ => true) held n 3 [c0] = some y0 := by simpa [Value.cells, cells_int] using (hf 0 _ rfl).trans e0
  have g1 : DataW.trod enc Try.prog w 0 (fun _ => true) held n 3 [c1] = some y1 := by simpa [Value.cells, cells_int] using (hf 1 _ rfl).trans e1
  have g2 : DataW.trod enc Try.prog w 0 (fun _ => true) held n 3 [c2] = some y2 := by simpa [Value.cells, cells_int] using (hf 2 _ rfl).trans e2
  have g3 : DataW.trod enc Try.prog w 0 (fun _ => true) held n 35 [c3, c4, c5, c6, c7] = some y3 := by simpa [Value.cells, cells_raw] using (hf 3 _ rfl).trans e3
  obtain ⟨cl, f0, -, w0⟩ := DataW.trod_int Try.underlying3 g0
  obtain ⟨off, f1, -, w1⟩ := DataW.trod_int Try.underlying3 g1
  obtain ⟨wait, f2, -, w2⟩ := DataW.trod_int Try.underlying3 g2
  obtain ⟨k, key, fld, m, txt, rfl, rfl, rfl, rfl, rfl, b1, b2, b3, b4, b5⟩ := raw_cells g3
  simp only [List.cons.injEq, and_true] at f0 f1 f2
  subst f0 f1 f2
  exact ⟨⟨cl, off, wait, k, key, fld, m, txt⟩, rfl, bounds_i64 w0, bounds_i64 w1, bounds_i64 w2, b1, b2, b3, b4, b5⟩

/-- What a walk is told of a slice of deeds that came in. -/
def IsDeeds (w : World) (v : Value) : Prop := ∃ l, DeedsAt w v l
theorem shape_deeds {H : Type} {enc : TypeId × Value → H} {w : World} {held : Bool} {r : Reach} {b0 : Nat} {v : Value} {d : DataW H} {p : List MemPlace}
    (hv : Value.okWide Try.prog w r b0 32 v) (h : DataW.Trod enc Try.prog w 0 (fun _ => true) held 32 v d p) : IsDeeds w v := by
  have hs := okWide_slice Try.underlying32 hv
  obtain ⟨fuel, hf⟩ := h
  obtain ⟨l, h1, -⟩ := open_rows 8 encD Deed.wf (by omega) Try.underlying32 cells_deed (fun n cs' y hl ht => deed_cells hl ht) hs hf
  exact ⟨l, h1⟩
end Go.Proofs.Ytpbgadojocgefaa
