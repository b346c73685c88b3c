/- Arguments opened: raw numbers, as the reader reads them, are five cells of their kinds. -/
import Derived.Test.YtndadgjidihfeaaGreatOp
import Derived.Test.YtndadgjidihfeaaGreatKcJ
namespace Go.Proofs.YtndadgjidihfeaaGreat
open Go.ChangeShapes Go.WideShapes Go.ChangeAt Go.RowKit
set_option maxRecDepth 100000

theorem cells_raw : Tryz.prog.cellsOf 40 = 5 := by kernel_rfl

/-- What a walk is told of raw numbers that came in. -/
def IsRaw (v : Value) : Prop := ∃ k key fld n txt, v = rawV k key fld n txt ∧ (-9223372036854775808 ≤ k ∧ k ≤ 9223372036854775807) ∧ (-9223372036854775808 ≤ key ∧ key ≤ 9223372036854775807) ∧
  (-9223372036854775808 ≤ fld ∧ fld ≤ 9223372036854775807) ∧ (-9223372036854775808 ≤ n ∧ n ≤ 9223372036854775807) ∧ txt.size ≤ 9223372036854775807

theorem shape_raw {H : Type} {enc : TypeId × Value → H} {w : World} {held : Bool} {r : Reach} {b0 : Nat} {v : Value} {d : DataW H} {p : List MemPlace}
    (hv : Value.okWide Tryz.prog w r b0 40 v) (h : DataW.Trod enc Tryz.prog w 0 (fun _ => true) held 40 v d p) : IsRaw v := by
  obtain ⟨cs, rfl, hsz⟩ := okWide_struct Tryz.underlying40 hv
  obtain ⟨c0, c1, c2, c3, c4, rfl⟩ := array5 (hsz.trans cells_raw)
  obtain ⟨fuel, hf⟩ := h
  obtain ⟨xs, n, _, _, _, hlen, hf⟩ := DataW.trod_struct Tryz.underlying40 hf
  have hx : ∀ i, i < 5 → ∃ y, xs[i]? = some y := fun i hi => ⟨xs[i]'(by rw [hlen]; exact hi), by simp⟩
  obtain ⟨y0, e0⟩ := hx 0 (by omega)
  obtain ⟨y1, e1⟩ := hx 1 (by omega)
  obtain ⟨y2, e2⟩ := hx 2 (by omega)
  obtain ⟨y3, e3⟩ := hx 3 (by omega)
  obtain ⟨y4, e4⟩ := hx 4 (by omega)
  have g0 : DataW.trod enc Tryz.prog w 0 (fun _ => true) held n 3 [c0] = some y0 := by simpa [Value.cells, cells_int] using (hf 0 _ rfl).trans e0
  have g1 : DataW.trod enc Tryz.prog w 0 (fun _ => true) held n 3 [c1] = some y1 := by simpa [Value.cells, cells_int] using (hf 1 _ rfl).trans e1
  have g2 : DataW.trod enc Tryz.prog w 0 (fun _ => true) held n 3 [c2] = some y2 := by simpa [Value.cells, cells_int] using (hf 2 _ rfl).trans e2
  have g3 : DataW.trod enc Tryz.prog w 0 (fun _ => true) held n 3 [c3] = some y3 := by simpa [Value.cells, cells_int] using (hf 3 _ rfl).trans e3
  have g4 : DataW.trod enc Tryz.prog w 0 (fun _ => true) held n 9 [c4] = some y4 := by simpa [Value.cells, cells_string] using (hf 4 _ rfl).trans e4
  obtain ⟨k, f0, -, w0⟩ := DataW.trod_int Tryz.underlying3 g0
  obtain ⟨s1, f1, -, w1⟩ := DataW.trod_int Tryz.underlying3 g1
  obtain ⟨s2, f2, -, w2⟩ := DataW.trod_int Tryz.underlying3 g2
  obtain ⟨s3, f3, -, w3⟩ := DataW.trod_int Tryz.underlying3 g3
  obtain ⟨m, f4, -, w4⟩ := DataW.trod_string Tryz.underlying9 g4
  simp only [List.cons.injEq, and_true] at f0 f1 f2 f3 f4
  subst f0 f1 f2 f3 f4
  exact ⟨k, s1, s2, s3, m, rfl, bounds_i64 w0, bounds_i64 w1, bounds_i64 w2, bounds_i64 w3, w4⟩
end Go.Proofs.YtndadgjidihfeaaGreat
