/- Arguments opened: a deed, as the reader reads it, is eight cells of their kinds. -/
import Derived.Test.YtpbgadojocgefaaOr
import Derived.Test.YtpbgadojocgefaaEb
namespace Go.Proofs.Ytpbgadojocgefaa
open Go.ChangeShapes Go.WideShapes Go.ChangeAt Go.RowKit
set_option maxRecDepth 100000

theorem array8 {α : Type} {cs : Array α} (h : cs.size = 8) : ∃ c0 c1 c2 c3 c4 c5 c6 c7, cs = #[c0, c1, c2, c3, c4, c5, c6, c7] := by
  obtain ⟨l⟩ := cs
  match l, h with
  | [c0, c1, c2, c3, c4, c5, c6, c7], _ => exact ⟨c0, c1, c2, c3, c4, c5, c6, c7, rfl⟩
theorem cells_deed : Try.prog.cellsOf 37 = 8 := by kernel_rfl
theorem raw_cells {H : Type} {enc : TypeId × Value → H} {w : World} {held : Bool} {fuel : Nat} {c0 c1 c2 c3 c4 : Value} {y : DataW H × List MemPlace}
    (h : DataW.trod enc Try.prog w 0 (fun _ => true) held fuel 35 [c0, c1, c2, c3, c4] = some y) : ∃ k key fld n txt, c0 = .int .i64 k ∧ c1 = .int .i64 key ∧ c2 = .int .i64 fld ∧ c3 = .int .i64 n ∧ c4 = .string txt ∧
      (-9223372036854775808 ≤ k ∧ k ≤ 9223372036854775807) ∧ (-9223372036854775808 ≤ key ∧ key ≤ 9223372036854775807) ∧ (-9223372036854775808 ≤ fld ∧ fld ≤ 9223372036854775807) ∧ (-9223372036854775808 ≤ n ∧ n ≤ 9223372036854775807) ∧ txt.size ≤ 9223372036854775807 := by
  obtain ⟨xs, n, _, _, _, hlen, hf⟩ := DataW.trod_struct Try.underlying35 h
  have hx : ∀ i, i < 5 → ∃ y, xs[i]? = some y := fun i hi => ⟨xs[i]'(by rw [hlen]; exact hi), by simp⟩
  obtain ⟨y0, e0⟩ := hx 0 (by omega)
  obtain ⟨y1, e1⟩ := hx 1 (by omega)
  obtain ⟨y2, e2⟩ := hx 2 (by omega)
  obtain ⟨y3, e3⟩ := hx 3 (by omega)
  obtain ⟨y4, e4⟩ := hx 4 (by omega)
  have g0 : DataW.trod enc Try.prog w 0 (fun _ => true) held n 3 [c0] = some y0 := by simpa [Value.cells, cells_int] using (hf 0 _ rfl).trans e0
  have g1 : DataW.trod enc Try.prog w 0 (fun _ => true) held n 3 [c1] = some y1 := by simpa [Value.cells, cells_int] using (hf 1 _ rfl).trans e1
  have g2 : DataW.trod enc Try.prog w 0 (fun _ => true) held n 3 [c2] = some y2 := by simpa [Value.cells, cells_int] using (hf 2 _ rfl).trans e2
  have g3 : DataW.trod enc Try.prog w 0 (fun _ => true) held n 3 [c3] = some y3 := by simpa [Value.cells, cells_int] using (hf 3 _ rfl).trans e3
  have g4 : DataW.trod enc Try.prog w 0 (fun _ => true) held n 9 [c4] = some y4 := by simpa [Value.cells, cells_string] using (hf 4 _ rfl).trans e4
  obtain ⟨k, f0, -, w0⟩ := DataW.trod_int Try.underlying3 g0
  obtain ⟨s1, f1, -, w1⟩ := DataW.trod_int Try.underlying3 g1
  obtain ⟨s2, f2, -, w2⟩ := DataW.trod_int Try.underlying3 g2
  obtain ⟨s3, f3, -, w3⟩ := DataW.trod_int Try.underlying3 g3
  obtain ⟨m, f4, -, w4⟩ := DataW.trod_string Try.underlying9 g4
  simp only [List.cons.injEq, and_true] at f0 f1 f2 f3 f4
  exact ⟨k, s1, s2, s3, m, f0, f1, f2, f3, f4, bounds_i64 w0, bounds_i64 w1, bounds_i64 w2, bounds_i64 w3, w4⟩
/-- What a walk is told of a deed that came in. -/
def IsDeed (v : Value) : Prop := ∃ cl off wait k key fld n txt, v = deedV cl off wait k key fld n txt ∧ (-9223372036854775808 ≤ cl ∧ cl ≤ 9223372036854775807) ∧ (-9223372036854775808 ≤ off ∧ off ≤ 9223372036854775807) ∧
  (-9223372036854775808 ≤ k ∧ k ≤ 9223372036854775807) ∧ (-9223372036854775808 ≤ key ∧ key ≤ 9223372036854775807) ∧ (-9223372036854775808 ≤ fld ∧ fld ≤ 9223372036854775807) ∧ (-9223372036854775808 ≤ n ∧ n ≤ 9223372036854775807) ∧ txt.size ≤ 9223372036854775807

theorem shape_deed {H : Type} {enc : TypeId × Value → H} {w : World} {held : Bool} {r : Reach} {b0 : Nat} {v : Value} {d : DataW H} {p : List MemPlace}
    (hv : Value.okWide Try.prog w r b0 37 v) (h : DataW.Trod enc Try.prog w 0 (fun _ => true) held 37 v d p) : IsDeed v := by
  obtain ⟨cs, rfl, hsz⟩ := okWide_struct Try.underlying37 hv
  obtain ⟨c0, c1, c2, c3, c4, c5, c6, c7, rfl⟩ := array8 (hsz.trans cells_deed)
  obtain ⟨fuel, hf⟩ := h
  obtain ⟨xs, n, _, _, _, hlen, hf⟩ := DataW.trod_struct Try.underlying37 hf
  have hx : ∀ i, i < 4 → ∃ y, xs[i]? = some y := fun i hi => ⟨xs[i]'(by rw [hlen]; exact hi), by simp⟩
  obtain ⟨y0, e0⟩ := hx 0 (by omega)
  obtain ⟨y1, e1⟩ := hx 1 (by omega)
  obtain ⟨y2, e2⟩ := hx 2 (by omega)
  obtain ⟨y3, e3⟩ := hx 3 (by omega)
  have g0 : DataW.trod enc Try.prog w 0 (fun _ => true) held n 3 [c0] = some y0 := by simpa [Value.cells, cells_int] using (hf 0 _ rfl).trans e0
  have g1 : DataW.trod enc Try.prog w 0 (fun _ => true) held n 3 [c1] = some y1 := by simpa [Value.cells, cells_int] using (hf 1 _ rfl).trans e1
  have g2 : DataW.trod enc Try.prog w 0 (fun _ => true) held n 3 [c2] = some y2 := by simpa [Value.cells, cells_int] using (hf 2 _ rfl).trans e2
  have g3 : DataW.trod enc Try.prog w 0 (fun _ => true) held n 35 [c3, c4, c5, c6, c7] = some y3 := by simpa [Value.cells, cells_raw] using (hf 3 _ rfl).trans e3
  obtain ⟨cl, f0, -, w0⟩ := DataW.trod_int Try.underlying3 g0
  obtain ⟨off, f1, -, w1⟩ := DataW.trod_int Try.underlying3 g1
  obtain ⟨wait, f2, -, w2⟩ := DataW.trod_int Try.underlying3 g2
  obtain ⟨k, key, fld, m, txt, rfl, rfl, rfl, rfl, rfl, b1, b2, b3, b4, b5⟩ := raw_cells g3
  simp only [List.cons.injEq, and_true] at f0 f1 f2
  subst f0 f1 f2
  exact ⟨cl, off, wait, k, key, fld, m, txt, rfl, bounds_i64 w0, bounds_i64 w1, b1, b2, b3, b4, b5⟩
end Go.Proofs.Ytpbgadojocgefaa
