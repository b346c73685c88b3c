/- Arguments opened: a call, as the reader reads it, is seven cells of their kinds. -/
import Derived.Test.YtdpjganbielnkaaOp
import Derived.Test.YtdpjganbielnkaaDb
namespace Go.Proofs.Ytdpjganbielnkaa
open Go.ChangeShapes Go.WideShapes Go.ChangeAt Go.RowKit
set_option maxRecDepth 100000

theorem array7 {α : Type} {cs : Array α} (h : cs.size = 7) : ∃ c0 c1 c2 c3 c4 c5 c6, cs = #[c0, c1, c2, c3, c4, c5, c6] := by
  obtain ⟨l⟩ := cs
  match l, h with
  | [c0, c1, c2, c3, c4, c5, c6], _ => exact ⟨c0, c1, c2, c3, c4, c5, c6, rfl⟩
theorem cells_call : Try.prog.cellsOf 53 = 7 := by kernel_rfl
theorem cmd_cells {H : Type} {enc : TypeId × Value → H} {w : World} {held : Bool} {fuel : Nat} {c0 c1 c2 c3 c4 : Value} {y : DataW H × List MemPlace}
    (h : DataW.trod enc Try.prog w 0 (fun _ => true) held fuel 51 [c0, c1, c2, c3, c4] = some y) : ∃ k s1 s2 s3 n, c0 = .int .i64 k ∧ c1 = .string s1 ∧ c2 = .string s2 ∧ c3 = .string s3 ∧ c4 = .int .i64 n := by
  obtain ⟨xs, n, _, _, _, hlen, hf⟩ := DataW.trod_struct Try.underlying51 h
  have hx : ∀ i, i < 5 → ∃ y, xs[i]? = some y := fun i hi => ⟨xs[i]'(by rw [hlen]; exact hi), by simp⟩
  obtain ⟨y0, e0⟩ := hx 0 (by omega)
  obtain ⟨y1, e1⟩ := hx 1 (by omega)
  obtain ⟨y2, e2⟩ := hx 2 (by omega)
  obtain ⟨y3, e3⟩ := hx 3 (by omega)
  obtain ⟨y4, e4⟩ := hx 4 (by omega)
  have g0 : DataW.trod enc Try.prog w 0 (fun _ => true) held n 3 [c0] = some y0 := by simpa [Value.cells, cells_int] using (hf 0 _ rfl).trans e0
  have g1 : DataW.trod enc Try.prog w 0 (fun _ => true) held n 9 [c1] = some y1 := by simpa [Value.cells, cells_string] using (hf 1 _ rfl).trans e1
  have g2 : DataW.trod enc Try.prog w 0 (fun _ => true) held n 9 [c2] = some y2 := by simpa [Value.cells, cells_string] using (hf 2 _ rfl).trans e2
  have g3 : DataW.trod enc Try.prog w 0 (fun _ => true) held n 9 [c3] = some y3 := by simpa [Value.cells, cells_string] using (hf 3 _ rfl).trans e3
  have g4 : DataW.trod enc Try.prog w 0 (fun _ => true) held n 3 [c4] = some y4 := by simpa [Value.cells, cells_int] using (hf 4 _ rfl).trans e4
  obtain ⟨k, f0, -, -⟩ := DataW.trod_int Try.underlying3 g0
  obtain ⟨s1, f1, -, -⟩ := DataW.trod_string Try.underlying9 g1
  obtain ⟨s2, f2, -, -⟩ := DataW.trod_string Try.underlying9 g2
  obtain ⟨s3, f3, -, -⟩ := DataW.trod_string Try.underlying9 g3
  obtain ⟨m, f4, -, -⟩ := DataW.trod_int Try.underlying3 g4
  simp only [List.cons.injEq, and_true] at f0 f1 f2 f3 f4
  exact ⟨k, s1, s2, s3, m, f0, f1, f2, f3, f4⟩
/-- What a walk is told of a call that came in. -/
def IsCall (v : Value) : Prop := ∃ cl seq k key fld txt n, v = callV cl seq k key fld txt n

theorem shape_call {H : Type} {enc : TypeId × Value → H} {w : World} {held : Bool} {r : Reach} {b0 : Nat} {v : Value} {d : DataW H} {p : List MemPlace}
    (hv : Value.okWide Try.prog w r b0 53 v) (h : DataW.Trod enc Try.prog w 0 (fun _ => true) held 53 v d p) : IsCall v := by
  obtain ⟨cs, rfl, hsz⟩ := okWide_struct Try.underlying53 hv
  obtain ⟨c0, c1, c2, c3, c4, c5, c6, rfl⟩ := array7 (hsz.trans cells_call)
  obtain ⟨fuel, hf⟩ := h
  obtain ⟨xs, n, _, _, _, hlen, hf⟩ := DataW.trod_struct Try.underlying53 hf
  have hx : ∀ i, i < 3 → ∃ y, xs[i]? = some y := fun i hi => ⟨xs[i]'(by rw [hlen]; exact hi), by simp⟩
  obtain ⟨y0, e0⟩ := hx 0 (by omega)
  obtain ⟨y1, e1⟩ := hx 1 (by omega)
  obtain ⟨y2, e2⟩ := hx 2 (by omega)
  have g0 : DataW.trod enc Try.prog w 0 (fun _ => true) held n 3 [c0] = some y0 := by simpa [Value.cells, cells_int] using (hf 0 _ rfl).trans e0
  have g1 : DataW.trod enc Try.prog w 0 (fun _ => true) held n 3 [c1] = some y1 := by simpa [Value.cells, cells_int] using (hf 1 _ rfl).trans e1
  have g2 : DataW.trod enc Try.prog w 0 (fun _ => true) held n 51 [c2, c3, c4, c5, c6] = some y2 := by simpa [Value.cells, cells_cmd] using (hf 2 _ rfl).trans e2
  obtain ⟨k, f0, -, w0⟩ := DataW.trod_int Try.underlying3 g0
  obtain ⟨s1, f1, -, w1⟩ := DataW.trod_int Try.underlying3 g1
  obtain ⟨k2, s2, s3, s4, m, rfl, rfl, rfl, rfl, rfl⟩ := cmd_cells g2
  simp only [List.cons.injEq, and_true] at f0 f1
  subst f0 f1
  exact ⟨k, s1, k2, s2, s3, s4, m, rfl⟩
end Go.Proofs.Ytdpjganbielnkaa
