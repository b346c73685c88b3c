/- Arguments opened: an item, as the reader reads it, is ten cells of their kinds. -/
import Derived.Test.YtdpjganbielnkaaOc
import Derived.Test.YtdpjganbielnkaaEa
namespace Go.Proofs.Ytdpjganbielnkaa
open Go.ChangeShapes Go.WideShapes Go.ChangeAt Go.RowKit
set_option maxRecDepth 100000

theorem array10 {α : Type} {cs : Array α} (h : cs.size = 10) : ∃ c0 c1 c2 c3 c4 c5 c6 c7 c8 c9, cs = #[c0, c1, c2, c3, c4, c5, c6, c7, c8, c9] := by
  obtain ⟨l⟩ := cs
  match l, h with
  | [c0, c1, c2, c3, c4, c5, c6, c7, c8, c9], _ => exact ⟨c0, c1, c2, c3, c4, c5, c6, c7, c8, c9, rfl⟩
theorem cells_item : Try.prog.cellsOf 55 = 10 := by kernel_rfl
theorem cells_bool : Try.prog.cellsOf 4 = 1 := by kernel_rfl
theorem call_cells {H : Type} {enc : TypeId × Value → H} {w : World} {held : Bool} {fuel : Nat} {c0 c1 c2 c3 c4 c5 c6 : Value} {y : DataW H × List MemPlace}
    (h : DataW.trod enc Try.prog w 0 (fun _ => true) held fuel 53 [c0, c1, c2, c3, c4, c5, c6] = some y) :
    ∃ cl seq k s1 s2 s3 n, c0 = .int .i64 cl ∧ c1 = .int .i64 seq ∧ c2 = .int .i64 k ∧ c3 = .string s1 ∧ c4 = .string s2 ∧ c5 = .string s3 ∧ c6 = .int .i64 n := by
  obtain ⟨xs, n, _, _, _, hlen, hf⟩ := DataW.trod_struct Try.underlying53 h
  have hx : ∀ i, i < 3 → ∃ y, xs[i]? = some y := fun i hi => ⟨xs[i]'(by rw [hlen]; exact hi), by simp⟩
  obtain ⟨y0, e0⟩ := hx 0 (by omega)
  obtain ⟨y1, e1⟩ := hx 1 (by omega)
  obtain ⟨y2, e2⟩ := hx 2 (by omega)
  have g0 : DataW.trod enc Try.prog w 0 (fun _ => true) held n 3 [c0] = some y0 := by simpa [Value.cells, cells_int] using (hf 0 _ rfl).trans e0
  have g1 : DataW.trod enc Try.prog w 0 (fun _ => true) held n 3 [c1] = some y1 := by simpa [Value.cells, cells_int] using (hf 1 _ rfl).trans e1
  have g2 : DataW.trod enc Try.prog w 0 (fun _ => true) held n 51 [c2, c3, c4, c5, c6] = some y2 := by simpa [Value.cells, cells_cmd] using (hf 2 _ rfl).trans e2
  obtain ⟨k, f0, -, w0⟩ := DataW.trod_int Try.underlying3 g0
  obtain ⟨s1, f1, -, w1⟩ := DataW.trod_int Try.underlying3 g1
  obtain ⟨k2, s2, s3, s4, m, rfl, rfl, rfl, rfl, rfl⟩ := cmd_cells g2
  simp only [List.cons.injEq, and_true] at f0 f1
  exact ⟨k, s1, k2, s2, s3, s4, m, f0, f1, rfl, rfl, rfl, rfl, rfl⟩
/-- What a walk is told of an item that came in. -/
def IsItem (v : Value) : Prop := ∃ t u p cl seq k key fld txt n, v = itemV t u p cl seq k key fld txt n

theorem shape_item {H : Type} {enc : TypeId × Value → H} {w : World} {held : Bool} {r : Reach} {b0 : Nat} {v : Value} {d : DataW H} {p : List MemPlace}
    (hv : Value.okWide Try.prog w r b0 55 v) (h : DataW.Trod enc Try.prog w 0 (fun _ => true) held 55 v d p) : IsItem v := by
  obtain ⟨cs, rfl, hsz⟩ := okWide_struct Try.underlying55 hv
  obtain ⟨c0, c1, c2, c3, c4, c5, c6, c7, c8, c9, rfl⟩ := array10 (hsz.trans cells_item)
  obtain ⟨fuel, hf⟩ := h
  obtain ⟨xs, n, _, _, _, hlen, hf⟩ := DataW.trod_struct Try.underlying55 hf
  have hx : ∀ i, i < 4 → ∃ y, xs[i]? = some y := fun i hi => ⟨xs[i]'(by rw [hlen]; exact hi), by simp⟩
  obtain ⟨y0, e0⟩ := hx 0 (by omega)
  obtain ⟨y1, e1⟩ := hx 1 (by omega)
  obtain ⟨y2, e2⟩ := hx 2 (by omega)
  obtain ⟨y3, e3⟩ := hx 3 (by omega)
  have g0 : DataW.trod enc Try.prog w 0 (fun _ => true) held n 3 [c0] = some y0 := by simpa [Value.cells, cells_int] using (hf 0 _ rfl).trans e0
  have g1 : DataW.trod enc Try.prog w 0 (fun _ => true) held n 3 [c1] = some y1 := by simpa [Value.cells, cells_int] using (hf 1 _ rfl).trans e1
  have g2 : DataW.trod enc Try.prog w 0 (fun _ => true) held n 4 [c2] = some y2 := by simpa [Value.cells, cells_bool] using (hf 2 _ rfl).trans e2
  have g3 : DataW.trod enc Try.prog w 0 (fun _ => true) held n 53 [c3, c4, c5, c6, c7, c8, c9] = some y3 := by simpa [Value.cells, cells_call] using (hf 3 _ rfl).trans e3
  obtain ⟨k, f0, -, w0⟩ := DataW.trod_int Try.underlying3 g0
  obtain ⟨s1, f1, -, w1⟩ := DataW.trod_int Try.underlying3 g1
  obtain ⟨b, f2, -⟩ := DataW.trod_bool Try.underlying4 g2
  obtain ⟨cl, seq, k2, s2, s3, s4, m, rfl, rfl, rfl, rfl, rfl, rfl, rfl⟩ := call_cells g3
  simp only [List.cons.injEq, and_true] at f0 f1 f2
  subst f0 f1 f2
  exact ⟨k, s1, b, cl, seq, k2, s2, s3, s4, m, rfl⟩
end Go.Proofs.Ytdpjganbielnkaa
