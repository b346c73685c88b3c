/- Arguments opened: a command, as the reader reads it, is five cells of their kinds. -/
import Derived.Test.YtfnephnecighaaaGreatCbJ
import Derived.ProofKit
import Derived.OpenShut
import Derived.ShutString
import Derived.ChangeOld
import Derived.Below
import Derived.Carry
namespace Go.Proofs.YtfnephnecighaaaGreat
open Go.ChangeShapes Go.WideShapes Go.ChangeAt Go.RowKit
set_option maxRecDepth 100000

theorem array5 {α : Type} {cs : Array α} (h : cs.size = 5) : ∃ c0 c1 c2 c3 c4, cs = #[c0, c1, c2, c3, c4] := by
  obtain ⟨l⟩ := cs
  match l, h with
  | [c0, c1, c2, c3, c4], _ => exact ⟨c0, c1, c2, c3, c4, rfl⟩

theorem cells_cmd : Tryz.prog.cellsOf 28 = 5 := by kernel_rfl
theorem cells_int : Tryz.prog.cellsOf 3 = 1 := by kernel_rfl
theorem cells_string : Tryz.prog.cellsOf 9 = 1 := by kernel_rfl

theorem open_cmd {H : Type} {enc : TypeId × Value → H} {w : World} {base : Nat} {spare : Nat → Bool} {held : Bool} {r : Reach} {b0 : Nat} {v : Value} {d : DataW H} {p : List MemPlace}
    (hv : Value.okWide Tryz.prog w r b0 28 v) (h : DataW.Trod enc Tryz.prog w base spare held 28 v d p) :
    ∃ k key fld txt n, v = cmdV k key fld txt n ∧ (Lit.int .i64 k).wf = true ∧ (Lit.int .i64 n).wf = true ∧ key.size ≤ maxLen ∧ fld.size ≤ maxLen ∧ txt.size ≤ maxLen := by
  obtain ⟨cs, rfl, hsz⟩ := okWide_struct Tryz.underlying28 hv
  obtain ⟨c0, c1, c2, c3, c4, rfl⟩ := array5 (hsz.trans cells_cmd)
  obtain ⟨fuel, hf⟩ := h
  obtain ⟨xs, n, _, _, _, hlen, hf⟩ := DataW.trod_struct Tryz.underlying28 hf
  have hx : ∀ i, i < 5 → ∃ y, xs[i]? = some y := fun i hi => ⟨xs[i]'(by rw [hlen]; exact hi), by simp⟩
  obtain ⟨y0, e0⟩ := hx 0 (by omega)
  obtain ⟨y1, e1⟩ := hx 1 (by omega)
  obtain ⟨y2, e2⟩ := hx 2 (by omega)
  obtain ⟨y3, e3⟩ := hx 3 (by omega)
  obtain ⟨y4, e4⟩ := hx 4 (by omega)
  have g0 : DataW.trod enc Tryz.prog w base spare held n 3 [c0] = some y0 := by simpa [Value.cells, cells_int] using (hf 0 _ rfl).trans e0
  have g1 : DataW.trod enc Tryz.prog w base spare held n 9 [c1] = some y1 := by simpa [Value.cells, cells_string] using (hf 1 _ rfl).trans e1
  have g2 : DataW.trod enc Tryz.prog w base spare held n 9 [c2] = some y2 := by simpa [Value.cells, cells_string] using (hf 2 _ rfl).trans e2
  have g3 : DataW.trod enc Tryz.prog w base spare held n 9 [c3] = some y3 := by simpa [Value.cells, cells_string] using (hf 3 _ rfl).trans e3
  have g4 : DataW.trod enc Tryz.prog w base spare held n 3 [c4] = some y4 := by simpa [Value.cells, cells_int] using (hf 4 _ rfl).trans e4
  obtain ⟨k, f0, -, w0⟩ := DataW.trod_int Tryz.underlying3 g0
  obtain ⟨s1, f1, -, w1⟩ := DataW.trod_string Tryz.underlying9 g1
  obtain ⟨s2, f2, -, w2⟩ := DataW.trod_string Tryz.underlying9 g2
  obtain ⟨s3, f3, -, w3⟩ := DataW.trod_string Tryz.underlying9 g3
  obtain ⟨m, f4, -, w4⟩ := DataW.trod_int Tryz.underlying3 g4
  simp only [List.cons.injEq, and_true] at f0 f1 f2 f3 f4
  subst f0 f1 f2 f3 f4
  exact ⟨k, s1, s2, s3, m, rfl, w0, w4, w1, w2, w3⟩

/-- What a walk is told of an int that came in. -/
def IsInt (v : Value) : Prop := ∃ a, v = .int .i64 a ∧ -9223372036854775808 ≤ a ∧ a ≤ 9223372036854775807
/-- What a walk is told of a command that came in. -/
def IsCmd (v : Value) : Prop := ∃ k key fld txt n, v = cmdV k key fld txt n

theorem shape_int {H : Type} {enc : TypeId × Value → H} {w : World} {held : Bool} {r : Reach} {b0 : Nat} {v : Value} {d : DataW H} {p : List MemPlace}
    (hv : Value.okWide Tryz.prog w r b0 3 v) (h : DataW.Trod enc Tryz.prog w 0 (fun _ => true) held 3 v d p) : IsInt v := by
  obtain ⟨a, rfl, -, -, wa⟩ := open_int Tryz.underlying3 hv h
  exact ⟨a, rfl, bounds_i64 wa⟩
theorem shape_cmd {H : Type} {enc : TypeId × Value → H} {w : World} {held : Bool} {r : Reach} {b0 : Nat} {v : Value} {d : DataW H} {p : List MemPlace}
    (hv : Value.okWide Tryz.prog w r b0 28 v) (h : DataW.Trod enc Tryz.prog w 0 (fun _ => true) held 28 v d p) : IsCmd v := by
  obtain ⟨k, key, fld, txt, n, rfl, -⟩ := open_cmd hv h
  exact ⟨k, key, fld, txt, n, rfl⟩
end Go.Proofs.YtfnephnecighaaaGreat
