/- Arguments opened: an int; a tape, with what its size is. -/
import Derived.Test.YtafkdbogfgffbaaOwb
import Derived.Test.YtafkdbogfgffbaaBc
import Derived.SizedLaws
namespace Go.Proofs.Ytafkdbogfgffbaa
open Go.ChangeShapes Go.WideShapes Go.ChangeAt Go.RowKit
set_option linter.unusedVariables false
set_option maxRecDepth 100000

/-- What a walk is told of an int that came in. -/
def IsInt (v : Value) : Prop := ∃ a, v = .int .i64 a ∧ -9223372036854775808 ≤ a ∧ a ≤ 9223372036854775807
theorem shape_int {H : Type} {enc : TypeId × Value → H} {w : World} {held : Bool} {r : Reach} {b0 : Nat} {v : Value} {d : DataW H} {p : List MemPlace}
    (hv : Value.okWide Try.prog w r b0 3 v) (h : DataW.Trod enc Try.prog w 0 (fun _ => true) held 3 v d p) : IsInt v := by
  obtain ⟨a, rfl, -, -, wa⟩ := open_int Try.underlying3 hv h
  exact ⟨a, rfl, bounds_i64 wa⟩

theorem cells_int : Try.prog.cellsOf 3 = 1 := by kernel_rfl
theorem cells_byte : Try.prog.cellsOf 5 = 1 := by kernel_rfl
theorem cells_bytes : Try.prog.cellsOf 34 = 1 := by kernel_rfl
theorem cells_tape : Try.prog.cellsOf 36 = 2 := by kernel_rfl
theorem bytes_byte : Try.prog.bytesOf 5 = 1 := by kernel_rfl
theorem array2 {α : Type} {cs : Array α} (h : cs.size = 2) : ∃ c0 c1, cs = #[c0, c1] := by
  obtain ⟨l⟩ := cs
  match l, h with
  | [c0, c1], _ => exact ⟨c0, c1, rfl⟩

theorem byte_cells {H : Type} {enc : TypeId × Value → H} {w : World} {held : Bool} {fuel : Nat} {cs : List Value} {y : DataW H × List MemPlace} (hl : cs.length = 1)
    (h : DataW.trod enc Try.prog w 0 (fun _ => true) held fuel 5 cs = some y) : ∃ x : UInt8, cs = [byteV x] ∧ True := by
  obtain ⟨k, f0, -, w0⟩ := DataW.trod_int Try.underlying5 h
  have hb := bounds_u8 w0
  refine ⟨UInt8.ofNat k.toNat, ?_, trivial⟩
  rw [f0]
  have e : (UInt8.ofNat k.toNat).toNat = k.toNat := by
    rw [UInt8.toNat_ofNat']
    omega
  show [Value.int .u8 k] = [Value.int .u8 (((UInt8.ofNat k.toNat).toNat : Nat) : Int)]
  rw [e, Int.toNat_of_nonneg hb.1]

theorem open_bytes {H : Type} {enc : TypeId × Value → H} {w : World} {held : Bool} {fuel : Nat} {v : Value} {x : DataW H × List MemPlace} (hv : ∃ a len cap, v = .slice a len cap)
    (h : DataW.trod enc Try.prog w 0 (fun _ => true) held fuel 34 v.cells.toList = some x) (hz : ∀ n ∈ x.1.weights Try.prog 34, n ≤ reachBytes) : ∃ l, RowB w v l ∧ l.length ≤ reachBytes := by
  obtain ⟨l, h1, h2⟩ := open_rows 1 (fun x : UInt8 => [byteV x]) (fun _ => True) (by omega) Try.underlying34 cells_byte (fun n cs' y hl ht => byte_cells hl ht) hv h
  have hb : l.length ≤ reachBytes := by
    rcases h2 with rfl | ⟨es, sp, he, hel⟩
    · simp
    · have := hz ((es.length + sp.length) * Try.prog.bytesOf 5) (by rw [he]; simp [DataW.weights, Try.underlying34])
      rw [bytes_byte] at this
      omega
  have hR : reachBytes = 140737488351232 := rfl
  refine ⟨l, ?_, hb⟩
  obtain ⟨-, a, cap, hs, q1, q2, q3⟩ := h1
  refine ⟨by omega, a, cap, hs, q1, q2, ?_⟩
  rcases q3 with q3 | ⟨b, off, ha, hbk, hc⟩
  · exact .inl q3
  · exact .inr ⟨b, off, ha, hbk, fun i hi => by
      have := hc i hi 0 (by omega)
      rw [show off + i * 1 + 0 = off + i by omega] at this
      simpa using this⟩

/-- What a walk is told of a tape that came in. -/
def IsTape (w : World) (v : Value) : Prop := ∃ s y l, v = tapV s y ∧ RowB w s l ∧ -9223372036854775808 ≤ y ∧ y ≤ 9223372036854775807
theorem shape_tape {H : Type} {enc : TypeId × Value → H} {w : World} {held : Bool} {r : Reach} {b0 : Nat} {v : Value} {d : DataW H} {p : List MemPlace}
    (hv : Value.okWide Try.prog w r b0 36 v) (h : DataW.Trod enc Try.prog w 0 (fun _ => true) held 36 v d p) (hz : ∀ n ∈ d.weights Try.prog 36, n ≤ reachBytes) : IsTape w v := by
  obtain ⟨cs, rfl, hsz⟩ := okWide_struct Try.underlying36 hv
  obtain ⟨c0, c1, rfl⟩ := array2 (hsz.trans cells_tape)
  obtain ⟨fuel, hf⟩ := h
  obtain ⟨xs, n, _, hxd, _, hlen, hf⟩ := DataW.trod_struct Try.underlying36 hf
  have hx : ∀ i, i < 2 → ∃ y, xs[i]? = some y := fun i hi => ⟨xs[i]'(by rw [hlen]; exact hi), by simp⟩
  obtain ⟨y0, e0⟩ := hx 0 (by omega)
  obtain ⟨y1, e1⟩ := hx 1 (by omega)
  have g0 : DataW.trod enc Try.prog w 0 (fun _ => true) held n 34 [c0] = some y0 := by simpa [Value.cells, cells_bytes] using (hf 0 _ rfl).trans e0
  have g1 : DataW.trod enc Try.prog w 0 (fun _ => true) held n 3 [c1] = some y1 := by simpa [Value.cells, cells_int] using (hf 1 _ rfl).trans e1
  obtain ⟨t, f1, -, w1⟩ := DataW.trod_int Try.underlying3 g1
  have hsl : ∃ a len cap, c0 = .slice a len cap := by
    rcases Go.Deep.open_slice Try.underlying34 g0 with ⟨hc, -⟩ | ⟨a', len', cap', m, n, D, Pl, hc, -⟩
    · simp only [List.cons.injEq, and_true] at hc; exact ⟨_, _, _, hc⟩
    · simp only [List.cons.injEq, and_true] at hc; exact ⟨_, _, _, hc⟩
  have hzz : ∀ n ∈ y0.1.weights Try.prog 34, n ≤ reachBytes := by
    intro k hk
    refine hz k ?_
    have hd : d = .agg (xs.map (·.1)) := congrArg Prod.fst hxd
    rw [hd]
    simp only [DataW.weights, Try.underlying36]
    exact DataW.weights_mem_each (j := 0) (t := 34) (d := y0.1) rfl (by rw [List.getElem?_map, e0]; rfl) k hk
  simp only [List.cons.injEq, and_true] at f1
  subst f1
  have g0' : DataW.trod enc Try.prog w 0 (fun _ => true) held n 34 c0.cells.toList = some y0 := by
    obtain ⟨a, len, cap, rfl⟩ := hsl
    simpa [Value.cells] using g0
  obtain ⟨l, hr, -⟩ := open_bytes hsl g0' hzz
  exact ⟨c0, t, l, rfl, hr, bounds_i64 w1⟩
end Go.Proofs.Ytafkdbogfgffbaa
