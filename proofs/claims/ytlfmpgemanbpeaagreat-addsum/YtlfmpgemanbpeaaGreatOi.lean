/- Arguments opened: a slice of ints, as the reader reads it. -/
import Derived.Test.YtlfmpgemanbpeaaGreatOp
import Derived.ChangeSlices
import Derived.Deep.RegionHeld
namespace Go.Proofs.YtlfmpgemanbpeaaGreat
open Go.ChangeShapes Go.WideShapes Go.ChangeAt Go.RowKit
set_option maxRecDepth 100000

/-- What a walk is told of a slice of ints that came in: each element is an int, and lies in memory. -/
def IsInts (w : World) (v : Value) : Prop := ∃ a len cap, v = .slice a len cap ∧ len ≤ cap ∧ cap ≤ 9223372036854775807 ∧
  (len = 0 ∨ ∃ b off, a = some ⟨b, off, none⟩ ∧ b < w.heap.size ∧ ∀ i, i < len → ∃ z, w.cell? ⟨b, off + i, none⟩ = some (.int .i64 z) ∧ -9223372036854775808 ≤ z ∧ z ≤ 9223372036854775807)

theorem cells_int' : Tryz.prog.cellsOf 3 = 1 := by kernel_rfl
theorem spot_none {w : World} {a : Addr} {v : Value} (h : w.cell? a = some v) : a.spot = none := by
  unfold World.cell? at h
  split at h
  · split at h
    · cases h
    · next hs => cases hh : a.spot with
      | none => rfl
      | some _ => simp [hh] at hs
  · cases h

theorem shape_ints {H : Type} {enc : TypeId × Value → H} {w : World} {held : Bool} {r : Reach} {b0 : Nat} {v : Value} {d : DataW H} {p : List MemPlace}
    (hv : Value.okWide Tryz.prog w r b0 44 v) (h : DataW.Trod enc Tryz.prog w 0 (fun _ => true) held 44 v d p) : IsInts w v := by
  obtain ⟨a, len, cap, rfl⟩ := okWide_slice Tryz.underlying44 hv
  obtain ⟨fuel, hf⟩ := h
  rcases open_ints Tryz.underlying44 Tryz.underlying3 cells_int' hf with ⟨hc, -⟩ | ⟨a', len', cap', zs, hc, -, hl, hm, hz, -, hcell, hwf⟩
  · simp [Value.cells] at hc
    obtain ⟨rfl, rfl, rfl⟩ := hc
    exact ⟨_, _, _, rfl, Nat.le_refl _, by omega, .inl rfl⟩
  · simp [Value.cells] at hc
    obtain ⟨rfl, rfl, rfl⟩ := hc
    refine ⟨_, _, _, rfl, hl, hm, ?_⟩
    by_cases h0 : len = 0
    · exact .inl h0
    · simp at hz
      have c0 := hcell 0 (by omega)
      have hs : a'.spot = none := spot_none (by simpa [Addr.add] using c0)
      have hb : a'.block < w.heap.size := World.block_lt_of_cell? w a' (by simpa [Addr.add] using c0)
      obtain ⟨b, off, sp⟩ := a'
      simp only at hs hb
      subst hs
      refine .inr ⟨b, off, rfl, hb, fun i hi => ?_⟩
      have ci := hcell i (by omega)
      have e : (⟨b, off, none⟩ : Addr).add i = ⟨b, off + i, none⟩ := by
        unfold Addr.add
        split
        · next h => subst h; rfl
        · rfl
      rw [e] at ci
      refine ⟨_, ci, bounds_i64 (hwf _ ?_)⟩
      rw [List.getD_eq_getElem?_getD, List.getElem?_eq_getElem (by omega)]
      simp
end Go.Proofs.YtlfmpgemanbpeaaGreat
