/- Arguments opened: items in slices, and logs, with what their size is. -/
import Derived.Test.YtdpjganbielnkaaOw
import Derived.Test.YtdpjganbielnkaaOe
import Derived.Test.YtdpjganbielnkaaEi
import Derived.SizedLaws
namespace Go.Proofs.Ytdpjganbielnkaa
open Go.ChangeShapes Go.WideShapes Go.ChangeAt Go.RowKit
set_option maxRecDepth 100000

theorem list10 {α : Type} {cs : List α} (h : cs.length = 10) : ∃ c0 c1 c2 c3 c4 c5 c6 c7 c8 c9, cs = [c0, c1, c2, c3, c4, c5, c6, c7, c8, c9] := by
  match cs, h with
  | [c0, c1, c2, c3, c4, c5, c6, c7, c8, c9], _ => exact ⟨c0, c1, c2, c3, c4, c5, c6, c7, c8, c9, rfl⟩
theorem item_cells {H : Type} {enc : TypeId × Value → H} {w : World} {held : Bool} {fuel : Nat} {cs : List Value} {y : DataW H × List MemPlace} (hl : cs.length = 10)
    (h : DataW.trod enc Try.prog w 0 (fun _ => true) held fuel 55 cs = some y) : ∃ x : Itm, cs = encIt x ∧ True := by
  obtain ⟨c0, c1, c2, c3, c4, c5, c6, c7, c8, c9, rfl⟩ := list10 hl
  obtain ⟨xs, n, _, _, _, hlen, hf⟩ := DataW.trod_struct Try.underlying55 h
  have hx : ∀ i, i < 4 → ∃ y, xs[i]? = some y := fun i hi => ⟨xs[i]'(by rw [hlen]; exact hi), by simp⟩
  obtain ⟨y0, e0⟩ := hx 0 (by omega)
  obtain ⟨y1, e1⟩ := hx 1 (by omega)
  obtain ⟨y2, e2⟩ := hx 2 (by omega)
  obtain ⟨y3, e3⟩ := hx 3 (by omega)
  have g0 : DataW.trod enc Try.prog w 0 (fun _ => true) held n 3 [c0] = some y0 := by simpa [Value.cells, cells_int] using (hf 0 _ rfl).trans e0
  have g1 : DataW.trod enc Try.prog w 0 (fun _ => true) held n 3 [c1] = some y1 := by simpa [Value.cells, cells_int] using (hf 1 _ rfl).trans e1
  have g2 : DataW.trod enc Try.prog w 0 (fun _ => true) held n 4 [c2] = some y2 := by simpa [Value.cells, cells_bool] using (hf 2 _ rfl).trans e2
  have g3 : DataW.trod enc Try.prog w 0 (fun _ => true) held n 53 [c3, c4, c5, c6, c7, c8, c9] = some y3 := by simpa [Value.cells, cells_call] using (hf 3 _ rfl).trans e3
  obtain ⟨k, f0, -, w0⟩ := DataW.trod_int Try.underlying3 g0
  obtain ⟨s1, f1, -, w1⟩ := DataW.trod_int Try.underlying3 g1
  obtain ⟨b, f2, -⟩ := DataW.trod_bool Try.underlying4 g2
  obtain ⟨cl, seq, k2, s2, s3, s4, m, rfl, rfl, rfl, rfl, rfl, rfl, rfl⟩ := call_cells g3
  simp only [List.cons.injEq, and_true] at f0 f1 f2
  subst f0 f1 f2
  exact ⟨⟨k, s1, b, cl, seq, ⟨k2, s2, s3, s4, m⟩⟩, rfl, trivial⟩

theorem bytes_item : Try.prog.bytesOf 55 = 104 := by kernel_rfl
theorem cells_log : Try.prog.cellsOf 24 = 3 := by kernel_rfl
theorem cells_items : Try.prog.cellsOf 22 = 1 := by kernel_rfl

/-- A slice of items that came in, not too great. -/
theorem rowI_of {w : World} {v : Value} {l : List Itm} (h : InAt 10 encIt (fun _ => True) w v l) (hb : l.length * 104 ≤ reachBytes) : RowI w v l := by
  obtain ⟨-, a, cap, hs, h1, h2, h3⟩ := h
  have : reachBytes = 140737488351232 := rfl
  exact ⟨by omega, a, cap, hs, h1, h2, h3⟩

theorem open_items {H : Type} {enc : TypeId × Value → H} {w : World} {held : Bool} {fuel : Nat} {v : Value} {x : DataW H × List MemPlace} (hv : ∃ a len cap, v = .slice a len cap)
    (h : DataW.trod enc Try.prog w 0 (fun _ => true) held fuel 22 v.cells.toList = some x) (hz : ∀ n ∈ x.1.weights Try.prog 22, n ≤ reachBytes) : ∃ l, RowI w v l ∧ l.length * 104 ≤ reachBytes := by
  obtain ⟨l, h1, h2⟩ := open_rows 10 encIt (fun _ => True) (by omega) Try.underlying22 cells_item (fun n cs' y hl ht => item_cells hl ht) hv h
  have hb : l.length * 104 ≤ reachBytes := by
    rcases h2 with rfl | ⟨es, sp, he, hel⟩
    · simp
    · have := hz ((es.length + sp.length) * Try.prog.bytesOf 55) (by rw [he]; simp [DataW.weights, Try.underlying22])
      rw [bytes_item] at this
      omega
  exact ⟨l, rowI_of h1 hb, hb⟩

/-- What a walk is told of a log that came in. -/
def IsLog (w : World) (v : Value) : Prop := ∃ b t s l, v = logV b t s ∧ RowI w s l ∧ l.length * 104 ≤ reachBytes
theorem array3 {α : Type} {cs : Array α} (h : cs.size = 3) : ∃ c0 c1 c2, cs = #[c0, c1, c2] := by
  obtain ⟨l⟩ := cs
  match l, h with
  | [c0, c1, c2], _ => exact ⟨c0, c1, c2, rfl⟩
theorem shape_log {H : Type} {enc : TypeId × Value → H} {w : World} {held : Bool} {r : Reach} {b0 : Nat} {v : Value} {d : DataW H} {p : List MemPlace}
    (hv : Value.okWide Try.prog w r b0 24 v) (h : DataW.Trod enc Try.prog w 0 (fun _ => true) held 24 v d p) (hz : ∀ n ∈ d.weights Try.prog 24, n ≤ reachBytes) : IsLog w v := by
  obtain ⟨cs, rfl, hsz⟩ := okWide_struct Try.underlying24 hv
  obtain ⟨c0, c1, c2, rfl⟩ := array3 (hsz.trans cells_log)
  obtain ⟨fuel, hf⟩ := h
  obtain ⟨xs, n, _, hxd, _, hlen, hf⟩ := DataW.trod_struct Try.underlying24 hf
  have hx : ∀ i, i < 3 → ∃ y, xs[i]? = some y := fun i hi => ⟨xs[i]'(by rw [hlen]; exact hi), by simp⟩
  obtain ⟨y0, e0⟩ := hx 0 (by omega)
  obtain ⟨y1, e1⟩ := hx 1 (by omega)
  obtain ⟨y2, e2⟩ := hx 2 (by omega)
  have g0 : DataW.trod enc Try.prog w 0 (fun _ => true) held n 3 [c0] = some y0 := by simpa [Value.cells, cells_int] using (hf 0 _ rfl).trans e0
  have g1 : DataW.trod enc Try.prog w 0 (fun _ => true) held n 3 [c1] = some y1 := by simpa [Value.cells, cells_int] using (hf 1 _ rfl).trans e1
  have g2 : DataW.trod enc Try.prog w 0 (fun _ => true) held n 22 [c2] = some y2 := by simpa [Value.cells, cells_items] using (hf 2 _ rfl).trans e2
  obtain ⟨b, f0, -, -⟩ := DataW.trod_int Try.underlying3 g0
  obtain ⟨t, f1, -, -⟩ := DataW.trod_int Try.underlying3 g1
  have hsl : ∃ a len cap, c2 = .slice a len cap := by
    rcases Go.Deep.open_slice Try.underlying22 g2 with ⟨hc, -⟩ | ⟨a', len', cap', m, n, D, Pl, hc, -⟩
    · simp only [List.cons.injEq, and_true] at hc; exact ⟨_, _, _, hc⟩
    · simp only [List.cons.injEq, and_true] at hc; exact ⟨_, _, _, hc⟩
  have hzz : ∀ n ∈ y2.1.weights Try.prog 22, n ≤ reachBytes := by
    intro k hk
    refine hz k ?_
    have hd : d = .agg (xs.map (·.1)) := congrArg Prod.fst hxd
    rw [hd]
    simp only [DataW.weights, Try.underlying24]
    exact DataW.weights_mem_each (j := 2) (t := 22) (d := y2.1) rfl (by rw [List.getElem?_map, e2]; rfl) k hk
  obtain ⟨l, h1, h2⟩ := open_items hsl (v := c2) (x := y2) (by obtain ⟨a, len, cap, rfl⟩ := hsl; exact g2) hzz
  simp only [List.cons.injEq, and_true] at f0 f1
  subst f0 f1
  exact ⟨b, t, c2, l, rfl, h1, h2⟩
end Go.Proofs.Ytdpjganbielnkaa
