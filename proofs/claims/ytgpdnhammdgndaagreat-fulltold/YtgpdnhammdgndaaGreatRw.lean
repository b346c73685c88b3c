/- Raw numbers, and slices of them that came in. -/
import Derived.Test.YtgpdnhammdgndaaGreatOwJ
import Derived.Test.YtgpdnhammdgndaaGreatOr
import Derived.SizedLaws
namespace Go.Proofs.YtgpdnhammdgndaaGreat
open Go.ChangeShapes Go.WideShapes Go.ChangeAt Go.RowKit
set_option linter.unusedVariables false
set_option maxRecDepth 100000

structure Raw where
  k : Int
  key : Int
  fld : Int
  n : Int
  txt : ByteArray
def encRw (d : Raw) : List Value := [.int .i64 d.k, .int .i64 d.key, .int .i64 d.fld, .int .i64 d.n, .string d.txt]
def i64s (n : Int) : Prop := -9223372036854775808 ≤ n ∧ n ≤ 9223372036854775807
def Raw.wf (d : Raw) : Prop := i64s d.k ∧ i64s d.key ∧ i64s d.fld ∧ i64s d.n ∧ d.txt.size ≤ 9223372036854775807
abbrev Raw.v (d : Raw) : Value := rawV d.k d.key d.fld d.n d.txt

theorem listR5 {α : Type} {cs : List α} (h : cs.length = 5) : ∃ c0 c1 c2 c3 c4, cs = [c0, c1, c2, c3, c4] := by
  match cs, h with
  | [c0, c1, c2, c3, c4], _ => exact ⟨c0, c1, c2, c3, c4, rfl⟩

theorem rawrow_cells {H : Type} {enc : TypeId × Value → H} {w : World} {held : Bool} {fuel : Nat} {cs : List Value} {y : DataW H × List MemPlace} (hl : cs.length = 5)
    (h : DataW.trod enc Tryz.prog w 0 (fun _ => true) held fuel 43 cs = some y) : ∃ d : Raw, cs = encRw d ∧ d.wf := by
  obtain ⟨c0, c1, c2, c3, c4, rfl⟩ := listR5 hl
  obtain ⟨xs, n, _, _, _, hlen, hf⟩ := DataW.trod_struct Tryz.underlying43 h
  have hx : ∀ i, i < 5 → ∃ y, xs[i]? = some y := fun i hi => ⟨xs[i]'(by rw [hlen]; exact hi), by simp⟩
  obtain ⟨y0, e0⟩ := hx 0 (by omega)
  obtain ⟨y1, e1⟩ := hx 1 (by omega)
  obtain ⟨y2, e2⟩ := hx 2 (by omega)
  obtain ⟨y3, e3⟩ := hx 3 (by omega)
  obtain ⟨y4, e4⟩ := hx 4 (by omega)
  have g0 : DataW.trod enc Tryz.prog w 0 (fun _ => true) held n 3 [c0] = some y0 := by simpa [Value.cells, cells_int] using (hf 0 _ rfl).trans e0
  have g1 : DataW.trod enc Tryz.prog w 0 (fun _ => true) held n 3 [c1] = some y1 := by simpa [Value.cells, cells_int] using (hf 1 _ rfl).trans e1
  have g2 : DataW.trod enc Tryz.prog w 0 (fun _ => true) held n 3 [c2] = some y2 := by simpa [Value.cells, cells_int] using (hf 2 _ rfl).trans e2
  have g3 : DataW.trod enc Tryz.prog w 0 (fun _ => true) held n 3 [c3] = some y3 := by simpa [Value.cells, cells_int] using (hf 3 _ rfl).trans e3
  have g4 : DataW.trod enc Tryz.prog w 0 (fun _ => true) held n 9 [c4] = some y4 := by simpa [Value.cells, cells_string] using (hf 4 _ rfl).trans e4
  obtain ⟨k, f0, -, w0⟩ := DataW.trod_int Tryz.underlying3 g0
  obtain ⟨s1, f1, -, w1⟩ := DataW.trod_int Tryz.underlying3 g1
  obtain ⟨s2, f2, -, w2⟩ := DataW.trod_int Tryz.underlying3 g2
  obtain ⟨s3, f3, -, w3⟩ := DataW.trod_int Tryz.underlying3 g3
  obtain ⟨m, f4, -, w4⟩ := DataW.trod_string Tryz.underlying9 g4
  simp only [List.cons.injEq, and_true] at f0 f1 f2 f3 f4
  subst f0 f1 f2 f3 f4
  exact ⟨⟨k, s1, s2, s3, m⟩, rfl, bounds_i64 w0, bounds_i64 w1, bounds_i64 w2, bounds_i64 w3, w4⟩

/-- A slice of raw numbers that came in. -/
abbrev RawsAt (w : World) (s : Value) (l : List Raw) : Prop := InAt 5 encRw Raw.wf w s l
theorem RawsAt.below {w w' : World} {s : Value} {l : List Raw} (h : RawsAt w s l) (hb : Below w.heap.size w w') : RawsAt w' s l := by
  obtain ⟨hw, a, cap, hs, h1, h2, h3⟩ := h
  refine ⟨hw, a, cap, hs, h1, h2, ?_⟩
  rcases h3 with h3 | ⟨b, off, ha, hbk, hc⟩
  · exact .inl h3
  · exact .inr ⟨b, off, ha, Nat.lt_of_lt_of_le hbk hb.size, fun i hi c hk => (hb.cell (p := ⟨b, off + i * 5 + c, none⟩) hbk).trans (hc i hi c hk)⟩
theorem fiveR {w : World} {b off : Nat} {l : List Raw} (hc : ∀ i (h : i < l.length) (c : Nat), c < 5 → w.cell? ⟨b, off + i * 5 + c, none⟩ = (encRw l[i])[c]?) (m : Nat) (hm : m < l.length) :
    w.cell? ⟨b, off + m * 5, none⟩ = some (.int .i64 l[m].k) ∧ w.cell? ⟨b, off + m * 5 + 1, none⟩ = some (.int .i64 l[m].key) ∧ w.cell? ⟨b, off + m * 5 + 2, none⟩ = some (.int .i64 l[m].fld) ∧
    w.cell? ⟨b, off + m * 5 + 3, none⟩ = some (.int .i64 l[m].n) ∧ w.cell? ⟨b, off + m * 5 + 4, none⟩ = some (.string l[m].txt) :=
  ⟨hc m hm 0 (by omega), hc m hm 1 (by omega), hc m hm 2 (by omega), hc m hm 3 (by omega), hc m hm 4 (by omega)⟩

theorem bytes_raw : Tryz.prog.bytesOf 43 = 48 := by kernel_rfl
/-- What a walk is told of a slice of raw numbers that came in; it takes at most so many bytes. -/
def IsRaws (w : World) (v : Value) : Prop := ∃ l, RawsAt w v l ∧ l.length * 48 ≤ reachBytes
theorem shape_raws {H : Type} {enc : TypeId × Value → H} {w : World} {held : Bool} {r : Reach} {b0 : Nat} {v : Value} {d : DataW H} {p : List MemPlace}
    (hv : Value.okWide Tryz.prog w r b0 38 v) (h : DataW.Trod enc Tryz.prog w 0 (fun _ => true) held 38 v d p) (hz : ∀ n ∈ d.weights Tryz.prog 38, n ≤ reachBytes) : IsRaws w v := by
  have hs := okWide_slice Tryz.underlying38 hv
  obtain ⟨fuel, hf⟩ := h
  obtain ⟨l, h1, h2⟩ := open_rows 5 encRw Raw.wf (by omega) Tryz.underlying38 cells_raw (fun n cs' y hl ht => rawrow_cells hl ht) hs hf
  refine ⟨l, h1, ?_⟩
  rcases h2 with rfl | ⟨es, sp, he, hel⟩
  · simp
  · have he : d = .slice es sp := he
    have := hz ((es.length + sp.length) * Tryz.prog.bytesOf 43) (by rw [he]; simp [DataW.weights, Tryz.underlying38])
    rw [bytes_raw] at this
    omega
end Go.Proofs.YtgpdnhammdgndaaGreat
