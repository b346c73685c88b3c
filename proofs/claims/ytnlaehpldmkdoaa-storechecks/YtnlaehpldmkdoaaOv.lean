/- Arguments opened: a value, with what its lists' sizes are. -/
import Derived.Test.YtnlaehpldmkdoaaOrp
import Derived.Test.YtnlaehpldmkdoaaRx
namespace Go.Proofs.Ytnlaehpldmkdoaa
open Go.ChangeShapes Go.WideShapes Go.ChangeAt Go.RowKit
set_option linter.unusedVariables false
set_option maxRecDepth 100000

theorem rowW_of {α : Type} {k : Nat} {enc : α → List Value} {w : World} {v : Value} {l : List α} (h : InAt k enc (fun _ => True) w v l) (hb : l.length ≤ 140737488355328) : RowW k enc w v l := by
  obtain ⟨-, a, cap, hs, h1, h2, h3⟩ := h
  exact ⟨hb, a, cap, hs, h1, h2, h3⟩

theorem cells_pair : Try.prog.cellsOf 82 = 2 := by kernel_rfl
theorem cells_score : Try.prog.cellsOf 84 = 2 := by kernel_rfl
theorem cells_pairs : Try.prog.cellsOf 22 = 1 := by kernel_rfl
theorem cells_scores : Try.prog.cellsOf 24 = 1 := by kernel_rfl
theorem cells_value : Try.prog.cellsOf 26 = 6 := by kernel_rfl
theorem bytes_pair : Try.prog.bytesOf 82 = 32 := by kernel_rfl
theorem bytes_score : Try.prog.bytesOf 84 = 24 := by kernel_rfl
theorem list2 {α : Type} {cs : List α} (h : cs.length = 2) : ∃ c0 c1, cs = [c0, c1] := by
  match cs, h with
  | [c0, c1], _ => exact ⟨c0, c1, rfl⟩
theorem list6 {α : Type} {cs : List α} (h : cs.length = 6) : ∃ c0 c1 c2 c3 c4 c5, cs = [c0, c1, c2, c3, c4, c5] := by
  match cs, h with
  | [c0, c1, c2, c3, c4, c5], _ => exact ⟨c0, c1, c2, c3, c4, c5, rfl⟩

theorem pair_cells {H : Type} {enc : TypeId × Value → H} {w : World} {held : Bool} {fuel : Nat} {cs : List Value} {y : DataW H × List MemPlace} (hl : cs.length = 2)
    (h : DataW.trod enc Try.prog w 0 (fun _ => true) held fuel 82 cs = some y) : ∃ x : ByteArray × ByteArray, cs = encP x ∧ True := by
  obtain ⟨c0, c1, rfl⟩ := list2 hl
  obtain ⟨xs, n, _, _, _, hlen, hf⟩ := DataW.trod_struct Try.underlying82 h
  have hx : ∀ i, i < 2 → ∃ y, xs[i]? = some y := fun i hi => ⟨xs[i]'(by rw [hlen]; exact hi), by simp⟩
  obtain ⟨y0, e0⟩ := hx 0 (by omega)
  obtain ⟨y1, e1⟩ := hx 1 (by omega)
  have g0 : DataW.trod enc Try.prog w 0 (fun _ => true) held n 9 [c0] = some y0 := by simpa [Value.cells, cells_string] using (hf 0 _ rfl).trans e0
  have g1 : DataW.trod enc Try.prog w 0 (fun _ => true) held n 9 [c1] = some y1 := by simpa [Value.cells, cells_string] using (hf 1 _ rfl).trans e1
  obtain ⟨s0, f0, -, -⟩ := DataW.trod_string Try.underlying9 g0
  obtain ⟨s1, f1, -, -⟩ := DataW.trod_string Try.underlying9 g1
  simp only [List.cons.injEq, and_true] at f0 f1
  subst f0 f1
  exact ⟨(s0, s1), rfl, trivial⟩
theorem score_cells {H : Type} {enc : TypeId × Value → H} {w : World} {held : Bool} {fuel : Nat} {cs : List Value} {y : DataW H × List MemPlace} (hl : cs.length = 2)
    (h : DataW.trod enc Try.prog w 0 (fun _ => true) held fuel 84 cs = some y) : ∃ x : ByteArray × Int, cs = encS x ∧ True := by
  obtain ⟨c0, c1, rfl⟩ := list2 hl
  obtain ⟨xs, n, _, _, _, hlen, hf⟩ := DataW.trod_struct Try.underlying84 h
  have hx : ∀ i, i < 2 → ∃ y, xs[i]? = some y := fun i hi => ⟨xs[i]'(by rw [hlen]; exact hi), by simp⟩
  obtain ⟨y0, e0⟩ := hx 0 (by omega)
  obtain ⟨y1, e1⟩ := hx 1 (by omega)
  have g0 : DataW.trod enc Try.prog w 0 (fun _ => true) held n 9 [c0] = some y0 := by simpa [Value.cells, cells_string] using (hf 0 _ rfl).trans e0
  have g1 : DataW.trod enc Try.prog w 0 (fun _ => true) held n 3 [c1] = some y1 := by simpa [Value.cells, cells_int] using (hf 1 _ rfl).trans e1
  obtain ⟨s0, f0, -, -⟩ := DataW.trod_string Try.underlying9 g0
  obtain ⟨s1, f1, -, -⟩ := DataW.trod_int Try.underlying3 g1
  simp only [List.cons.injEq, and_true] at f0 f1
  subst f0 f1
  exact ⟨(s0, s1), rfl, trivial⟩

/-- A slice's cell opened: k cells an element, b bytes. -/
theorem open_list {H : Type} {enc0 : TypeId × Value → H} {w : World} {held : Bool} {t e : TypeId} {fuel : Nat} {v : Value} {x : DataW H × List MemPlace} {α : Type} (k b : Nat) (enc : α → List Value)
    (hk : 0 < k) (hb0 : 16 ≤ b) (ht : Try.prog.underlying t = some (.slice e)) (hcells : Try.prog.cellsOf e = k) (hbytes : Try.prog.bytesOf e = b)
    (hone : ∀ n cs' y, cs'.length = k → DataW.trod enc0 Try.prog w 0 (fun _ => true) held n e cs' = some y → ∃ d, cs' = enc d ∧ True)
    (h : DataW.trod enc0 Try.prog w 0 (fun _ => true) held fuel t [v] = some x) (hz : ∀ n ∈ x.1.weights Try.prog t, n ≤ reachBytes) : ∃ l, RowW k enc w v l ∧ l.length * b ≤ reachBytes := by
  have hsl : ∃ a len cap, v = .slice a len cap := by
    rcases Go.Deep.open_slice ht h with ⟨hc, -⟩ | ⟨a', len', cap', m, n, D, Pl, hc, -⟩
    · simp only [List.cons.injEq, and_true] at hc; exact ⟨_, _, _, hc⟩
    · simp only [List.cons.injEq, and_true] at hc; exact ⟨_, _, _, hc⟩
  have h' : DataW.trod enc0 Try.prog w 0 (fun _ => true) held fuel t v.cells.toList = some x := by obtain ⟨a, len, cap, rfl⟩ := hsl; exact h
  obtain ⟨l, h1, h2⟩ := open_rows k enc (fun _ => True) hk ht hcells hone hsl h'
  have hR : reachBytes = 140737488351232 := rfl
  have hb : l.length * b ≤ reachBytes := by
    rcases h2 with rfl | ⟨es, sp, he, hel⟩
    · simp
    · have := hz ((es.length + sp.length) * Try.prog.bytesOf e) (by rw [he]; simp [DataW.weights, ht])
      rw [hbytes, Nat.add_mul, hel] at this
      omega
  refine ⟨l, rowW_of h1 ?_, hb⟩
  have : l.length * 16 ≤ l.length * b := Nat.mul_le_mul_left _ hb0
  omega

/-- What a walk is told of a value that came in. -/
def fitsV (x : Val) : Prop := x.pairs.length * 32 ≤ reachBytes ∧ x.items.length * 16 ≤ reachBytes ∧ x.scores.length * 24 ≤ reachBytes
def IsVal (w : World) (v : Value) : Prop := ∃ x, RepsW w v x ∧ fitsV x
theorem value_cells {H : Type} {enc : TypeId × Value → H} {w : World} {held : Bool} {fuel : Nat} {c0 c1 c2 c3 c4 c5 : Value} {y : DataW H × List MemPlace}
    (h : DataW.trod enc Try.prog w 0 (fun _ => true) held fuel 26 [c0, c1, c2, c3, c4, c5] = some y) (hz : ∀ n ∈ y.1.weights Try.prog 26, n ≤ reachBytes) :
    ∃ x : Val, c0 = .int .i64 x.kind ∧ c1 = .string x.text ∧ c2 = .int .i64 x.count ∧ ListsW w c3 c4 c5 x ∧ fitsV x := by
  obtain ⟨xs, n, _, hxd, _, hlen, hf⟩ := DataW.trod_struct Try.underlying26 h
  have hx : ∀ i, i < 6 → ∃ y, xs[i]? = some y := fun i hi => ⟨xs[i]'(by rw [hlen]; exact hi), by simp⟩
  obtain ⟨y0, e0⟩ := hx 0 (by omega)
  obtain ⟨y1, e1⟩ := hx 1 (by omega)
  obtain ⟨y2, e2⟩ := hx 2 (by omega)
  obtain ⟨y3, e3⟩ := hx 3 (by omega)
  obtain ⟨y4, e4⟩ := hx 4 (by omega)
  obtain ⟨y5, e5⟩ := hx 5 (by omega)
  have g0 : DataW.trod enc Try.prog w 0 (fun _ => true) held n 3 [c0] = some y0 := by simpa [Value.cells, cells_int] using (hf 0 _ rfl).trans e0
  have g1 : DataW.trod enc Try.prog w 0 (fun _ => true) held n 9 [c1] = some y1 := by simpa [Value.cells, cells_string] using (hf 1 _ rfl).trans e1
  have g2 : DataW.trod enc Try.prog w 0 (fun _ => true) held n 3 [c2] = some y2 := by simpa [Value.cells, cells_int] using (hf 2 _ rfl).trans e2
  have g3 : DataW.trod enc Try.prog w 0 (fun _ => true) held n 22 [c3] = some y3 := by simpa [Value.cells, cells_pairs] using (hf 3 _ rfl).trans e3
  have g4 : DataW.trod enc Try.prog w 0 (fun _ => true) held n 23 [c4] = some y4 := by simpa [Value.cells, cells_texts] using (hf 4 _ rfl).trans e4
  have g5 : DataW.trod enc Try.prog w 0 (fun _ => true) held n 24 [c5] = some y5 := by simpa [Value.cells, cells_scores] using (hf 5 _ rfl).trans e5
  obtain ⟨k, f0, -, -⟩ := DataW.trod_int Try.underlying3 g0
  obtain ⟨s1, f1, -, -⟩ := DataW.trod_string Try.underlying9 g1
  obtain ⟨m, f2, -, -⟩ := DataW.trod_int Try.underlying3 g2
  have hd : y.1 = .agg (xs.map (·.1)) := congrArg Prod.fst hxd
  have z3 : ∀ k ∈ y3.1.weights Try.prog 22, k ≤ reachBytes := fun k hk => hz k (by
    rw [hd]; simp only [DataW.weights, Try.underlying26]
    exact DataW.weights_mem_each (j := 3) (t := 22) (d := y3.1) rfl (by rw [List.getElem?_map, e3]; rfl) k hk)
  have z4 : ∀ k ∈ y4.1.weights Try.prog 23, k ≤ reachBytes := fun k hk => hz k (by
    rw [hd]; simp only [DataW.weights, Try.underlying26]
    exact DataW.weights_mem_each (j := 4) (t := 23) (d := y4.1) rfl (by rw [List.getElem?_map, e4]; rfl) k hk)
  have z5 : ∀ k ∈ y5.1.weights Try.prog 24, k ≤ reachBytes := fun k hk => hz k (by
    rw [hd]; simp only [DataW.weights, Try.underlying26]
    exact DataW.weights_mem_each (j := 5) (t := 24) (d := y5.1) rfl (by rw [List.getElem?_map, e5]; rfl) k hk)
  obtain ⟨l3, r3, m3⟩ := open_list 2 32 encP (by omega) (by omega) Try.underlying22 cells_pair bytes_pair (fun n cs' y hl ht => pair_cells hl ht) g3 z3
  obtain ⟨l4, r4, m4⟩ := open_list 1 16 encI (by omega) (by omega) Try.underlying23 cells_string bytes_string (fun n cs' y hl ht => text_cells hl ht) g4 z4
  obtain ⟨l5, r5, m5⟩ := open_list 2 24 encS (by omega) (by omega) Try.underlying24 cells_score bytes_score (fun n cs' y hl ht => score_cells hl ht) g5 z5
  simp only [List.cons.injEq, and_true] at f0 f1 f2
  exact ⟨⟨k, s1, m, l3, l4, l5⟩, f0, f1, f2, ⟨r3, r4, r5⟩, m3, m4, m5⟩
theorem shape_valueS {H : Type} {enc : TypeId × Value → H} {w : World} {held : Bool} {r : Reach} {b0 : Nat} {v : Value} {d : DataW H} {p : List MemPlace}
    (hv : Value.okWide Try.prog w r b0 26 v) (h : DataW.Trod enc Try.prog w 0 (fun _ => true) held 26 v d p) (hz : ∀ n ∈ d.weights Try.prog 26, n ≤ reachBytes) : IsVal w v := by
  obtain ⟨cs, rfl, hsz⟩ := okWide_struct Try.underlying26 hv
  obtain ⟨l⟩ := cs
  obtain ⟨c0, c1, c2, c3, c4, c5, rfl⟩ := list6 (show l.length = 6 from hsz.trans cells_value)
  obtain ⟨fuel, hf⟩ := h
  obtain ⟨x, h0, h1, h2, h3, h4⟩ := value_cells (c0 := c0) (c1 := c1) (c2 := c2) (c3 := c3) (c4 := c4) (c5 := c5) hf hz
  subst h0 h1 h2
  exact ⟨x, ⟨c3, c4, c5, rfl, h3⟩, h4⟩
end Go.Proofs.Ytnlaehpldmkdoaa
