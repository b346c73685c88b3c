/- Arguments opened: stores, with what their size is. -/
import Derived.Test.YtnlaehpldmkdoaaOv
import Derived.Test.YtnlaehpldmkdoaaSt
namespace Go.Proofs.Ytnlaehpldmkdoaa
open Go.ChangeShapes Go.WideShapes Go.ChangeAt Go.RowKit
set_option linter.unusedVariables false
set_option maxRecDepth 100000

theorem mem_weightsAll {H : Type} {P : Program} {e : TypeId} {n : Nat} {d : DataW H} : ∀ {l : List (DataW H)}, d ∈ l → n ∈ d.weights P e → n ∈ DataW.weightsAll P e l
  | x :: r, hd, hn => by
    simp only [DataW.weightsAll, List.mem_append]
    rcases List.mem_cons.1 hd with rfl | hd
    · exact .inl hn
    · exact .inr (mem_weightsAll hd hn)
/-- A slice's cell opened, its elements with what their size is. -/
theorem open_listZ {H : Type} {enc0 : TypeId × Value → H} {P : Program} {w : World} {held : Bool} {t e : TypeId} {fuel : Nat} {v : Value} {x : DataW H × List MemPlace} {α : Type} (k b : Nat) (enc : α → List Value) (wf : α → Prop)
    (hk : 0 < k) (hb0 : 16 ≤ b) (ht : P.underlying t = some (.slice e)) (hcells : P.cellsOf e = k) (hbytes : P.bytesOf e = b)
    (hone : ∀ n cs' y, cs'.length = k → DataW.trod enc0 P w 0 (fun _ => true) held n e cs' = some y → (∀ m ∈ y.1.weights P e, m ≤ reachBytes) → ∃ d, cs' = enc d ∧ wf d)
    (h : DataW.trod enc0 P w 0 (fun _ => true) held fuel t [v] = some x) (hz : ∀ n ∈ x.1.weights P t, n ≤ reachBytes) : ∃ l, RowW k enc w v l ∧ (∀ d ∈ l, wf d) ∧ l.length * b ≤ reachBytes := by
  have hR : reachBytes = 140737488351232 := rfl
  rcases Go.Deep.open_slice ht h with ⟨hc, -⟩ | ⟨a', len', cap', m, n, D, Pl, hc, -, hl, hm, hmm, hx, hel⟩
  · simp only [List.cons.injEq, and_true] at hc
    subst hc
    exact ⟨[], rowW_of ⟨fun d hd => by simp at hd, _, _, rfl, Nat.le_refl _, by omega, .inl rfl⟩ (by simp), fun d hd => by simp at hd, by simp⟩
  · simp only [List.cons.injEq, and_true] at hc
    subst hc
    simp only [if_true] at hmm
    have hw : x.1 = .slice ((List.range len').map D) ((List.range (m - len')).map fun j => D (len' + j)) := congrArg Prod.fst hx
    rw [hw] at hz
    have hz1 := fun n hn => hz n (show n ∈ DataW.weights P t (.slice _ _) by simp only [DataW.weights, ht]; exact List.mem_cons_of_mem _ (List.mem_append_left _ hn))
    have hz0 := hz ((((List.range len').map D).length + ((List.range (m - len')).map fun j => D (len' + j)).length) * P.bytesOf e) (by simp only [DataW.weights, ht]; exact List.mem_cons_self)
    rw [hbytes] at hz0
    simp only [List.length_map, List.length_range] at hz0
    have hlb : len' * b ≤ reachBytes := Nat.le_trans (Nat.mul_le_mul_right _ (by omega)) hz0
    have hl16 : len' * 16 ≤ len' * b := Nat.mul_le_mul_left _ hb0
    obtain ⟨l, hll, hp⟩ := list_of (fun i d => wf d ∧ ∀ c, c < k → w.cell? (a'.add (i * k + c)) = (enc d)[c]?) len' (fun i hi => by
      obtain ⟨cs', hcs, htr⟩ := hel i (by omega)
      rw [hcells] at hcs
      obtain ⟨-, hlen, hget⟩ := World.cells?_some hcs
      obtain ⟨d, rfl, hd⟩ := hone n cs' _ hlen htr (fun m hm => hz1 m (mem_weightsAll (List.mem_map.2 ⟨i, List.mem_range.2 hi, rfl⟩) hm))
      exact ⟨d, hd, fun c hc => by rw [← Go.Deep.add_add]; exact hget c hc⟩)
    have hwf : ∀ d ∈ l, wf d := fun d hd => by
      obtain ⟨i, hi, rfl⟩ := List.getElem_of_mem hd
      exact (hp i hi).1
    refine ⟨l, rowW_of ⟨fun d hd => trivial, _, _, by rw [hll], by omega, by simpa [maxLen] using hm, ?_⟩ (by omega), hwf, by rw [hll]; exact hlb⟩
    by_cases h0 : len' = 0
    · exact .inl (List.eq_nil_of_length_eq_zero (by omega))
    · obtain ⟨cs', hcs, -⟩ := hel 0 (by omega)
      rw [hcells] at hcs
      obtain ⟨-, hlen, hget⟩ := World.cells?_some hcs
      have c0 := hget 0 hk
      rw [List.getElem?_eq_getElem (by omega)] at c0
      have c1 : w.cell? a' = some (cs'[0]'(by omega)) := by simpa [Addr.add] using c0
      have hs := spot_free c1
      have hb := World.block_lt_of_cell? w a' c1
      obtain ⟨b, off, sp⟩ := a'
      simp only at hs hb
      subst hs
      refine .inr ⟨b, off, rfl, hb, fun i hi c hc => ?_⟩
      have := (hp i hi).2 c hc
      rw [addr_add] at this
      rw [Nat.add_assoc]; exact this

theorem cells_entry : Try.prog.cellsOf 92 = 8 := by kernel_rfl
theorem bytes_entry : Try.prog.bytesOf 92 = 128 := by kernel_rfl
theorem cells_entries : Try.prog.cellsOf 31 = 1 := by kernel_rfl
theorem cells_store : Try.prog.cellsOf 33 = 2 := by kernel_rfl
theorem list8 {α : Type} {cs : List α} (h : cs.length = 8) : ∃ c0 c1 c2 c3 c4 c5 c6 c7, cs = [c0, c1, c2, c3, c4, c5, c6, c7] := by
  match cs, h with
  | [c0, c1, c2, c3, c4, c5, c6, c7], _ => exact ⟨c0, c1, c2, c3, c4, c5, c6, c7, rfl⟩
theorem entry_cells {H : Type} {enc : TypeId × Value → H} {w : World} {held : Bool} {fuel : Nat} {cs : List Value} {y : DataW H × List MemPlace} (hl : cs.length = 8)
    (h : DataW.trod enc Try.prog w 0 (fun _ => true) held fuel 92 cs = some y) (hz : ∀ n ∈ y.1.weights Try.prog 92, n ≤ reachBytes) : ∃ e : Ent, cs = encE e ∧ ListsW w e.ps e.is e.ss e.kv.x ∧ fitsV e.kv.x := by
  obtain ⟨c0, c1, c2, c3, c4, c5, c6, c7, rfl⟩ := list8 hl
  obtain ⟨xs, n, _, hxd, _, hlen, hf⟩ := DataW.trod_struct Try.underlying92 h
  have hx : ∀ i, i < 3 → ∃ y, xs[i]? = some y := fun i hi => ⟨xs[i]'(by rw [hlen]; exact hi), by simp⟩
  obtain ⟨y0, e0⟩ := hx 0 (by omega)
  obtain ⟨y1, e1⟩ := hx 1 (by omega)
  obtain ⟨y2, e2⟩ := hx 2 (by omega)
  have g0 : DataW.trod enc Try.prog w 0 (fun _ => true) held n 9 [c0] = some y0 := by simpa [Value.cells, cells_string] using (hf 0 _ rfl).trans e0
  have g1 : DataW.trod enc Try.prog w 0 (fun _ => true) held n 26 [c1, c2, c3, c4, c5, c6] = some y1 := by simpa [Value.cells, cells_value] using (hf 1 _ rfl).trans e1
  have g2 : DataW.trod enc Try.prog w 0 (fun _ => true) held n 3 [c7] = some y2 := by simpa [Value.cells, cells_int] using (hf 2 _ rfl).trans e2
  have hd : y.1 = .agg (xs.map (·.1)) := congrArg Prod.fst hxd
  have z1 : ∀ k ∈ y1.1.weights Try.prog 26, k ≤ reachBytes := fun k hk => hz k (by
    rw [hd]; simp only [DataW.weights, Try.underlying92]
    exact DataW.weights_mem_each (j := 1) (t := 26) (d := y1.1) rfl (by rw [List.getElem?_map, e1]; rfl) k hk)
  obtain ⟨k, f0, -, -⟩ := DataW.trod_string Try.underlying9 g0
  obtain ⟨x, f1, f2, f3, f4, f5⟩ := value_cells g1 z1
  obtain ⟨s, f6, -, -⟩ := DataW.trod_int Try.underlying3 g2
  simp only [List.cons.injEq, and_true] at f0 f6
  subst f0 f1 f2 f3 f6
  obtain ⟨pa, pc, rfl, -, -⟩ := f4.p.shape
  obtain ⟨ia, ic, rfl, -, -⟩ := f4.i.shape
  obtain ⟨sa, sc, rfl, -, -⟩ := f4.s.shape
  exact ⟨⟨⟨k, x, s⟩, pa, pc, ia, ic, sa, sc⟩, rfl, f4, f5⟩

/-- What a walk is told of a store that came in. -/
def IsSto (w : World) (v : Value) : Prop := ∃ s, RepsSW w v s ∧ (∀ e ∈ s.es, fitsV e.x) ∧ s.es.length * 128 ≤ reachBytes
theorem store_cells {H : Type} {enc : TypeId × Value → H} {w : World} {held : Bool} {fuel : Nat} {c0 c1 : Value} {y : DataW H × List MemPlace}
    (h : DataW.trod enc Try.prog w 0 (fun _ => true) held fuel 33 [c0, c1] = some y) (hz : ∀ n ∈ y.1.weights Try.prog 33, n ≤ reachBytes) : IsSto w (.agg #[c0, c1]) := by
  obtain ⟨xs, n, _, hxd, _, hlen, hf⟩ := DataW.trod_struct Try.underlying33 h
  have hx : ∀ i, i < 2 → ∃ y, xs[i]? = some y := fun i hi => ⟨xs[i]'(by rw [hlen]; exact hi), by simp⟩
  obtain ⟨y0, e0⟩ := hx 0 (by omega)
  obtain ⟨y1, e1⟩ := hx 1 (by omega)
  have g0 : DataW.trod enc Try.prog w 0 (fun _ => true) held n 3 [c0] = some y0 := by simpa [Value.cells, cells_int] using (hf 0 _ rfl).trans e0
  have g1 : DataW.trod enc Try.prog w 0 (fun _ => true) held n 31 [c1] = some y1 := by simpa [Value.cells, cells_entries] using (hf 1 _ rfl).trans e1
  have hd : y.1 = .agg (xs.map (·.1)) := congrArg Prod.fst hxd
  have z1 : ∀ k ∈ y1.1.weights Try.prog 31, k ≤ reachBytes := fun k hk => hz k (by
    rw [hd]; simp only [DataW.weights, Try.underlying33]
    exact DataW.weights_mem_each (j := 1) (t := 31) (d := y1.1) rfl (by rw [List.getElem?_map, e1]; rfl) k hk)
  obtain ⟨k, f0, -, -⟩ := DataW.trod_int Try.underlying3 g0
  obtain ⟨l, r1, r2, r3⟩ := open_listZ 8 128 encE (fun e : Ent => ListsW w e.ps e.is e.ss e.kv.x ∧ fitsV e.kv.x) (by omega) (by omega) Try.underlying31 cells_entry bytes_entry (fun n cs' y hl ht hz => entry_cells hl ht hz) g1 z1
  simp only [List.cons.injEq, and_true] at f0
  subst f0
  refine ⟨⟨k, l.map (·.kv)⟩, ⟨c1, l, rfl, r1, fun e he => (r2 e he).1, rfl⟩, fun e he => ?_, by simpa using r3⟩
  obtain ⟨x, hx, rfl⟩ := List.mem_map.1 he
  exact (r2 x hx).2
theorem shape_storeS {H : Type} {enc : TypeId × Value → H} {w : World} {held : Bool} {r : Reach} {b0 : Nat} {v : Value} {d : DataW H} {p : List MemPlace}
    (hv : Value.okWide Try.prog w r b0 33 v) (h : DataW.Trod enc Try.prog w 0 (fun _ => true) held 33 v d p) (hz : ∀ n ∈ d.weights Try.prog 33, n ≤ reachBytes) : IsSto w v := by
  obtain ⟨cs, rfl, hsz⟩ := okWide_struct Try.underlying33 hv
  obtain ⟨l⟩ := cs
  obtain ⟨c0, c1, rfl⟩ := list2 (show l.length = 2 from hsz.trans cells_store)
  obtain ⟨fuel, hf⟩ := h
  exact store_cells hf hz
end Go.Proofs.Ytnlaehpldmkdoaa
