/- Arguments opened: a reply, with what its list's size is. -/
import Derived.Test.YtnlaehpldmkdoaaOw
import Derived.Test.YtnlaehpldmkdoaaRt
import Derived.SizedLaws
namespace Go.Proofs.Ytnlaehpldmkdoaa
open Go.ChangeShapes Go.WideShapes Go.ChangeAt Go.RowKit
set_option linter.unusedVariables false
set_option maxRecDepth 100000

theorem cells_texts : Try.prog.cellsOf 23 = 1 := by kernel_rfl
theorem cells_errno : Try.prog.cellsOf 27 = 1 := by kernel_rfl
theorem cells_reply : Try.prog.cellsOf 98 = 4 := by kernel_rfl
theorem bytes_string : Try.prog.bytesOf 9 = 16 := by kernel_rfl
theorem array4 {α : Type} {cs : Array α} (h : cs.size = 4) : ∃ c0 c1 c2 c3, cs = #[c0, c1, c2, c3] := by
  obtain ⟨l⟩ := cs
  match l, h with
  | [c0, c1, c2, c3], _ => exact ⟨c0, c1, c2, c3, rfl⟩
theorem text_cells {H : Type} {enc : TypeId × Value → H} {w : World} {held : Bool} {fuel : Nat} {cs : List Value} {y : DataW H × List MemPlace} (hl : cs.length = 1)
    (h : DataW.trod enc Try.prog w 0 (fun _ => true) held fuel 9 cs = some y) : ∃ x : ByteArray, cs = encI x ∧ True := by
  obtain ⟨s1, f1, -, w1⟩ := DataW.trod_string Try.underlying9 h
  exact ⟨s1, f1, trivial⟩

theorem open_texts {H : Type} {enc : TypeId × Value → H} {w : World} {held : Bool} {fuel : Nat} {v : Value} {x : DataW H × List MemPlace} (hv : ∃ a len cap, v = .slice a len cap)
    (h : DataW.trod enc Try.prog w 0 (fun _ => true) held fuel 23 v.cells.toList = some x) (hz : ∀ n ∈ x.1.weights Try.prog 23, n ≤ reachBytes) : ∃ l, RowT w v l ∧ l.length * 16 ≤ reachBytes := by
  obtain ⟨l, h1, h2⟩ := open_rows 1 encI (fun _ => True) (by omega) Try.underlying23 cells_string (fun n cs' y hl ht => text_cells hl ht) hv h
  have hR : reachBytes = 140737488351232 := rfl
  have hb : l.length * 16 ≤ reachBytes := by
    rcases h2 with rfl | ⟨es, sp, he, hel⟩
    · simp
    · have := hz ((es.length + sp.length) * Try.prog.bytesOf 9) (by rw [he]; simp [DataW.weights, Try.underlying23])
      rw [bytes_string] at this
      omega
  refine ⟨l, ?_, hb⟩
  obtain ⟨-, a, cap, hs, q1, q2, q3⟩ := h1
  exact ⟨by omega, a, cap, hs, q1, q2, q3⟩

/-- What a walk is told of a reply that came in. -/
def IsReply (w : World) (v : Value) : Prop := ∃ code text n s l, v = .agg #[.int .i64 code, .string text, .int .i64 n, s] ∧ RowT w s l ∧ l.length * 16 ≤ reachBytes
theorem shape_reply {H : Type} {enc : TypeId × Value → H} {w : World} {held : Bool} {r : Reach} {b0 : Nat} {v : Value} {d : DataW H} {p : List MemPlace}
    (hv : Value.okWide Try.prog w r b0 98 v) (h : DataW.Trod enc Try.prog w 0 (fun _ => true) held 98 v d p) (hz : ∀ n ∈ d.weights Try.prog 98, n ≤ reachBytes) : IsReply w v := by
  obtain ⟨cs, rfl, hsz⟩ := okWide_struct Try.underlying98 hv
  obtain ⟨c0, c1, c2, c3, rfl⟩ := array4 (hsz.trans cells_reply)
  obtain ⟨fuel, hf⟩ := h
  obtain ⟨xs, n, _, hxd, _, hlen, hf⟩ := DataW.trod_struct Try.underlying98 hf
  have hx : ∀ i, i < 4 → ∃ y, xs[i]? = some y := fun i hi => ⟨xs[i]'(by rw [hlen]; exact hi), by simp⟩
  obtain ⟨y0, e0⟩ := hx 0 (by omega)
  obtain ⟨y1, e1⟩ := hx 1 (by omega)
  obtain ⟨y2, e2⟩ := hx 2 (by omega)
  obtain ⟨y3, e3⟩ := hx 3 (by omega)
  have g0 : DataW.trod enc Try.prog w 0 (fun _ => true) held n 27 [c0] = some y0 := by simpa [Value.cells, cells_errno] using (hf 0 _ rfl).trans e0
  have g1 : DataW.trod enc Try.prog w 0 (fun _ => true) held n 9 [c1] = some y1 := by simpa [Value.cells, cells_string] using (hf 1 _ rfl).trans e1
  have g2 : DataW.trod enc Try.prog w 0 (fun _ => true) held n 3 [c2] = some y2 := by simpa [Value.cells, cells_int] using (hf 2 _ rfl).trans e2
  have g3 : DataW.trod enc Try.prog w 0 (fun _ => true) held n 23 [c3] = some y3 := by simpa [Value.cells, cells_texts] using (hf 3 _ rfl).trans e3
  obtain ⟨code, f0, -, -⟩ := DataW.trod_int Try.underlying27 g0
  obtain ⟨text, f1, -, -⟩ := DataW.trod_string Try.underlying9 g1
  obtain ⟨num, f2, -, -⟩ := DataW.trod_int Try.underlying3 g2
  have hsl : ∃ a len cap, c3 = .slice a len cap := by
    rcases Go.Deep.open_slice Try.underlying23 g3 with ⟨hc, -⟩ | ⟨a', len', cap', m, n, D, Pl, hc, -⟩
    · simp only [List.cons.injEq, and_true] at hc; exact ⟨_, _, _, hc⟩
    · simp only [List.cons.injEq, and_true] at hc; exact ⟨_, _, _, hc⟩
  have hzz : ∀ n ∈ y3.1.weights Try.prog 23, n ≤ reachBytes := by
    intro k hk
    refine hz k ?_
    have hd : d = .agg (xs.map (·.1)) := congrArg Prod.fst hxd
    rw [hd]
    simp only [DataW.weights, Try.underlying98]
    exact DataW.weights_mem_each (j := 3) (t := 23) (d := y3.1) rfl (by rw [List.getElem?_map, e3]; rfl) k hk
  obtain ⟨l, h1, h2⟩ := open_texts hsl (v := c3) (x := y3) (by obtain ⟨a, len, cap, rfl⟩ := hsl; exact g3) hzz
  simp only [List.cons.injEq, and_true] at f0 f1 f2
  subst f0 f1 f2
  exact ⟨code, text, num, c3, l, rfl, h1, h2⟩
end Go.Proofs.Ytnlaehpldmkdoaa
