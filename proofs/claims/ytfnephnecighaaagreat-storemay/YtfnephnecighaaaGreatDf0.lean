/- slices.DeleteFunc over a row of entries: the cells, plain lists. -/
import Derived.Test.YtfnephnecighaaaGreatFs0
namespace Go.Proofs.YtfnephnecighaaaGreat
open Go.RowKit
set_option linter.unusedVariables false
set_option maxRecDepth 100000

def eightC (w : World) (g o : Nat) (v0 v1 v2 v3 v4 v5 v6 v7 : Value) : World := (((((((w.setCell ⟨g, o, none⟩ v0).setCell ⟨g, o + 1, none⟩ v1).setCell ⟨g, o + 2, none⟩ v2).setCell ⟨g, o + 3, none⟩ v3).setCell ⟨g, o + 4, none⟩ v4).setCell ⟨g, o + 5, none⟩ v5).setCell ⟨g, o + 6, none⟩ v6).setCell ⟨g, o + 7, none⟩ v7
theorem eightC_block {w : World} {g : Nat} {L : List Value} {e : TypeId} (h : w.heap[g]? = some (.cells L.toArray e (0, 0))) (o : Nat) (v0 v1 v2 v3 v4 v5 v6 v7 : Value) :
    (eightC w g o v0 v1 v2 v3 v4 v5 v6 v7).heap[g]? = some (.cells ((((((((L.set o v0).set (o + 1) v1).set (o + 2) v2).set (o + 3) v3).set (o + 4) v4).set (o + 5) v5).set (o + 6) v6).set (o + 7) v7).toArray e (0, 0)) := by
  unfold eightC
  rw [Go.heap_setCell_same _ g (o + 7) _ e v7 (Go.heap_setCell_same _ g (o + 6) _ e v6 (Go.heap_setCell_same _ g (o + 5) _ e v5 (Go.heap_setCell_same _ g (o + 4) _ e v4 (Go.heap_setCell_same _ g (o + 3) _ e v3 (Go.heap_setCell_same _ g (o + 2) _ e v2 (Go.heap_setCell_same _ g (o + 1) _ e v1 (Go.heap_setCell_same _ g o _ e v0 h)))))))]
  simp
theorem eightC_other {w : World} {g o k : Nat} {v0 v1 v2 v3 v4 v5 v6 v7 : Value} (hk : k ≠ g) : (eightC w g o v0 v1 v2 v3 v4 v5 v6 v7).heap[k]? = w.heap[k]? := by
  unfold eightC
  exact (Below.heap_setCell _ _ _ _ hk).trans ((Below.heap_setCell _ _ _ _ hk).trans ((Below.heap_setCell _ _ _ _ hk).trans ((Below.heap_setCell _ _ _ _ hk).trans ((Below.heap_setCell _ _ _ _ hk).trans ((Below.heap_setCell _ _ _ _ hk).trans ((Below.heap_setCell _ _ _ _ hk).trans (Below.heap_setCell _ _ _ _ hk)))))))
theorem eightC_size {w : World} {g o : Nat} {v0 v1 v2 v3 v4 v5 v6 v7 : Value} : (eightC w g o v0 v1 v2 v3 v4 v5 v6 v7).heap.size = w.heap.size := by simp [eightC, World.setCell]
theorem eightC_below {B : Nat} {w w1 : World} {g o : Nat} {v0 v1 v2 v3 v4 v5 v6 v7 : Value} (h : Below B w w1) (hg : B ≤ g) : Below B w (eightC w1 g o v0 v1 v2 v3 v4 v5 v6 v7) := by
  unfold eightC
  exact (((((((h.setCell hg _).setCell hg _).setCell hg _).setCell hg _).setCell hg _).setCell hg _).setCell hg _).setCell hg _
theorem flat_ent (e : Ent) : ∀ (l : List Ent) (i : Nat) (S : List Value) (h : i < l.length),
    ((((((((((l.flatMap encE) ++ S).set (i * 8) (.string e.kv.key)).set (i * 8 + 1) (.int .i64 e.kv.x.kind)).set (i * 8 + 2) (.string e.kv.x.text)).set (i * 8 + 3) (.int .i64 e.kv.x.count)).set (i * 8 + 4) e.ps).set (i * 8 + 5) e.is).set (i * 8 + 6) e.ss).set (i * 8 + 7) (.int .i64 e.kv.til)) = (l.set i e).flatMap encE ++ S
  | [], i, S, h => by simp at h
  | x :: r, 0, S, h => by simp [encE]
  | x :: r, i + 1, S, h => by
    have ih := flat_ent e r i S (by simpa using h)
    have hx : encE x = [.string x.kv.key, .int .i64 x.kv.x.kind, .string x.kv.x.text, .int .i64 x.kv.x.count, x.ps, x.is, x.ss, .int .i64 x.kv.til] := rfl
    rw [List.flatMap_cons, List.set_cons_succ, List.flatMap_cons, List.append_assoc, List.append_assoc, ← ih, hx]
    have k : ∀ c, (i + 1) * 8 + c = (i * 8 + c) + 8 := fun c => by omega
    have k0 : (i + 1) * 8 = i * 8 + 8 := by omega
    rw [k0]
    have k1 : ∀ c, i * 8 + 8 + c = (i * 8 + c) + 8 := fun c => by omega
    simp only [k1]
    simp only [List.cons_append, List.nil_append, List.set_cons_succ]

/-- Nothing but one row has turned, and what is new. -/
structure Apart (B g : Nat) (w W : World) : Prop where
  below : Below B w W
  size : w.heap.size ≤ W.heap.size
  other : ∀ b, b < w.heap.size → b ≠ g → W.heap[b]? = w.heap[b]?
theorem Apart.refl (B g : Nat) (w : World) : Apart B g w w := ⟨Below.refl _ _, Nat.le_refl _, fun _ _ _ => rfl⟩
theorem Apart.step {B g : Nat} {w W W' : World} (h : Apart B g w W) (hB : B ≤ W.heap.size) (hb : Below W.heap.size W W') : Apart B g w W' :=
  ⟨h.below.trans (hb.mono hB), Nat.le_trans h.size hb.size, fun b hl hne => (hb.block b (Nat.lt_of_lt_of_le hl h.size)).trans (h.other b hl hne)⟩
theorem Apart.eight {B g o : Nat} {w W : World} {v0 v1 v2 v3 v4 v5 v6 v7 : Value} (h : Apart B g w W) (hg : B ≤ g) : Apart B g w (eightC W g o v0 v1 v2 v3 v4 v5 v6 v7) :=
  ⟨eightC_below h.below hg, by rw [eightC_size]; exact h.size, fun b hl hne => (eightC_other hne).trans (h.other b hl hne)⟩

theorem zero_ones : ∀ n, ∀ v ∈ (Builtin.zeroCells (zeroE).cells n).toList, v.oneCell' = true := by
  intro n v hv
  have h8 : ∀ k, k < 8 → ((zeroE).cells[k]!).oneCell' = true := by
    have : (List.range 8).all (fun k => ((zeroE).cells[k]!).oneCell') = true := by kernel_rfl
    intro k hk
    exact List.all_eq_true.1 this k (List.mem_range.2 hk)
  unfold Builtin.zeroCells at hv
  simp only [Array.toList_map, List.mem_map] at hv
  obtain ⟨i, -, rfl⟩ := hv
  exact h8 _ (Nat.mod_lt _ (by decide))
theorem zero_len (n : Nat) : (Builtin.zeroCells (zeroE).cells n).toList.length = n * 8 := by
  unfold Builtin.zeroCells
  simp [show (zeroE).cells.size = 8 from rfl]

theorem take_set_self {α : Type} (l : List α) (i : Nat) (a : α) : (l.set i a).take i = l.take i := by
  rw [List.take_set, List.set_eq_of_length_le (List.length_take_le _ _)]
theorem laid_len (L : List Value) (o : Nat) (Z : List Value) (h : o + Z.length ≤ L.length) : (laid L o Z).length = L.length := by
  unfold laid; simp; omega
/-- The elements that stay. -/
theorem filter_snoc {α : Type} (p : α → Bool) (l : List α) (j : Nat) (h : j < l.length) : (l.take (j + 1)).filter p = (l.take j).filter p ++ (if p l[j] = true then [l[j]] else []) := by
  rw [List.take_succ_eq_append_getElem h, List.filter_append]
  congr 1
  by_cases hp : p l[j] = true
  · simp [hp]
  · simp [hp]
end Go.Proofs.YtfnephnecighaaaGreat
