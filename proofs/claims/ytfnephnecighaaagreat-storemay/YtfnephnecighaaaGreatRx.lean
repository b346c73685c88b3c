/- Slices that came in, as lists (of one without elements no more is said); values whose lists lie so. -/
import Derived.Test.YtfnephnecighaaaGreatVa
namespace Go.Proofs.YtfnephnecighaaaGreat
open Go.RowKit
set_option linter.unusedVariables false

/-- A slice that reads as the list l, k cells an element; of an empty one's address nothing is said. -/
def RowW {α : Type} (k : Nat) (enc : α → List Value) (w : World) (s : Value) (l : List α) : Prop :=
  l.length ≤ 140737488355328 ∧ ∃ a cap, s = .slice a l.length cap ∧ l.length ≤ cap ∧ cap ≤ 9223372036854775807 ∧
    (l = [] ∨ ∃ b off, a = some ⟨b, off, none⟩ ∧ b < w.heap.size ∧ ∀ i (h : i < l.length) (c : Nat), c < k → w.cell? ⟨b, off + i * k + c, none⟩ = (enc l[i])[c]?)
theorem RowW.below {α : Type} {k : Nat} {enc : α → List Value} {w w' : World} {s : Value} {l : List α} (h : RowW k enc w s l) (hb : Below w.heap.size w w') : RowW k enc w' s l := by
  obtain ⟨hl, a, cap, hs, h1, h2, h3⟩ := h
  refine ⟨hl, a, cap, hs, h1, h2, ?_⟩
  rcases h3 with h3 | ⟨b, off, ha, hbk, hc⟩
  · exact .inl h3
  · exact .inr ⟨b, off, ha, bsize hb hbk, fun i hi c hk => (hb.cell (p := ⟨b, off + i * k + c, none⟩) hbk).trans (hc i hi c hk)⟩
theorem RowAt.toW {α : Type} {k : Nat} {enc : α → List Value} {w : World} {s : Value} {l : List α} (h : RowAt k enc w s l) : RowW k enc w s l := by
  obtain ⟨hl, a, cap, hs, h1, h2, h3⟩ := h
  exact ⟨hl, a, cap, hs, h1, h2, h3.imp (fun h => h.2.1) id⟩
theorem RowW.shape {α : Type} {k : Nat} {enc : α → List Value} {w : World} {s : Value} {l : List α} (h : RowW k enc w s l) : ∃ a cap, s = .slice a l.length cap ∧ l.length ≤ 140737488355328 ∧ l.length ≤ cap := by
  obtain ⟨hl, a, cap, hs, h1, -⟩ := h
  exact ⟨a, cap, hs, hl, h1⟩
theorem RowW.take {α : Type} {k : Nat} {enc : α → List Value} {w : World} {a : Option Addr} {n cap : Nat} {l : List α} (h : RowW k enc w (.slice a n cap) l) (i : Nat) (hi : i ≤ l.length) : RowW k enc w (.slice a i cap) (l.take i) := by
  obtain ⟨hl, a', cap', hs, h1, h2, h3⟩ := h
  obtain ⟨rfl, rfl, rfl⟩ := Value.slice.inj hs
  have e : (l.take i).length = i := by rw [List.length_take]; omega
  refine ⟨by omega, a, cap, by rw [e], by omega, h2, ?_⟩
  rcases h3 with rfl | ⟨b, off, ha, hbk, hc⟩
  · exact .inl (by simp)
  · refine .inr ⟨b, off, ha, hbk, fun j hj c hk => ?_⟩
    rw [List.getElem_take]
    exact hc j (by omega) c hk

/-- The three lists of a value that came in. -/
structure ListsW (w : World) (ps is ss : Value) (x : Val) : Prop where
  p : RowW 2 encP w ps x.pairs
  i : RowW 1 encI w is x.items
  s : RowW 2 encS w ss x.scores
theorem ListsW.below {w w' : World} {ps is ss : Value} {x : Val} (h : ListsW w ps is ss x) (hb : Below w.heap.size w w') : ListsW w' ps is ss x := ⟨h.p.below hb, h.i.below hb, h.s.below hb⟩
theorem Lists.toW {w : World} {ps is ss : Value} {x : Val} (h : Lists w ps is ss x) : ListsW w ps is ss x := ⟨h.p.toW, h.i.toW, h.s.toW⟩
def RepsW (w : World) (v : Value) (x : Val) : Prop := ∃ ps is ss, v = valV x.kind x.text x.count ps is ss ∧ ListsW w ps is ss x
theorem RepsW.below {w w' : World} {v : Value} {x : Val} (h : RepsW w v x) (hb : Below w.heap.size w w') : RepsW w' v x := by
  obtain ⟨ps, is, ss, hv, hl⟩ := h
  exact ⟨ps, is, ss, hv, hl.below hb⟩
theorem Reps.toW {w : World} {v : Value} {x : Val} (h : Reps w v x) : RepsW w v x := by
  obtain ⟨ps, is, ss, hv, hl⟩ := h
  exact ⟨ps, is, ss, hv, hl.toW⟩
end Go.Proofs.YtfnephnecighaaaGreat
