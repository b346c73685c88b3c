/- A store's copy: what a round of fresh.Store leaves. -/
import Derived.Test.YtfnephnecighaaaGreatEn
import Derived.Test.YtfnephnecighaaaGreatSl8
import Derived.Test.YtfnephnecighaaaGreatVcp
import Derived.Test.YtfnephnecighaaaGreatWb
namespace Go.Proofs.YtfnephnecighaaaGreat
open Go.RowKit
set_option linter.unusedVariables false
set_option maxRecDepth 100000

/-- Six cells stored one behind the other. -/
def sixC (w : World) (g o : Nat) (v1 v2 v3 v4 v5 v6 : Value) : World := (((((w.setCell ⟨g, o + 1, none⟩ v1).setCell ⟨g, o + 2, none⟩ v2).setCell ⟨g, o + 3, none⟩ v3).setCell ⟨g, o + 4, none⟩ v4).setCell ⟨g, o + 5, none⟩ v5).setCell ⟨g, o + 6, none⟩ v6
theorem six_block {w : World} {g : Nat} {L : List Value} {e : TypeId} (h : w.heap[g]? = some (.cells L.toArray e (0, 0))) (o : Nat) (v1 v2 v3 v4 v5 v6 : Value) :
    (sixC w g o v1 v2 v3 v4 v5 v6).heap[g]? = some (.cells ((((((L.set (o + 1) v1).set (o + 2) v2).set (o + 3) v3).set (o + 4) v4).set (o + 5) v5).set (o + 6) v6).toArray e (0, 0)) := by
  unfold sixC
  rw [Go.heap_setCell_same _ g (o + 6) _ e v6 (Go.heap_setCell_same _ g (o + 5) _ e v5 (Go.heap_setCell_same _ g (o + 4) _ e v4 (Go.heap_setCell_same _ g (o + 3) _ e v3 (Go.heap_setCell_same _ g (o + 2) _ e v2 (Go.heap_setCell_same _ g (o + 1) _ e v1 h)))))]
  simp
theorem six_other {w : World} {g o k : Nat} {v1 v2 v3 v4 v5 v6 : Value} (hk : k ≠ g) : (sixC w g o v1 v2 v3 v4 v5 v6).heap[k]? = w.heap[k]? := by
  unfold sixC
  exact (Below.heap_setCell _ _ _ _ hk).trans ((Below.heap_setCell _ _ _ _ hk).trans ((Below.heap_setCell _ _ _ _ hk).trans ((Below.heap_setCell _ _ _ _ hk).trans ((Below.heap_setCell _ _ _ _ hk).trans (Below.heap_setCell _ _ _ _ hk)))))
theorem six_size {w : World} {g o : Nat} {v1 v2 v3 v4 v5 v6 : Value} : (sixC w g o v1 v2 v3 v4 v5 v6).heap.size = w.heap.size := by simp [sixC, World.setCell]
theorem six_below {B : Nat} {w w1 : World} {g o : Nat} {v1 v2 v3 v4 v5 v6 : Value} (h : Below B w w1) (hg : B ≤ g) : Below B w (sixC w1 g o v1 v2 v3 v4 v5 v6) := by
  unfold sixC
  exact (((((h.setCell hg _).setCell hg _).setCell hg _).setCell hg _).setCell hg _).setCell hg _
/-- An entry's value is put in its place in a row. -/
theorem flat_val (e : Ent) : ∀ (l : List Ent) (i : Nat) (S : List Value) (h : i < l.length), e.kv.key = l[i].kv.key → e.kv.til = l[i].kv.til →
    ((((((((l.flatMap encE) ++ S).set (i * 8 + 1) (.int .i64 e.kv.x.kind)).set (i * 8 + 2) (.string e.kv.x.text)).set (i * 8 + 3) (.int .i64 e.kv.x.count)).set (i * 8 + 4) e.ps).set (i * 8 + 5) e.is).set (i * 8 + 6) e.ss) = (l.set i e).flatMap encE ++ S
  | [], i, S, h, _, _ => by simp at h
  | x :: r, 0, S, h, h1, h2 => by
    simp only [List.getElem_cons_zero] at h1 h2
    simp [encE, h1, h2]
  | x :: r, i + 1, S, h, h1, h2 => by
    have ih := flat_val e r i S (by simpa using h) (by simpa using h1) (by simpa using h2)
    have hx : encE x = [.string x.kv.key, .int .i64 x.kv.x.kind, .string x.kv.x.text, .int .i64 x.kv.x.count, x.ps, x.is, x.ss, .int .i64 x.kv.til] := rfl
    rw [List.flatMap_cons, List.set_cons_succ, List.flatMap_cons, List.append_assoc, List.append_assoc, ← ih, hx]
    have k : ∀ c, (i + 1) * 8 + c = (i * 8 + c) + 8 := fun c => by omega
    simp only [k]
    simp only [List.cons_append, List.nil_append, List.set_cons_succ]
end Go.Proofs.YtfnephnecighaaaGreat
