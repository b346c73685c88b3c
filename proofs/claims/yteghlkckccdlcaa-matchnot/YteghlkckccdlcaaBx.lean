/- A log that a call handed back, laid into a box of its own: made behind the call, or ahead of it. -/
import Derived.Test.YteghlkckccdlcaaHa
import Derived.Test.YteghlkckccdlcaaHe
namespace Go.Proofs.Yteghlkckccdlcaa
open Go.RowKit
set_option linter.unusedVariables false

/-- The box holds the log, whose row reads as A; all that was there is as it was. -/
structure BoxAt (w2 : World) (bx : Nat) (b t : Int) (y : Value) (A : List Itm) (V : World) : Prop where
  box : V.heap[bx]? = some (logO b t y)
  up : Below w2.heap.size w2 V
  row : RowI V y A

theorem boxA {w2 w3 : World} {b t : Int} {y : Value} {A : List Itm} (hown : OwnI w2.drew.heap.size w3 y A) (hb : Below w2.drew.heap.size w2.drew w3) (hl : A.length ≤ 140737488355328) :
    BoxAt w2 w3.heap.size b t y A (w3.alloc (logO b t y)) :=
  ⟨alloc_at _ _, ((Below.refl _ w2).drew.trans hb).alloc hb.size _, (hown.row hl).below (balloc _ _)⟩

theorem boxB {w2 w3 : World} {o : Obj} {b t : Int} {y : Value} {A : List Itm} {cs : Array Value} (ho : o = .cells cs 24 (0, 0)) (hc : cs.size = 3) (hown : OwnI (w2.alloc o).drew.heap.size w3 y A) (hb : Below (w2.alloc o).drew.heap.size (w2.alloc o).drew w3) (hl : A.length ≤ 140737488355328) :
    BoxAt w2 w2.heap.size b t y A (((w3.setCell ⟨w2.heap.size, 0, none⟩ (.int .i64 b)).setCell ⟨w2.heap.size, 1, none⟩ (.int .i64 t)).setCell ⟨w2.heap.size, 2, none⟩ y) := by
  subst ho
  have hz : (w2.alloc (.cells cs 24 (0, 0))).drew.heap.size = w2.heap.size + 1 := by simp [World.drew]
  have k3 : w3.heap[w2.heap.size]? = some (.cells cs 24 (0, 0)) := (hb.block w2.heap.size (by omega)).trans (alloc_at w2 _)
  have hup : Below w2.heap.size w2 w3 := bstep (balloc w2 (.cells cs 24 (0, 0))).drew hb
  refine ⟨?_, ((hup.setCell (Nat.le_refl _) _).setCell (Nat.le_refl _) _).setCell (Nat.le_refl _) _, ?_⟩
  · have := setCell_at (o := 2) y (setCell_at (o := 1) (.int .i64 t) (setCell_at (o := 0) (.int .i64 b) k3))
    rw [this]
    obtain ⟨c⟩ := cs
    match c, hc with
    | [c0, c1, c2], _ => rfl
  · refine OwnI.row (B := w2.heap.size + 1) ?_ hl
    rw [hz] at hown
    exact OwnI.setCell (OwnI.setCell (OwnI.setCell hown (Nat.lt_succ_self _) _) (Nat.lt_succ_self _) _) (Nat.lt_succ_self _) _
end Go.Proofs.Yteghlkckccdlcaa
