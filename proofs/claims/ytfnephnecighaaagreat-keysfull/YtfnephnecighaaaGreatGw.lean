/- A region that draws its order, whose operations only read and whose calls leave all that was there as it was: one walk, in the order of the text. -/
import Derived.Test.YtfnephnecighaaaGreatLwJ
import Derived.BigQuiet
import Derived.Deep.QuietTactic
namespace Go.Proofs.YtfnephnecighaaaGreat
open Go.RowKit
set_option linter.unusedVariables false

/-- A world that has grown out of another one, which lies in it as it was. -/
structure Grown (W : World) where
  w : World
  h : Below W.heap.size W w

theorem Grown.isThere (W : World) : Nonempty (Grown W) := ⟨⟨W, Below.refl _ W⟩⟩

theorem wp_region_grown {P : Program} {id : Nat} {Q : Exit → Act → World → Prop} {a : Act} {W : World} {l : List Oper} (hm : P.follows .mixedOrders = true) (hB : Region.lexB .any l.toArray = true)
    (h : wpQuiet P l.toArray (fun w' => ∃ g : Grown W, w' = g.w) (fun a' => ∀ w', (∃ g : Grown W, w' = g.w) → Q .normal a' w') l a) : (Code.region id l.toArray true).wp P Q a W :=
  wp_region_quiet (C := fun w' => ∃ g : Grown W, w' = g.w) hm hB ⟨⟨W.drew, (Below.refl _ W).drew⟩, rfl⟩ (by simpa using h)

/-- A call that leaves what was there as it was, in such a region. -/
theorem Calls.grown {P : Program} {f : FuncId} {args : Array Value} {W : World} {v : Value} (g : Grown W) (h : ∀ w', Below W.heap.size W w' → Calls P f args w' fun e w'' => e = .returned v ∧ Below w'.heap.size w' w'') :
    Calls P f args g.w fun e w'' => e = .returned v ∧ ∃ g' : Grown W, w'' = g'.w :=
  (h g.w g.h).mono fun _ w'' ⟨he, hb⟩ => ⟨he, ⟨w'', bstep g.h hb⟩, rfl⟩
theorem Calls.grown_same {P : Program} {f : FuncId} {args : Array Value} {W : World} {v : Value} (g : Grown W) (h : ∀ w', Calls P f args w' fun e w'' => e = .returned v ∧ w' = w'') :
    Calls P f args g.w fun e w'' => e = .returned v ∧ ∃ g' : Grown W, w'' = g'.w :=
  (h g.w).mono fun _ w'' ⟨he, hb⟩ => ⟨he, g, hb.symm⟩

theorem Grown.cells {W : World} {b : Nat} {cs : Array Value} {t : TypeId} (h : W.heap[b]? = some (.cells cs t (0, 0))) : (∀ (g : Grown W) o, g.w.cell? ⟨b, o, none⟩ = cs[o]?) ∧ (∀ (g : Grown W) o, g.w.frozen? ⟨b, o, none⟩ = false) :=
  ⟨fun g o => (cellsB ((g.h.block b (lt_at h)).trans h)).1 o, fun g o => (cellsB ((g.h.block b (lt_at h)).trans h)).2 o⟩
theorem Grown.cell {W : World} {b o : Nat} {v : Value} (hb : b < W.heap.size) (h : W.cell? ⟨b, o, none⟩ = some v) (g : Grown W) : g.w.cell? ⟨b, o, none⟩ = some v := (g.h.cell (p := ⟨b, o, none⟩) hb).trans h
end Go.Proofs.YtfnephnecighaaaGreat
