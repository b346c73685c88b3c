/- Rows of items of the call's own: one more. -/
import Derived.Test.YtpbgadojocgefaaEi
import Derived.Laws.ResultCell
namespace Go.Proofs.Ytpbgadojocgefaa
open Go.RowKit
set_option linter.unusedVariables false
set_option maxRecDepth 100000

abbrev zeroIt : Value := .agg #[.int .i64 0, .int .i64 0, .bool false, .int .i64 0, .int .i64 0, .int .i64 0, .string ByteArray.empty, .string ByteArray.empty, .string ByteArray.empty, .int .i64 0]
theorem info_item : (Try.prog.info? 46).map (fun i => (i.zero, i.size, i.bytes)) = some (some zeroIt, 10, 104) := by kernel_rfl

/-- A row of items of the call's own, from a block number on. -/
abbrev OwnI (B : Nat) (w : World) (s : Value) (A : List Itm) : Prop := w.ownsRow B 46 10 s A.length (A.flatMap encIt)
theorem OwnI.shape {B : Nat} {w : World} {s : Value} {A : List Itm} (h : OwnI B w s A) : ∃ a c, s = .slice a A.length c := by
  rcases h.2 with ⟨h1, h2⟩ | ⟨g, cap, cur, h1, _⟩
  · exact ⟨_, _, by rw [h1, h2]⟩
  · exact ⟨_, _, h1⟩
theorem OwnI.kept {B : Nat} {w w' : World} {s : Value} {A : List Itm} (h : OwnI B w s A) (hb : Below w.heap.size w w') : OwnI B w' s A := by
  refine ⟨h.1, ?_⟩
  rcases h.2 with h1 | ⟨g, cap, cur, h1, h2, h3, h4⟩
  · exact .inl h1
  · exact .inr ⟨g, cap, cur, h1, h2, (hb.block g (Array.getElem?_eq_some_iff.1 h3).1).trans h3, h4⟩
theorem OwnI.below {B : Nat} {w w' : World} {s : Value} {A : List Itm} (h : OwnI B w s A) (hB : B ≤ w.heap.size) (hg : w.grownBy w' s.ownBlock) : Below B w w' :=
  (Below.refl _ _).grown hg hB (fun k hk => (World.ownsRow.lt h k hk).1)
theorem OwnI.row {B : Nat} {w : World} {s : Value} {A : List Itm} (h : OwnI B w s A) (hl : A.length ≤ 140737488355328) : RowI w s A := (RowAt.ofOwn lenIt h hl).toI
theorem OwnI.nil (B : Nat) (w : World) : OwnI B w (.slice none 0 0) [] := World.ownsRow_nil _ _ _ _
theorem OwnI.snoc {B : Nat} {w : World} {s : Value} {A : List Itm} {x : Itm} (h : w.ownsRow B 46 10 s (A.length + 1) (A.flatMap encIt ++ encIt x)) : OwnI B w s (A ++ [x]) := by
  unfold OwnI; simpa using h

theorem OwnI.base {B B' : Nat} {w : World} {s : Value} {A : List Itm} (h : OwnI B w s A) (hb : B' ≤ B) : OwnI B' w s A := by
  refine ⟨h.1, ?_⟩
  rcases h.2 with h | ⟨g, cap, cur, h1, h2, h3⟩
  · exact .inl h
  · exact .inr ⟨g, cap, cur, h1, Nat.le_trans hb h2, h3⟩
theorem OwnI.setCell {B : Nat} {w : World} {s : Value} {A : List Itm} (h : OwnI B w s A) {a : Addr} (ha : a.block < B) (u : Value) : OwnI B (w.setCell a u) s A := ownsRow_setCell_below h ha u

theorem lit_cells {W : World} {cs : List Value} {t : TypeId} : ∀ j u, cs[j]? = some u → (W.alloc (.cells cs.toArray t (0, 0))).cell? ((⟨W.heap.size, 0, none⟩ : Addr).add j) = some u := by
  intro j u hj
  have h := (cellsB (alloc_at W (.cells cs.toArray t (0, 0)))).1 j
  have e : (⟨W.heap.size, 0, none⟩ : Addr).add j = ⟨W.heap.size, j, none⟩ := by
    unfold Addr.add
    split
    · next h => subst h; rfl
    · simp
  rw [e, h]
  simpa using hj
end Go.Proofs.Ytpbgadojocgefaa
