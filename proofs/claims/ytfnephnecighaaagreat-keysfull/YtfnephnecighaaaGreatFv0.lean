/- Boxes of values and replies, laid and stored anew. -/
import Derived.Test.YtfnephnecighaaaGreatWgJ
namespace Go.Proofs.YtfnephnecighaaaGreat
open Go.RowKit
set_option linter.unusedVariables false

theorem setCell_sameV {w : World} {g o : Nat} {cs : Array Value} {t : TypeId} (v : Value) (h : w.heap[g]? = some (.cells cs t (0, 0))) : (w.setCell ⟨g, o, none⟩ v).heap[g]? = some (.cells (cs.setIfInBounds o v) t (0, 0)) := by
  rw [setCell_eq_setRow w g o cs t (0, 0) v h]
  exact setRow_heap w g cs _ t _ h
/-- A local value of block g, stored anew. -/
abbrev storedV (w1 : World) (g : Nat) (kind : Int) (text : ByteArray) (count : Int) (ps is ss : Value) : World :=
  (((((w1.setCell ⟨g, 0, none⟩ (.int .i64 kind)).setCell ⟨g, 1, none⟩ (.string text)).setCell ⟨g, 2, none⟩ (.int .i64 count)).setCell ⟨g, 3, none⟩ ps).setCell ⟨g, 4, none⟩ is).setCell ⟨g, 5, none⟩ ss
theorem storedV_block {w1 : World} {g : Nat} {kind kind' : Int} {text text' : ByteArray} {count count' : Int} {ps is ss ps' is' ss' : Value} (h : w1.heap[g]? = some (valO kind' text' count' ps' is' ss')) :
    (storedV w1 g kind text count ps is ss).heap[g]? = some (valO kind text count ps is ss) :=
  setCell_sameV (o := 5) ss (setCell_sameV (o := 4) is (setCell_sameV (o := 3) ps (setCell_sameV (o := 2) (.int .i64 count) (setCell_sameV (o := 1) (.string text) (setCell_sameV (o := 0) (.int .i64 kind) h)))))
theorem storedV_below {B : Nat} {w w1 : World} {g : Nat} {kind : Int} {text : ByteArray} {count : Int} {ps is ss : Value} (h : Below B w w1) (hg : B ≤ g) : Below B w (storedV w1 g kind text count ps is ss) :=
  (((((h.setCell hg _).setCell hg _).setCell hg _).setCell hg _).setCell hg _).setCell hg _
theorem storedV_reps {B : Nat} {w1 : World} {g : Nat} {kind : Int} {text : ByteArray} {count : Int} {ps is ss : Value} {v : Value} {x : Val} (h : RepsF B w1 v x) (hg : g < B) : RepsF B (storedV w1 g kind text count ps is ss) v x :=
  (((((h.setCell (p := ⟨g, 0, none⟩) hg _).setCell (p := ⟨g, 1, none⟩) hg _).setCell (p := ⟨g, 2, none⟩) hg _).setCell (p := ⟨g, 3, none⟩) hg _).setCell (p := ⟨g, 4, none⟩) hg _).setCell (p := ⟨g, 5, none⟩) hg _

theorem keepV {w : World} {g k : Nat} {kind : Int} {text : ByteArray} {count : Int} {ps is ss : Value} (h : k ≠ g) : (storedV w g kind text count ps is ss).heap[k]? = w.heap[k]? := by
  unfold storedV
  iterate 6 rw [Below.heap_setCell _ _ _ _ h]
/-- A local reply of block g, stored anew. -/
abbrev storedR (w1 : World) (g : Nat) (code : Int) (text : ByteArray) (n : Int) (ls : Value) : World :=
  (((w1.setCell ⟨g, 0, none⟩ (.int .i64 code)).setCell ⟨g, 1, none⟩ (.string text)).setCell ⟨g, 2, none⟩ (.int .i64 n)).setCell ⟨g, 3, none⟩ ls
theorem keepR {w : World} {g k : Nat} {code : Int} {text : ByteArray} {n : Int} {ls : Value} (h : k ≠ g) : (storedR w g code text n ls).heap[k]? = w.heap[k]? := by
  unfold storedR
  iterate 4 rw [Below.heap_setCell _ _ _ _ h]
theorem sizeV (w : World) (g : Nat) (kind : Int) (text : ByteArray) (count : Int) (ps is ss : Value) : (storedV w g kind text count ps is ss).heap.size = w.heap.size := by simp [storedV, World.setCell]
theorem sizeR (w : World) (g : Nat) (code : Int) (text : ByteArray) (n : Int) (ls : Value) : (storedR w g code text n ls).heap.size = w.heap.size := by simp [storedR, World.setCell]
theorem RowAt.same {α : Type} {k B : Nat} {enc : α → List Value} {w w' : World} {s : Value} {l : List α} (h : RowAt k enc w s l) (hf : From B s) (hs : ∀ b, B ≤ b → b < w.heap.size → w'.heap[b]? = w.heap[b]?) (hz : w.heap.size ≤ w'.heap.size) : RowAt k enc w' s l := by
  obtain ⟨hl, a, cap, rfl, h1, h2, h3⟩ := h
  refine ⟨hl, a, cap, rfl, h1, h2, ?_⟩
  rcases h3 with h3 | ⟨b, off, rfl, hbk, hc⟩
  · exact .inl h3
  · exact .inr ⟨b, off, rfl, by omega, fun i hi c hk => (World.cell?_of_block (a := ⟨b, off + i * k + c, none⟩) (hs b (hf _ _ _ rfl) hbk)).trans (hc i hi c hk)⟩
theorem RepsF.same {B : Nat} {w w' : World} {v : Value} {x : Val} (h : RepsF B w v x) (hs : ∀ b, B ≤ b → b < w.heap.size → w'.heap[b]? = w.heap[b]?) (hz : w.heap.size ≤ w'.heap.size) : RepsF B w' v x := by
  obtain ⟨ps, is, ss, h1, h2, h3, h4, h5⟩ := h
  exact ⟨ps, is, ss, h1, ⟨h2.p.same h3 hs hz, h2.i.same h4 hs hz, h2.s.same h5 hs hz⟩, h3, h4, h5⟩
theorem alloc_here (w : World) (o : Obj) : (w.alloc o).heap[w.heap.size]? = some o := by show ((_ : Array Obj).push _)[_]? = _; simp
theorem size_a0 (w : World) (o : Obj) : w.heap.size ≤ (w.alloc o).heap.size := by simp
/-- What two local boxes, laid and stored, leave. -/
structure Aft (w3 Z : World) (g g' : Nat) (o : Obj) : Prop where
  at' : Z.heap[g]? = some o
  kept : ∀ k, k < w3.heap.size → k ≠ g → k ≠ g' → Z.heap[k]? = w3.heap[k]?
  size : w3.heap.size ≤ Z.heap.size
  below : ∀ B w, Below B w w3 → B ≤ g → B ≤ g' → B ≤ w3.heap.size → Below B w Z
theorem aft1 (w3 : World) (o o' : Obj) : Aft w3 ((w3.alloc o).alloc o') w3.heap.size (w3.heap.size + 1) o :=
  ⟨(two_new w3 o o').1, fun k hk _ _ => by rw [Below.heap_alloc _ _ _ (by simp; omega), Below.heap_alloc _ _ _ hk], by simp; omega, fun B w h h1 h2 h3 => (h.alloc h3 _).alloc (by simp; omega) _⟩
theorem aft2 (w3 : World) (o o' : Obj) : Aft w3 ((w3.alloc o').alloc o) (w3.heap.size + 1) w3.heap.size o :=
  ⟨(two_new w3 o' o).2, fun k hk _ _ => by rw [Below.heap_alloc _ _ _ (by simp; omega), Below.heap_alloc _ _ _ hk], by simp; omega, fun B w h h1 h2 h3 => (h.alloc h3 _).alloc (by simp; omega) _⟩
theorem aft3 {w3 : World} {g : Nat} {kind count : Int} {text : ByteArray} {ps is ss : Value} (o' : Obj) (h : w3.heap[g]? = some (valO 0 ⟨#[]⟩ 0 (.slice none 0 0) (.slice none 0 0) (.slice none 0 0))) : Aft w3 ((storedV w3 g kind text count ps is ss).alloc o') g w3.heap.size (valO kind text count ps is ss) := by
  have hl := (Array.getElem?_eq_some_iff.1 h).1
  have hz := sizeV w3 g kind text count ps is ss
  exact ⟨by rw [Below.heap_alloc _ _ _ (by omega)]; exact storedV_block h, fun k hk h1 _ => by rw [Below.heap_alloc _ _ _ (by omega)]; exact keepV h1, by have := size_a0 (storedV w3 g kind text count ps is ss) o'; omega,
    fun B w h h1 h2 h3 => (storedV_below h h1).alloc (by omega) _⟩
theorem aft4 {w3 : World} {g g' : Nat} {kind count code n : Int} {text text' : ByteArray} {ps is ss ls : Value} (h : w3.heap[g]? = some (valO 0 ⟨#[]⟩ 0 (.slice none 0 0) (.slice none 0 0) (.slice none 0 0))) (hg : g ≠ g') : Aft w3 (storedR (storedV w3 g kind text count ps is ss) g' code text' n ls) g g' (valO kind text count ps is ss) :=
  ⟨(keepR hg).trans (storedV_block h), fun k _ h1 h2 => (keepR h2).trans (keepV h1), Nat.le_of_eq ((sizeR _ _ _ _ _ _).trans (sizeV _ _ _ _ _ _ _ _)).symm,
    fun B w h h1 h2 h3 => ((((storedV_below h h1).setCell h2 _).setCell h2 _).setCell h2 _).setCell h2 _⟩
theorem aft5 {w3 : World} {g' : Nat} {code n : Int} {text' : ByteArray} {ls : Value} (o : Obj) (hl : g' < w3.heap.size) : Aft w3 ((storedR w3 g' code text' n ls).alloc o) w3.heap.size g' o := by
  have hz := sizeR w3 g' code text' n ls
  refine ⟨?_, fun k hk _ h2 => by rw [Below.heap_alloc _ _ _ (by omega)]; exact keepR h2, by have := size_a0 (storedR w3 g' code text' n ls) o; omega, fun B w h h1 h2 h3 => ((((h.setCell h2 _).setCell h2 _).setCell h2 _).setCell h2 _).alloc (Nat.le_trans h3 (Nat.le_of_eq hz.symm)) _⟩
  have := alloc_here (storedR w3 g' code text' n ls) o
  rwa [hz] at this
theorem lt_heap {w : World} {b : Nat} {o : Obj} (h : w.heap[b]? = some o) : b < w.heap.size := (Array.getElem?_eq_some_iff.1 h).1
theorem size_a1 (w : World) (o : Obj) : w.heap.size < (w.alloc o).heap.size := by simp
theorem boxD1 {W w2 : World} {o : Obj} (hb : Below (W.alloc o).drew.heap.size (W.alloc o).drew w2) : w2.heap[W.heap.size]? = some o :=
  (hb.block W.heap.size (by simp [World.drew])).trans (show (W.alloc o).drew.heap[W.heap.size]? = some o by show ((_ : Array Obj).push _)[_]? = _; simp)
theorem boxD2 {W w2 : World} {o o' : Obj} (hb : Below ((W.alloc o).alloc o').drew.heap.size ((W.alloc o).alloc o').drew w2) : w2.heap[W.heap.size]? = some o ∧ w2.heap[W.heap.size + 1]? = some o' :=
  ⟨(hb.block W.heap.size (by simp [World.drew]; omega)).trans (two_new W _ _).1, (hb.block (W.heap.size + 1) (by simp [World.drew])).trans (two_new W _ _).2⟩
theorem sizeD1 {W w2 : World} {o : Obj} (hb : Below (W.alloc o).drew.heap.size (W.alloc o).drew w2) : W.heap.size < w2.heap.size := by
  have := hb.size
  simp [World.drew] at this
  omega
theorem sizeD2 {W w2 : World} {o o' : Obj} (hb : Below ((W.alloc o).alloc o').drew.heap.size ((W.alloc o).alloc o').drew w2) : W.heap.size + 1 < w2.heap.size := by
  have := hb.size
  simp [World.drew] at this
  omega
theorem boxA1 {W w2 : World} {o : Obj} (hb : Below (W.alloc o).heap.size (W.alloc o) w2) : w2.heap[W.heap.size]? = some o :=
  (hb.block W.heap.size (by simp)).trans (show (W.alloc o).heap[W.heap.size]? = some o by show ((_ : Array Obj).push _)[_]? = _; simp)
theorem boxA2 {W w2 : World} {o o' : Obj} (hb : Below ((W.alloc o).alloc o').heap.size ((W.alloc o).alloc o') w2) : w2.heap[W.heap.size]? = some o ∧ w2.heap[W.heap.size + 1]? = some o' :=
  ⟨(hb.block W.heap.size (by simp; omega)).trans (two_new W _ _).1, (hb.block (W.heap.size + 1) (by simp)).trans (two_new W _ _).2⟩
theorem sizeA1 {W w2 : World} {o : Obj} (hb : Below (W.alloc o).heap.size (W.alloc o) w2) : W.heap.size < w2.heap.size := by
  have := hb.size
  simp at this
  omega
theorem sizeA2 {W w2 : World} {o o' : Obj} (hb : Below ((W.alloc o).alloc o').heap.size ((W.alloc o).alloc o') w2) : W.heap.size + 1 < w2.heap.size := by
  have := hb.size
  simp at this
  omega

end Go.Proofs.YtfnephnecighaaaGreat
