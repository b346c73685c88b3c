/- What a region leaves that stores a value and a reply into boxes; a deed beside such boxes. -/
import Derived.Test.YtfnephnecighaaaGreatLn
import Derived.Test.YtfnephnecighaaaGreatFv0
namespace Go.Proofs.YtfnephnecighaaaGreat
open Go.RowKit
set_option linter.unusedVariables false
set_option maxRecDepth 100000

structure Left (w3 Z : World) (g g' : Nat) (o o' : Obj) : Prop where
  at1 : Z.heap[g]? = some o
  at2 : Z.heap[g']? = some o'
  kept : ∀ k, k < w3.heap.size → k ≠ g → k ≠ g' → Z.heap[k]? = w3.heap[k]?
  size : w3.heap.size ≤ Z.heap.size
  below : ∀ B w, Below B w w3 → B ≤ g → B ≤ g' → B ≤ w3.heap.size → Below B w Z
theorem storedR_block {w1 : World} {g : Nat} {code code' n n' : Int} {text text' : ByteArray} {ls ls' : Value} (h : w1.heap[g]? = some (repO code' text' n' ls')) : (storedR w1 g code text n ls).heap[g]? = some (repO code text n ls) :=
  setCell_sameV (o := 3) ls (setCell_sameV (o := 2) (.int .i64 n) (setCell_sameV (o := 1) (.string text) (setCell_sameV (o := 0) (.int .i64 code) h)))
theorem left_old {w3 : World} {g g' : Nat} {kind kind' count count' code code' n n' : Int} {text text' t t' : ByteArray} {ps is ss ps' is' ss' ls ls' : Value} (h : w3.heap[g]? = some (valO kind' text' count' ps' is' ss')) (h' : w3.heap[g']? = some (repO code' t' n' ls')) (hg : g ≠ g') :
    Left w3 (storedR (storedV w3 g kind text count ps is ss) g' code t n ls) g g' (valO kind text count ps is ss) (repO code t n ls) :=
  ⟨(keepR hg).trans (storedV_block h), storedR_block ((keepV (fun e => hg e.symm)).trans h'), fun k _ h1 h2 => (keepR h2).trans (keepV h1), Nat.le_of_eq ((sizeR _ _ _ _ _ _).trans (sizeV _ _ _ _ _ _ _ _)).symm,
    fun B w h h1 h2 h3 => ((((storedV_below h h1).setCell h2 _).setCell h2 _).setCell h2 _).setCell h2 _⟩
theorem left_new {w3 : World} {g : Nat} {kind kind' count count' code code' n n' : Int} {text text' t t' : ByteArray} {ps is ss ps' is' ss' ls ls' : Value} (h : w3.heap[g]? = some (valO kind' text' count' ps' is' ss')) :
    Left w3 (storedR (storedV (w3.alloc (repO code' t' n' ls')) g kind text count ps is ss) w3.heap.size code t n ls) g w3.heap.size (valO kind text count ps is ss) (repO code t n ls) := by
  have hl := lt_heap h
  have h0 := left_old (kind := kind) (text := text) (count := count) (ps := ps) (is := is) (ss := ss) (code := code) (t := t) (n := n) (ls := ls) ((Below.heap_alloc w3 (repO code' t' n' ls') g hl).trans h) (alloc_here w3 (repO code' t' n' ls')) (by omega)
  exact ⟨h0.at1, h0.at2, fun k hk h1 h2 => (h0.kept k (by simp; omega) h1 h2).trans (Below.heap_alloc _ _ _ hk), Nat.le_trans (Nat.le_of_lt (size_a1 _ _)) h0.size, fun B w hb h1 h2 h3 => h0.below B w (hb.alloc h3 _) h1 h2 (by simp; omega)⟩

theorem left_alloc {w3 : World} {g : Nat} {kind kind' count count' code n : Int} {text text' t : ByteArray} {ps is ss ps' is' ss' ls : Value} (h : w3.heap[g]? = some (valO kind' text' count' ps' is' ss')) :
    Left w3 ((storedV w3 g kind text count ps is ss).alloc (repO code t n ls)) g w3.heap.size (valO kind text count ps is ss) (repO code t n ls) := by
  have hl := lt_heap h
  have hz := sizeV w3 g kind text count ps is ss
  refine ⟨by rw [Below.heap_alloc _ _ _ (by omega)]; exact storedV_block h, ?_, fun k hk h1 _ => by rw [Below.heap_alloc _ _ _ (by omega)]; exact keepV h1, by have := size_a0 (storedV w3 g kind text count ps is ss) (repO code t n ls); omega, fun B w h h1 h2 h3 => (storedV_below h h1).alloc (by omega) _⟩
  have := alloc_here (storedV w3 g kind text count ps is ss) (repO code t n ls)
  rwa [hz] at this
/-- A deed beside two boxes that are stored into. -/
theorem Deed.boxes {w w3 Z : World} {now at' : Int} {c : Cmd} {found : Bool} {F : List Ent} {D : Nat} {es : Value} {g g' : Nat} {o o' : Obj} {cs : Array Value} (h : Deed w now c at' found F D es w3) (hL : Left w3 Z g g' o o') (hg : w3.heap[g]? = some (.cells cs 26 (0, 0))) (hg' : w3.heap.size ≤ g' ∨ ∃ cs', w3.heap[g']? = some (.cells cs' 32 (0, 0)))
    (hw : w.heap.size ≤ g) (hw' : w.heap.size ≤ g') : Deed w now c at' found F D es Z := by
  have hsame : ∀ {t : TypeId} {kk n : Nat} {v : Value} {xs : List Value}, w3.ownsRow w.heap.size t kk v n xs → t ≠ 26 → t ≠ 32 → Z.ownsRow w.heap.size t kk v n xs := fun hr h1 h2 => own_same hr fun b hb => by
    refine hL.kept b (World.ownsRow.lt hr b hb).2 (fun e => own_ne hr hg (fun e => h1 e.symm) (by rw [← e]; exact hb)) (fun e => ?_)
    rcases hg' with hg' | ⟨cs', hg'⟩
    · have := (World.ownsRow.lt hr b hb).2; omega
    · exact own_ne hr hg' (fun e => h2 e.symm) (by rw [← e]; exact hb)
  have hD : Z.heap[D]? = w3.heap[D]? := by
    refine hL.kept D (lt_at h.deed) (fun e => ?_) (fun e => ?_)
    · subst e; have := hg.symm.trans h.deed; simp at this
    · subst e
      rcases hg' with hg' | ⟨cs', hg'⟩
      · have := lt_at h.deed; omega
      · have := hg'.symm.trans h.deed; simp at this
  exact ⟨h.bD, hD.trans h.deed, hsame h.own (by decide) (by decide), fun e he => ⟨hsame (h.lists e he).p (by decide) (by decide), hsame (h.lists e he).i (by decide) (by decide), hsame (h.lists e he).s (by decide) (by decide)⟩, hL.below _ _ h.below hw hw' h.below.size⟩

theorem parts_uniq {α : Type} {cm : α → Int} {l : List α} {p q : Nat} (h : Parts cm l p) (h' : Parts cm l q) : p = q := by
  obtain ⟨h1, h2⟩ := h
  obtain ⟨h3, h4⟩ := h'
  rcases Nat.lt_trichotomy p q with h | h | h
  · have a := (h4 p (by omega)).2 h; have := (h2 p (by omega)).1 a; omega
  · exact h
  · have a := (h2 q (by omega)).2 h; have := (h4 q (by omega)).1 a; omega
/-- What was found of a key, among the entries in memory and among the plain ones. -/
theorem found_kv {F : List Ent} {key : ByteArray} {p : Nat} (hr : Rise (F.map (·.kv))) (hp : Parts (fun e : Ent => cmpS e.kv.key key) F p) : atK key (F.map (·.kv)) = p ∧ hasK key (F.map (·.kv)) = hitB (fun e : Ent => cmpS e.kv.key key) F p ∧ (∀ h : p < F.length, hitB (fun e : Ent => cmpS e.kv.key key) F p = true → getK key (F.map (·.kv)) = F[p].kv ∧ F[p].kv.key = key) ∧ (hitB (fun e : Ent => cmpS e.kv.key key) F p = true → p < F.length) := by
  have hp' : Parts (kCm key) (F.map (·.kv)) p := ⟨by simpa using hp.1, fun a h => by
    have := hp.2 a (by simpa using h)
    simpa [kCm] using this⟩
  have e1 := parts_uniq (kparts hr key) hp'
  have e2 : hasK key (F.map (·.kv)) = hitB (fun e : Ent => cmpS e.kv.key key) F p := by
    unfold hasK
    rw [e1]
    unfold hitB
    rw [List.getElem?_map]
    cases F[p]? <;> rfl
  refine ⟨e1, e2, fun h hh => ?_, fun hh => (hit_some hh).1⟩
  have h3 := has_get (e2.trans hh)
  obtain ⟨hp2, h4, h5⟩ := h3
  have h6 : ∀ q (hq : q < (F.map (·.kv)).length), q = p → (F.map (·.kv))[q] = F[p].kv := by rintro q hq rfl; simp
  rw [h6 _ hp2 e1] at h4 h5
  exact ⟨h5, h4⟩
theorem map_cut (F : List Ent) (p : Nat) : (cutAt F p).map (·.kv) = cutAt (F.map (·.kv)) p := by simp [cutAt, List.map_take, List.map_drop]
theorem map_lay (F : List Ent) (p : Nat) (e : Ent) : (layAt F p e).map (·.kv) = layAt (F.map (·.kv)) p e.kv := by simp [layAt, List.map_take, List.map_drop]
theorem map_setE (F : List Ent) (p : Nat) (e : Ent) : (F.set p e).map (·.kv) = (F.map (·.kv)).set p e.kv := by rw [List.map_set]
end Go.Proofs.YtfnephnecighaaaGreat
