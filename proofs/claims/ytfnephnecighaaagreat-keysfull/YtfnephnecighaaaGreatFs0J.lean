/- A store's copy: what a round of fresh.Store leaves. -/
import Derived.Test.YtfnephnecighaaaGreatBsJ
import Derived.Test.YtfnephnecighaaaGreatSl8
import Derived.Test.YtfnephnecighaaaGreatVcp
import Derived.Test.YtfnephnecighaaaGreatVhJ
import Derived.Test.YtfnephnecighaaaGreatPaJ
import Derived.Deep.RegionHeld3
namespace Go.Proofs.YtfnephnecighaaaGreat
open Go.RowKit
set_option linter.unusedVariables false
set_option maxRecDepth 100000

/-- Six cells stored one behind the other. -/
def sixC (w : World) (g o : Nat) (v1 v2 v3 v4 v5 v6 : Value) : World := (((((w.setCell ⟨g, o + 1, none⟩ v1).setCell ⟨g, o + 2, none⟩ v2).setCell ⟨g, o + 3, none⟩ v3).setCell ⟨g, o + 4, none⟩ v4).setCell ⟨g, o + 5, none⟩ v5).setCell ⟨g, o + 6, none⟩ v6
theorem six_block {w : World} {g : Nat} {L : List Value} {e : TypeId} (h : w.heap[g]? = some (.cells L.toArray e (0, 0))) (o : Nat) (v1 v2 v3 v4 v5 v6 : Value) :
    (sixC w g o v1 v2 v3 v4 v5 v6).heap[g]? = some (.cells ((((((L.set (o + 1) v1).set (o + 2) v2).set (o + 3) v3).set (o + 4) v4).set (o + 5) v5).set (o + 6) v6).toArray e (0, 0)) := by
  unfold sixC
  rw [Go.heap_setCell_same _ g (o + 6) _ e v6 (Go.heap_setCell_same _ g (o + 5) _ e v5 (Go.heap_setCell_same _ g (o + 4) _ e v4 (Go.heap_setCell_same _ g (o + 3) _ e v3 (Go.heap_setCell_same _ g (o + 2) _ e v2 (Go.heap_setCell_same _ g (o + 1) _ e v1 h)))))]
  simp
theorem six_other {w : World} {g o k : Nat} {v1 v2 v3 v4 v5 v6 : Value} (hk : k ≠ g) : (sixC w g o v1 v2 v3 v4 v5 v6).heap[k]? = w.heap[k]? := by
  unfold sixC
  exact (Below.heap_setCell _ _ _ _ hk).trans ((Below.heap_setCell _ _ _ _ hk).trans ((Below.heap_setCell _ _ _ _ hk).trans ((Below.heap_setCell _ _ _ _ hk).trans ((Below.heap_setCell _ _ _ _ hk).trans (Below.heap_setCell _ _ _ _ hk)))))
theorem six_size {w : World} {g o : Nat} {v1 v2 v3 v4 v5 v6 : Value} : (sixC w g o v1 v2 v3 v4 v5 v6).heap.size = w.heap.size := by simp [sixC, World.setCell]
theorem six_below {B : Nat} {w w1 : World} {g o : Nat} {v1 v2 v3 v4 v5 v6 : Value} (h : Below B w w1) (hg : B ≤ g) : Below B w (sixC w1 g o v1 v2 v3 v4 v5 v6) := by
  unfold sixC
  exact (((((h.setCell hg _).setCell hg _).setCell hg _).setCell hg _).setCell hg _).setCell hg _
/-- An entry's value is put in its place in a row. -/
theorem flat_val (e : Ent) : ∀ (l : List Ent) (i : Nat) (S : List Value) (h : i < l.length), e.kv.key = l[i].kv.key → e.kv.til = l[i].kv.til →
    ((((((((l.flatMap encE) ++ S).set (i * 8 + 1) (.int .i64 e.kv.x.kind)).set (i * 8 + 2) (.string e.kv.x.text)).set (i * 8 + 3) (.int .i64 e.kv.x.count)).set (i * 8 + 4) e.ps).set (i * 8 + 5) e.is).set (i * 8 + 6) e.ss) = (l.set i e).flatMap encE ++ S
  | [], i, S, h, _, _ => by simp at h
  | x :: r, 0, S, h, h1, h2 => by
    simp only [List.getElem_cons_zero] at h1 h2
    simp [encE, h1, h2]
  | x :: r, i + 1, S, h, h1, h2 => by
    have ih := flat_val e r i S (by simpa using h) (by simpa using h1) (by simpa using h2)
    have hx : encE x = [.string x.kv.key, .int .i64 x.kv.x.kind, .string x.kv.x.text, .int .i64 x.kv.x.count, x.ps, x.is, x.ss, .int .i64 x.kv.til] := rfl
    rw [List.flatMap_cons, List.set_cons_succ, List.flatMap_cons, List.append_assoc, List.append_assoc, ← ih, hx]
    have k : ∀ c, (i + 1) * 8 + c = (i * 8 + c) + 8 := fun c => by omega
    simp only [k]
    simp only [List.cons_append, List.nil_append, List.set_cons_succ]
end Go.Proofs.YtfnephnecighaaaGreat

/- slices.DeleteFunc over a row of entries: the cells, plain lists. -/
namespace Go.Proofs.YtfnephnecighaaaGreat
open Go.RowKit
set_option linter.unusedVariables false
set_option maxRecDepth 100000

def eightC (w : World) (g o : Nat) (v0 v1 v2 v3 v4 v5 v6 v7 : Value) : World := (((((((w.setCell ⟨g, o, none⟩ v0).setCell ⟨g, o + 1, none⟩ v1).setCell ⟨g, o + 2, none⟩ v2).setCell ⟨g, o + 3, none⟩ v3).setCell ⟨g, o + 4, none⟩ v4).setCell ⟨g, o + 5, none⟩ v5).setCell ⟨g, o + 6, none⟩ v6).setCell ⟨g, o + 7, none⟩ v7
theorem eightC_block {w : World} {g : Nat} {L : List Value} {e : TypeId} (h : w.heap[g]? = some (.cells L.toArray e (0, 0))) (o : Nat) (v0 v1 v2 v3 v4 v5 v6 v7 : Value) :
    (eightC w g o v0 v1 v2 v3 v4 v5 v6 v7).heap[g]? = some (.cells ((((((((L.set o v0).set (o + 1) v1).set (o + 2) v2).set (o + 3) v3).set (o + 4) v4).set (o + 5) v5).set (o + 6) v6).set (o + 7) v7).toArray e (0, 0)) := by
  unfold eightC
  rw [Go.heap_setCell_same _ g (o + 7) _ e v7 (Go.heap_setCell_same _ g (o + 6) _ e v6 (Go.heap_setCell_same _ g (o + 5) _ e v5 (Go.heap_setCell_same _ g (o + 4) _ e v4 (Go.heap_setCell_same _ g (o + 3) _ e v3 (Go.heap_setCell_same _ g (o + 2) _ e v2 (Go.heap_setCell_same _ g (o + 1) _ e v1 (Go.heap_setCell_same _ g o _ e v0 h)))))))]
  simp
theorem eightC_other {w : World} {g o k : Nat} {v0 v1 v2 v3 v4 v5 v6 v7 : Value} (hk : k ≠ g) : (eightC w g o v0 v1 v2 v3 v4 v5 v6 v7).heap[k]? = w.heap[k]? := by
  unfold eightC
  exact (Below.heap_setCell _ _ _ _ hk).trans ((Below.heap_setCell _ _ _ _ hk).trans ((Below.heap_setCell _ _ _ _ hk).trans ((Below.heap_setCell _ _ _ _ hk).trans ((Below.heap_setCell _ _ _ _ hk).trans ((Below.heap_setCell _ _ _ _ hk).trans ((Below.heap_setCell _ _ _ _ hk).trans (Below.heap_setCell _ _ _ _ hk)))))))
theorem eightC_size {w : World} {g o : Nat} {v0 v1 v2 v3 v4 v5 v6 v7 : Value} : (eightC w g o v0 v1 v2 v3 v4 v5 v6 v7).heap.size = w.heap.size := by simp [eightC, World.setCell]
theorem eightC_below {B : Nat} {w w1 : World} {g o : Nat} {v0 v1 v2 v3 v4 v5 v6 v7 : Value} (h : Below B w w1) (hg : B ≤ g) : Below B w (eightC w1 g o v0 v1 v2 v3 v4 v5 v6 v7) := by
  unfold eightC
  exact (((((((h.setCell hg _).setCell hg _).setCell hg _).setCell hg _).setCell hg _).setCell hg _).setCell hg _).setCell hg _
theorem flat_ent (e : Ent) : ∀ (l : List Ent) (i : Nat) (S : List Value) (h : i < l.length),
    ((((((((((l.flatMap encE) ++ S).set (i * 8) (.string e.kv.key)).set (i * 8 + 1) (.int .i64 e.kv.x.kind)).set (i * 8 + 2) (.string e.kv.x.text)).set (i * 8 + 3) (.int .i64 e.kv.x.count)).set (i * 8 + 4) e.ps).set (i * 8 + 5) e.is).set (i * 8 + 6) e.ss).set (i * 8 + 7) (.int .i64 e.kv.til)) = (l.set i e).flatMap encE ++ S
  | [], i, S, h => by simp at h
  | x :: r, 0, S, h => by simp [encE]
  | x :: r, i + 1, S, h => by
    have ih := flat_ent e r i S (by simpa using h)
    have hx : encE x = [.string x.kv.key, .int .i64 x.kv.x.kind, .string x.kv.x.text, .int .i64 x.kv.x.count, x.ps, x.is, x.ss, .int .i64 x.kv.til] := rfl
    rw [List.flatMap_cons, List.set_cons_succ, List.flatMap_cons, List.append_assoc, List.append_assoc, ← ih, hx]
    have k : ∀ c, (i + 1) * 8 + c = (i * 8 + c) + 8 := fun c => by omega
    have k0 : (i + 1) * 8 = i * 8 + 8 := by omega
    rw [k0]
    have k1 : ∀ c, i * 8 + 8 + c = (i * 8 + c) + 8 := fun c => by omega
    simp only [k1]
    simp only [List.cons_append, List.nil_append, List.set_cons_succ]

/-- Nothing but one row has turned, and what is new. -/
structure Apart (B g : Nat) (w W : World) : Prop where
  below : Below B w W
  size : w.heap.size ≤ W.heap.size
  other : ∀ b, b < w.heap.size → b ≠ g → W.heap[b]? = w.heap[b]?
theorem Apart.refl (B g : Nat) (w : World) : Apart B g w w := ⟨Below.refl _ _, Nat.le_refl _, fun _ _ _ => rfl⟩
theorem Apart.step {B g : Nat} {w W W' : World} (h : Apart B g w W) (hB : B ≤ W.heap.size) (hb : Below W.heap.size W W') : Apart B g w W' :=
  ⟨h.below.trans (hb.mono hB), Nat.le_trans h.size hb.size, fun b hl hne => (hb.block b (Nat.lt_of_lt_of_le hl h.size)).trans (h.other b hl hne)⟩
theorem Apart.eight {B g o : Nat} {w W : World} {v0 v1 v2 v3 v4 v5 v6 v7 : Value} (h : Apart B g w W) (hg : B ≤ g) : Apart B g w (eightC W g o v0 v1 v2 v3 v4 v5 v6 v7) :=
  ⟨eightC_below h.below hg, by rw [eightC_size]; exact h.size, fun b hl hne => (eightC_other hne).trans (h.other b hl hne)⟩

theorem zero_ones : ∀ n, ∀ v ∈ (Builtin.zeroCells (zeroE).cells n).toList, v.oneCell' = true := by
  intro n v hv
  have h8 : ∀ k, k < 8 → ((zeroE).cells[k]!).oneCell' = true := by
    have : (List.range 8).all (fun k => ((zeroE).cells[k]!).oneCell') = true := by kernel_rfl
    intro k hk
    exact List.all_eq_true.1 this k (List.mem_range.2 hk)
  unfold Builtin.zeroCells at hv
  simp only [Array.toList_map, List.mem_map] at hv
  obtain ⟨i, -, rfl⟩ := hv
  exact h8 _ (Nat.mod_lt _ (by decide))
theorem zero_len (n : Nat) : (Builtin.zeroCells (zeroE).cells n).toList.length = n * 8 := by
  unfold Builtin.zeroCells
  simp [show (zeroE).cells.size = 8 from rfl]

theorem take_set_self {α : Type} (l : List α) (i : Nat) (a : α) : (l.set i a).take i = l.take i := by
  rw [List.take_set, List.set_eq_of_length_le (List.length_take_le _ _)]
theorem laid_len (L : List Value) (o : Nat) (Z : List Value) (h : o + Z.length ≤ L.length) : (laid L o Z).length = L.length := by
  unfold laid; simp; omega
/-- The elements that stay. -/
theorem filter_snoc {α : Type} (p : α → Bool) (l : List α) (j : Nat) (h : j < l.length) : (l.take (j + 1)).filter p = (l.take j).filter p ++ (if p l[j] = true then [l[j]] else []) := by
  rw [List.take_succ_eq_append_getElem h, List.filter_append]
  congr 1
  by_cases hp : p l[j] = true
  · simp [hp]
  · simp [hp]
end Go.Proofs.YtfnephnecighaaaGreat

/- A store that shares no list with another one: fresh.Store. -/
namespace Go.Proofs.YtfnephnecighaaaGreat
open Go.RowKit
set_option linter.unusedVariables false
set_option maxRecDepth 100000

theorem six_own {w : World} {B kk n g o : Nat} {t : TypeId} {v : Value} {xs : List Value} {v1 v2 v3 v4 v5 v6 : Value} (h : w.ownsRow B t kk v n xs) (hne : v.ownBlock ≠ some g) : (sixC w g o v1 v2 v3 v4 v5 v6).ownsRow B t kk v n xs := by
  unfold sixC
  exact own_set (own_set (own_set (own_set (own_set (own_set h hne _) hne _) hne _) hne _) hne _) hne _

/-- A store's copy, as far as its values are copied. -/
structure FS (w : World) (now : Int) (E A : List Ent) (ra : Option Addr) (rc m : Nat) (wr : World) : Prop where
  len : A.length = E.length
  size : w.heap.size + 2 ≤ wr.heap.size
  below : Below w.heap.size w wr
  n0 : wr.heap[w.heap.size]? = some (stoO now (.slice ra E.length rc))
  n1 : wr.heap[w.heap.size + 1]? = some (stoO 0 (.slice none 0 0))
  own : wr.ownsRow (w.heap.size + 2) 57 8 (.slice ra E.length rc) A.length (A.flatMap encE)
  kvs : A.map (·.kv) = E.map (·.kv)
  done : ∀ j (h : j < A.length), j < m → OwnVL (w.heap.size + 2) wr A[j].ps A[j].is A[j].ss A[j].kv.x
  todo : ∀ j (h : j < A.length) (h' : j < E.length), m ≤ j → A[j] = E[j]
theorem FS.mid {w wr w2 : World} {now : Int} {E A : List Ent} {ra : Option Addr} {rc m : Nat} (h : FS w now E A ra rc m wr) (hb : Below wr.heap.size wr w2) : FS w now E A ra rc m w2 where
  len := h.len
  size := Nat.le_trans h.size hb.size
  below := bstep h.below hb
  n0 := (hb.block _ (lt_at h.n0)).trans h.n0
  n1 := (hb.block _ (lt_at h.n1)).trans h.n1
  own := ownsRow_kept h.own hb
  kvs := h.kvs
  done := fun j hj hm => (h.done j hj hm).kept hb
  todo := h.todo
theorem FS.kv {w wr : World} {now : Int} {E A : List Ent} {ra : Option Addr} {rc m : Nat} (h : FS w now E A ra rc m wr) (j : Nat) (hj : j < A.length) (hj' : j < E.length) : A[j].kv = E[j].kv := by
  have := congrArg (fun l => l[j]?) h.kvs
  simp only [List.getElem?_map, List.getElem?_eq_getElem hj, List.getElem?_eq_getElem hj', Option.map_some, Option.some.injEq] at this
  exact this
theorem FS.next {w w2 : World} {now : Int} {E A : List Ent} {g rc m : Nat} (h : FS w now E A (some ⟨g, 0, none⟩) rc m w2) (hm : m < E.length) (e : Ent) (hkv : e.kv = E[m].kv) (hl : OwnVL (w.heap.size + 2) w2 e.ps e.is e.ss e.kv.x) :
    FS w now E (A.set m e) (some ⟨g, 0, none⟩) rc (m + 1) (sixC w2 g (m * 8) (.int .i64 e.kv.x.kind) (.string e.kv.x.text) (.int .i64 e.kv.x.count) e.ps e.is e.ss) := by
  have hmA : m < A.length := by rw [h.len]; exact hm
  obtain ⟨g', cap, S, hs, hgB, hb, hc1, hc2, hc3⟩ := own_open h.own (by omega)
  simp only [Value.slice.injEq, Option.some.injEq, Addr.mk.injEq] at hs
  obtain ⟨⟨rfl, -⟩, hl1, rfl⟩ := hs
  have hk := h.kv m hmA hm
  have hrow := six_block hb (m * 8) (.int .i64 e.kv.x.kind) (.string e.kv.x.text) (.int .i64 e.kv.x.count) e.ps e.is e.ss
  rw [flat_val e A m S hmA (by rw [hkv, hk]) (by rw [hkv, hk])] at hrow
  have hO : ∀ x : Ent, OwnVL (w.heap.size + 2) w2 x.ps x.is x.ss x.kv.x → OwnVL (w.heap.size + 2) (sixC w2 g (m * 8) (.int .i64 e.kv.x.kind) (.string e.kv.x.text) (.int .i64 e.kv.x.count) e.ps e.is e.ss) x.ps x.is x.ss x.kv.x := fun x hx =>
    ⟨six_own hx.p (own_ne hx.p hb (by decide)), six_own hx.i (own_ne hx.i hb (by decide)), six_own hx.s (own_ne hx.s hb (by decide))⟩
  exact {
    len := by rw [List.length_set, h.len]
    size := by rw [six_size]; exact h.size
    below := six_below h.below (by omega)
    n0 := (six_other (by omega)).trans h.n0
    n1 := (six_other (by omega)).trans h.n1
    own := by
      rw [List.length_set, ← hl1]
      refine own_mk (S := S) (by rw [flat_length lenE, List.length_set]; omega) hgB hrow (by omega) hc2 ?_
      rw [List.length_append, flat_length lenE] at hc3 ⊢
      rw [List.length_set]; exact hc3
    kvs := by
      rw [List.map_set, h.kvs, hkv]
      apply List.ext_getElem?
      intro j
      rw [List.getElem?_set]
      split
      · next he => subst he; simp [hm]
      · rfl
    done := fun j hj hjm => by
      rw [List.getElem_set]
      split
      · exact hO e hl
      · exact hO _ (h.done j (by simpa using hj) (by omega))
    todo := fun j hj hj' hjm => by
      rw [List.getElem_set, if_neg (by omega)]
      exact h.todo j (by simpa using hj) hj' (by omega) }

theorem row_eight {w : World} {g m : Nat} {A : List Ent} {S : List Value} {t : TypeId} {e : Ent} (hb : w.heap[g]? = some (.cells (A.flatMap encE ++ S).toArray t (0, 0))) (hm : m < A.length) (he : A[m] = e) :
    w.cell? ⟨g, m * 8, none⟩ = some (.string e.kv.key) ∧ w.cell? ⟨g, m * 8 + 1, none⟩ = some (.int .i64 e.kv.x.kind) ∧ w.cell? ⟨g, m * 8 + 2, none⟩ = some (.string e.kv.x.text) ∧ w.cell? ⟨g, m * 8 + 3, none⟩ = some (.int .i64 e.kv.x.count) ∧
    w.cell? ⟨g, m * 8 + 4, none⟩ = some e.ps ∧ w.cell? ⟨g, m * 8 + 5, none⟩ = some e.is ∧ w.cell? ⟨g, m * 8 + 6, none⟩ = some e.ss ∧ w.cell? ⟨g, m * 8 + 7, none⟩ = some (.int .i64 e.kv.til) ∧ (∀ o, w.frozen? ⟨g, o, none⟩ = false) := by
  have hcw : ∀ c, c < 8 → w.cell? ⟨g, m * 8 + c, none⟩ = (encE e)[c]? := by
    intro c hc
    rw [(cellsB hb).1 (m * 8 + c), List.getElem?_toArray, List.getElem?_append_left (by rw [flat_length lenE]; omega), flat_get 8 encE lenE A m hm c hc, he]
  exact ⟨hcw 0 (by omega), hcw 1 (by omega), hcw 2 (by omega), hcw 3 (by omega), hcw 4 (by omega), hcw 5 (by omega), hcw 6 (by omega), hcw 7 (by omega), (cellsB hb).2⟩

theorem two_newF (w : World) (o0 o1 : Obj) : ((w.alloc o0).alloc o1).heap[w.heap.size]? = some o0 ∧ ((w.alloc o0).alloc o1).heap[w.heap.size + 1]? = some o1 ∧ Below w.heap.size w ((w.alloc o0).alloc o1) ∧ ((w.alloc o0).alloc o1).heap.size = w.heap.size + 2 := by
  refine ⟨?_, ?_, (balloc _ _).alloc (by simp) _, by simp⟩
  · rw [Below.heap_alloc _ _ _ (by simp)]
    show ((_ : Array Obj).push _)[_]? = _
    simp
  · show ((_ : Array Obj).push _)[_]? = _
    rw [Array.getElem?_push, if_pos (by simp)]

set_option maxHeartbeats 8000000 in
theorem freshStore_core (now : Int) (ea : Option Addr) (ec : Nat) (E : List Ent) (w : World) (hrow : RowAt 8 encE w (.slice ea E.length ec) E) (hls : ∀ e ∈ E, Lists w e.ps e.is e.ss e.kv.x) (hsz : ∀ e ∈ E, e.kv.x.size ≤ 1048576) (hn : E.length ≤ 1048576) :
    Calls Tryz.prog 74 #[stoV now (.slice ea E.length ec)] w fun e w' => ∃ (sv : Value) (A : List Ent), e = .returned (stoV now sv) ∧ w'.ownsRow w.heap.size 57 8 sv A.length (A.flatMap encE) ∧ A.map (·.kv) = E.map (·.kv) ∧ (∀ e ∈ A, OwnVL w.heap.size w' e.ps e.is e.ss e.kv.x) ∧ Below w.heap.size w w' := by
  have HLS : Hid (∀ e ∈ E, Lists w e.ps e.is e.ss e.kv.x) := hls
  have HSZ : Hid (∀ e ∈ E, e.kv.x.size ≤ 1048576) := hsz
  have HL : Hid (∀ W, Below w.heap.size w W → Calls Tryz.prog 101 #[.slice ea E.length ec] W fun e w' => ∃ r, e = .returned r ∧ OwnL W.heap.size 57 8 encE w' r E ∧ Below W.heap.size W w') := fun W hW => listE_any _ E W (hrow.below hW) hn
  clear hrow hls hsz
  go_enter Tryz.func74, Tryz.ntmps74
  go_wp2_with fail
  obtain ⟨n0, n1, hB0, hs0⟩ := two_newF w (stoO now (.slice ea E.length ec)) (stoO 0 (.slice none 0 0))
  generalize (w.alloc (stoO now (.slice ea E.length ec))).alloc (stoO 0 (.slice none 0 0)) = V0 at n0 n1 hB0 hs0 ⊢
  refine (HL.out _ hB0).mono ?_
  rintro e w1 ⟨r, rfl, hown, hb1⟩
  obtain ⟨ra, rc, rfl⟩ := ownsRow_shape hown.1
  have m0 := (hb1.block _ (lt_at n0)).trans n0
  have m1 := (hb1.block _ (lt_at n1)).trans n1
  have hB1 := bstep hB0 hb1
  have hz1 : w.heap.size + 2 ≤ w1.heap.size := by rw [← hs0]; exact hb1.size
  have hst : FS w now E E ra rc 0 (w1.setCell ⟨w.heap.size, 1, none⟩ (.slice ra E.length rc)) := {
    len := rfl
    size := by simpa [World.setCell] using hz1
    below := hB1.setCell (by simp) _
    n0 := setCell_in (.slice ra E.length rc) (o := 1) m0
    n1 := (Below.heap_setCell _ _ _ _ (by simp)).trans m1
    own := ownsRow_setCell_below (ownsRow_base hown.1 (by omega)) (a := ⟨w.heap.size, 1, none⟩) (by show w.heap.size < w.heap.size + 2; omega) _
    kvs := rfl
    done := fun j hj hm => absurd hm (by omega)
    todo := fun j hj hj' hm => rfl }
  have ST : Hid (FS w now E E ra rc 0 (w1.setCell ⟨w.heap.size, 1, none⟩ (.slice ra E.length rc))) := hst
  obtain ⟨c0, f0⟩ := cellsB m0
  have hl0 := lt_at m0
  clear n0 n1 hB0 hs0 hown hb1 m0 m1 hB1 hz1 hst HL
  go_wp2_with fail
  clear c0 f0 hl0
  go_loopw [12] (fun c wr => ∃ (m : Nat) (A : List Ent), c = .int .i64 (m : Int) ∧ FS w now E A ra rc m wr ∧ m ≤ E.length) (fun c _ => E.length - (intOf c).toNat)
  case atStart => exact ⟨0, E, by simp, ST.out, by omega⟩
  case round =>
    clear ST
    obtain ⟨m, A, rfl, hst, hmE⟩ := hrel
    have HST : Hid (FS w now E A ra rc m wr) := hst
    obtain ⟨q0, f0⟩ := cellsB hst.n0
    by_cases hlt : m < E.length
    · have hi0 : (m : Int) < (E.length : Int) := by omega
      have hmA : m < A.length := by rw [hst.len]; exact hlt
      obtain ⟨g, cap, S, hs, hgB, hb, hc1, hc2, hc3⟩ := own_open hst.own (by omega)
      simp only [Value.slice.injEq] at hs
      obtain ⟨rfl, -, rfl⟩ := hs
      have hAm := hst.todo m hmA hlt (Nat.le_refl _)
      have hgl := lt_at hb
      have hlm := (HLS.out E[m] (List.getElem_mem hlt)).below hst.below
      have hsm := HSZ.out E[m] (List.getElem_mem hlt)
      have hkvE : ∃ y : Ent, y = E[m] := ⟨_, rfl⟩
      obtain ⟨⟨⟨key, ⟨kind, text, count, pairs, items, scores⟩, til⟩, pa, pc, ia, ic, sa, sc⟩, hel⟩ := hkvE
      have HKV : Hid (E[m].kv = ⟨key, ⟨kind, text, count, pairs, items, scores⟩, til⟩) := by show E[m].kv = _; rw [← hel]
      rw [← hel] at hlm hsm hAm
      simp only at hlm hsm
      have HE8 : Hid (∀ W : World, W.heap[g]? = some (.cells (A.flatMap encE ++ S).toArray 57 (0, 0)) → _) := fun W h => row_eight (e := ⟨⟨key, ⟨kind, text, count, pairs, items, scores⟩, til⟩, pa, pc, ia, ic, sa, sc⟩) h hmA hAm
      have HB : Hid (wr.heap[g]? = some (.cells (A.flatMap encE ++ S).toArray 57 (0, 0))) := hb
      obtain ⟨c0, c1, c2, c3, c4, c5, c6, c7, fz⟩ := HE8.out wr hb
      simp only at c0 c1 c2 c3 c4 c5 c6 c7
      have hvc := fun W (hW : Below wr.heap.size wr W) => copied_any (valV kind text count (.slice pa pairs.length pc) (.slice ia items.length ic) (.slice sa scores.length sc)) ⟨kind, text, count, pairs, items, scores⟩ W ⟨_, _, _, rfl, hlm.below hW⟩ hsm
      clear hel hlm hsm hAm hb hc3 hst
      have ngb : ¬ g = wr.heap.size := by omega
      have ngw : ¬ g = w.heap.size := by omega
      go_upto_region 5 with fail
      have nx := alloc_at wr (entO key kind text count (.slice pa pairs.length pc) (.slice ia items.length ic) (.slice sa scores.length sc) til)
      have hbl := balloc wr (entO key kind text count (.slice pa pairs.length pc) (.slice ia items.length ic) (.slice sa scores.length sc) til)
      have hV := HST.out.mid hbl
      have hbV := (hbl.block g hgl).trans HB.out
      have HC : Hid (∀ W, Below (wr.alloc (entO key kind text count (.slice pa pairs.length pc) (.slice ia items.length ic) (.slice sa scores.length sc) til)).heap.size (wr.alloc (entO key kind text count (.slice pa pairs.length pc) (.slice ia items.length ic) (.slice sa scores.length sc) til)) W → Calls Tryz.prog 30 #[valV kind text count (.slice pa pairs.length pc) (.slice ia items.length ic) (.slice sa scores.length sc)] W fun e w' => ∃ ps is ss, e = .returned (valV kind text count ps is ss) ∧ OwnLists W.heap.size w' ps is ss ⟨kind, text, count, pairs, items, scores⟩ ∧ Below W.heap.size W w') := fun W hW => hvc W (bstep hbl hW)
      clear c0 c1 c2 c3 c4 c5 c6 c7 fz q0 f0 hvc hbl HB hgl
      generalize wr.alloc (entO key kind text count (.slice pa pairs.length pc) (.slice ia items.length ic) (.slice sa scores.length sc) til) = V at nx hV hbV HC ⊢
      generalize wr.heap.size = b4 at nx ngb ⊢
      obtain ⟨q0, f0⟩ := cellsB hV.n0
      obtain ⟨x0, xf⟩ := cellsB nx
      obtain ⟨s1, s2, s3, s4, s5, s6⟩ : V.cell? ⟨b4, 1, none⟩ = some (.int .i64 kind) ∧ V.cell? ⟨b4, 2, none⟩ = some (.string text) ∧ V.cell? ⟨b4, 3, none⟩ = some (.int .i64 count) ∧ V.cell? ⟨b4, 4, none⟩ = some (.slice pa pairs.length pc) ∧ V.cell? ⟨b4, 5, none⟩ = some (.slice ia items.length ic) ∧ V.cell? ⟨b4, 6, none⟩ = some (.slice sa scores.length sc) := ⟨x0 1, x0 2, x0 3, x0 4, x0 5, x0 6⟩
      have s7 : V.cell? ⟨w.heap.size, 1, none⟩ = some (.slice (some ⟨g, 0, none⟩) E.length rc) := q0 1
      have HV : Hid (FS w now E A (some ⟨g, 0, none⟩) rc m V) := hV
      have HBV : Hid (V.heap[g]? = some (.cells (A.flatMap encE ++ S).toArray 57 (0, 0))) := hbV
      have l0 := lt_at hV.n0
      have l4 := lt_at nx
      have lg := lt_at hbV
      clear q0 x0 hV hbV nx
      go_region_held3 (fun w' => w'.cell? ⟨b4, 1, none⟩ = some (.int .i64 kind) ∧ w'.cell? ⟨b4, 2, none⟩ = some (.string text) ∧ w'.cell? ⟨b4, 3, none⟩ = some (.int .i64 count) ∧ w'.cell? ⟨b4, 4, none⟩ = some (.slice pa pairs.length pc) ∧ w'.cell? ⟨b4, 5, none⟩ = some (.slice ia items.length ic) ∧ w'.cell? ⟨b4, 6, none⟩ = some (.slice sa scores.length sc) ∧ w'.cell? ⟨w.heap.size, 1, none⟩ = some (.slice (some ⟨g, 0, none⟩) E.length rc)) (go_keep)
        (first | (go_at_call 30; refine (HC.out _ (by first | exact Below.refl _ _ | exact (Below.refl _ _).drew)).mono ?_; rintro e w2 ⟨p1, p2, p3, rfl, hown, hb2⟩; obtain ⟨a1, e1, rfl⟩ := ownsRow_shape hown.p.1; obtain ⟨a2, e2, rfl⟩ := ownsRow_shape hown.i.1; obtain ⟨a3, e3, rfl⟩ := ownsRow_shape hown.s.1; have hb2 : Below V.heap.size V w2 := (by first | exact hb2 | exact bstep (Below.refl _ _).drew hb2); have HOW : Hid (OwnVL V.heap.size w2 (.slice a1 pairs.length e1) (.slice a2 items.length e2) (.slice a3 scores.length e3) ⟨kind, text, count, pairs, items, scores⟩) := (⟨hown.p.1, hown.i.1, hown.s.1⟩ : OwnVL V.heap.size w2 (.slice a1 pairs.length e1) (.slice a2 items.length e2) (.slice a3 scores.length e3) ⟨kind, text, count, pairs, items, scores⟩); obtain ⟨y1, y2⟩ := same_block (hb2.block b4 l4); obtain ⟨y3, y4⟩ := same_block (hb2.block w.heap.size l0); obtain ⟨c0, c1, c2, c3, c4, c5, c6, c7, fz⟩ := HE8.out w2 ((hb2.block g lg).trans HBV.out); simp only at c0 c1 c2 c3 c4 c5 c6 c7; have lg2 := bsize hb2 lg; clear hown))
      all_goals
        have hnx := FS.next (HV.out.mid hb2) hlt ⟨⟨key, ⟨kind, text, count, pairs, items, scores⟩, til⟩, a1, e1, a2, e2, a3, e3⟩ HKV.out.symm (HOW.out.base HV.out.size)
        clear y1 y2 y3 y4 c0 c7
        go_wp2_with fail
        refine ⟨⟨m + 1, _, by go_num, hnx, by omega⟩, ?_⟩
        simp [intOf]; omega
    · have hge : ¬ (m : Int) < (E.length : Int) := by omega
      have hme : m = E.length := by omega
      obtain ⟨q1, f1⟩ := cellsB hst.n1
      have z1 : w.heap.size < wr.heap.size := by have := hst.size; omega
      have z2 : w.heap.size + 1 < wr.heap.size := by have := hst.size; omega
      have HME : Hid (m = E.length) := hme
      have hown : ∀ {e : TypeId} {k n : Nat} {v : Value} {xs : List Value} {u0 u1 : Value}, wr.ownsRow (w.heap.size + 2) e k v n xs →
          (((wr.setCell ⟨w.heap.size + 1, 0, none⟩ u0).setCell ⟨w.heap.size + 1, 1, none⟩ u1)).ownsRow (w.heap.size + 2) e k v n xs := by
        intro e k n v xs u0 u1 h
        refine ownsRow_setCell_below (ownsRow_setCell_below h ?_ _) ?_ _
        all_goals (show w.heap.size + 1 < w.heap.size + 2; omega)
      clear hst hme
      go_wp2_with fail
      refine bodyPost_ret (v := stoV now (.slice ra E.length rc)) (by simp [results, Tryz.results74, go_sem, q1]) rfl ?_
      first | refine ⟨.slice ra E.length rc, rfl, A, ?_, HST.out.kvs, ?_, ?_⟩ | refine ⟨.slice ra E.length rc, A, rfl, ?_, HST.out.kvs, ?_, ?_⟩
      · exact ownsRow_base (hown HST.out.own) (by omega)
      · intro x hx
        obtain ⟨j, hj, rfl⟩ := List.getElem_of_mem hx
        have h := HST.out.done j hj (by rw [HME.out, ← HST.out.len]; exact hj)
        exact OwnVL.base ⟨hown h.p, hown h.i, hown h.s⟩ (by omega)
      · exact (HST.out.below.setCell (by simp) _).setCell (by simp) _
end Go.Proofs.YtfnephnecighaaaGreat
