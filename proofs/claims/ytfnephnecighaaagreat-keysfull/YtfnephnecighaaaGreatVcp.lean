/- The document's copy of a value: rostrumref.ValueCopy. -/
import Derived.Test.YtfnephnecighaaaGreatLwJ
import Derived.Test.YtfnephnecighaaaGreatFlJ
import Derived.Deep.RegionLaw
namespace Go.Proofs.YtfnephnecighaaaGreat
open Go.RowKit
set_option linter.unusedVariables false
set_option maxRecDepth 100000

/-- An append onto a row of the call's own, as one step of a region that draws. -/
theorem step_append_one {P : Program} {ops : Array Oper} {o : Oper} {a : Act} {w : World} {K : Act → World → Prop} {Q : Exit → Act → World → Prop} {E : Prop}
    (hg : o.guard = none) (s x : Operand) (t : TypeId) (hop : o.op = Op.call { callee := Callee.builtin Builtin.append, args := #[s, x], argTypes := #[t, t] })
    (base : Nat) (e : TypeId) (i : TypeInfo) (z : Value) (size bytes : Nat) (ht : P.underlying t = some (.slice e)) (hi : P.info? e = some i) (hz : i.zero = some z)
    (hsize : i.size = size) (hby : i.bytes = bytes) (hzs : z.cells.size = size) (hsz : 0 < size)
    (v : Value) (n : Nat) (xs : List Value) (hs : a.eval s = v) (hown : w.ownsRow base e size v n xs)
    (ad : Addr) (m c : Nat) (news : List Value) (hx : a.eval x = .slice (some ad) m c) (hl : news.length = m * size) (hnews : ∀ j u, news[j]? = some u → w.cell? (ad.add j) = some u) (h1 : ∀ u ∈ news, u.oneCell' = true)
    (h63 : n + m ≤ maxLen) (hbytes : (n + m) * bytes ≤ 140737488355328) (hbase : base ≤ w.heap.size)
    (h : ∀ v' w', w'.ownsRow base e size v' (n + m) (xs ++ news) → w.grownBy w' v.ownBlock → K (a.put o.dst v') w') :
    if Region.wanted o (yielded ops a.tmps) = true then Oper.wp P o a w K Q else E := by
  have hw : Region.wanted o (yielded ops a.tmps) = true := by simp [Region.wanted, hg]
  rw [if_pos hw]
  exact wp_append_own w s x t hop base e i z size bytes ht hi hz hsize hby hzs hsz v n xs hs hown ad m c news hx hl hnews h1 h63 hbytes hbase fun v' w' h2 h3 _ => h v' w' h2 h3

theorem one_cells {W : World} {cs : List Value} {t : TypeId} : ∀ j u, cs[j]? = some u → (W.alloc (.cells cs.toArray t (0, 0))).cell? ((⟨W.heap.size, 0, none⟩ : Addr).add j) = some u := by
  intro j u hj
  have h := (cellsB (alloc_at W (.cells cs.toArray t (0, 0)))).1 j
  have e : (⟨W.heap.size, 0, none⟩ : Addr).add j = ⟨W.heap.size, j, none⟩ := by
    unfold Addr.add
    split
    · next h => subst h; rfl
    · simp
  rw [e, h]
  simpa using hj
theorem grown_undraw {W w1 : World} {o : Option Nat} (h : W.drew.grownBy w1 o) : W.grownBy w1 o := ⟨h.os, h.tape, h.output, h.size, h.block⟩
theorem three_newC (w : World) (o0 o1 o2 : Obj) : (((w.alloc o0).alloc o1).alloc o2).heap[w.heap.size]? = some o0 ∧ (((w.alloc o0).alloc o1).alloc o2).heap[w.heap.size + 1]? = some o1 ∧ (((w.alloc o0).alloc o1).alloc o2).heap[w.heap.size + 1 + 1]? = some o2 ∧
    Below w.heap.size w (((w.alloc o0).alloc o1).alloc o2) ∧ (((w.alloc o0).alloc o1).alloc o2).heap.size = w.heap.size + 3 := by
  refine ⟨?_, ?_, ?_, ((balloc _ _).alloc (by simp) _).alloc (by simp; omega) _, by simp⟩
  · rw [Below.heap_alloc _ _ _ (by simp; omega), Below.heap_alloc _ _ _ (by simp)]
    show ((_ : Array Obj).push _)[_]? = _
    simp
  · rw [Below.heap_alloc _ _ _ (by simp)]
    show ((_ : Array Obj).push _)[_]? = _
    rw [Array.getElem?_push, if_pos (by simp)]
  · show ((_ : Array Obj).push _)[_]? = _
    rw [Array.getElem?_push, if_pos (by simp)]
theorem setCell_in {w : World} {g o : Nat} {cs : Array Value} {t : TypeId} (v : Value) (h : w.heap[g]? = some (.cells cs t (0, 0))) : (w.setCell ⟨g, o, none⟩ v).heap[g]? = some (.cells (cs.setIfInBounds o v) t (0, 0)) := by
  rw [setCell_eq_setRow w g o cs t (0, 0) v h]
  exact setRow_heap w g cs _ t _ h

/-- A box ahead of what a call makes is as it was, when a row of the call's own grows. -/
theorem box_kept {B : Nat} {W w1 : World} {e : TypeId} {k n : Nat} {sv : Value} {xs : List Value} {bk : Nat} {ob : Obj} (hO : W.ownsRow B e k sv n xs) (hlt : bk < B) (hn : W.heap[bk]? = some ob) (hg : W.grownBy w1 sv.ownBlock) : w1.heap[bk]? = some ob :=
  (hg.block bk (lt_at hn) (fun h => by have := (World.ownsRow.lt hO bk h.symm).1; omega)).trans hn
/-- A row of another element type is as it was. -/
theorem row_kept {B B' : Nat} {W w1 : World} {e e' : TypeId} {k k' n n' : Nat} {sv sv' : Value} {xs xs' : List Value} (hO : W.ownsRow B e k sv n xs) (h' : W.ownsRow B' e' k' sv' n' xs') (hne : e' ≠ e) (hg : W.grownBy w1 sv.ownBlock) : w1.ownsRow B' e' k' sv' n' xs' := by
  refine ⟨h'.1, ?_⟩
  rcases h'.2 with h | ⟨g, cap, cur, h1, h2, h3, h4⟩
  · exact .inl h
  · refine .inr ⟨g, cap, cur, h1, h2, (hg.block g (lt_at h3) ?_).trans h3, h4⟩
    intro he
    rcases hO.2 with ⟨k1, _⟩ | ⟨g', cap', cur', k1, k2, k3, _⟩
    · rw [k1] at he; cases he
    · rw [k1] at he; simp [Value.ownBlock] at he; subst he; rw [h3] at k3; simp at k3; exact hne k3.2

/-- The lists of a value, rows of the call's own from a block number on. -/
structure OwnVL (B : Nat) (w : World) (ps is ss : Value) (x : Val) : Prop where
  p : w.ownsRow B 67 2 ps x.pairs.length (x.pairs.flatMap encP)
  i : w.ownsRow B 9 1 is x.items.length (x.items.flatMap encI)
  s : w.ownsRow B 69 2 ss x.scores.length (x.scores.flatMap encS)
theorem ownsRow_kept {B : Nat} {w w' : World} {e : TypeId} {k n : Nat} {v : Value} {xs : List Value} (h : w.ownsRow B e k v n xs) (hb : Below w.heap.size w w') : w'.ownsRow B e k v n xs := by
  refine ⟨h.1, ?_⟩
  rcases h.2 with h1 | ⟨g, cap, cur, h1, h2, h3, h4⟩
  · exact .inl h1
  · exact .inr ⟨g, cap, cur, h1, h2, (hb.block g (lt_at h3)).trans h3, h4⟩
theorem OwnVL.kept {B : Nat} {w w' : World} {ps is ss : Value} {x : Val} (h : OwnVL B w ps is ss x) (hb : Below w.heap.size w w') : OwnVL B w' ps is ss x := ⟨ownsRow_kept h.p hb, ownsRow_kept h.i hb, ownsRow_kept h.s hb⟩
theorem OwnVL.base {B B' : Nat} {w : World} {ps is ss : Value} {x : Val} (h : OwnVL B w ps is ss x) (hb : B' ≤ B) : OwnVL B' w ps is ss x := ⟨ownsRow_base h.p hb, ownsRow_base h.i hb, ownsRow_base h.s hb⟩
theorem OwnVL.lists {B : Nat} {w : World} {ps is ss : Value} {x : Val} (h : OwnVL B w ps is ss x) (b1 : x.pairs.length ≤ 140737488355328) (b2 : x.items.length ≤ 140737488355328) (b3 : x.scores.length ≤ 140737488355328) : Lists w ps is ss x :=
  ⟨RowAt.ofOwn lenP h.p b1, RowAt.ofOwn lenI h.i b2, RowAt.ofOwn lenS h.s b3⟩

/-- A value's copy, as far as it is made. -/
structure VC (w : World) (x : Val) (ps is ss : Value) (a b c : Nat) (pv iv sv : Value) (wr : World) : Prop where
  la : a ≤ x.pairs.length
  lb : b ≤ x.items.length
  lc : c ≤ x.scores.length
  size : w.heap.size + 3 ≤ wr.heap.size
  below : Below w.heap.size w wr
  n0 : wr.heap[w.heap.size]? = some (valO x.kind x.text x.count ps is ss)
  n1 : wr.heap[w.heap.size + 1]? = some (valO 0 ⟨#[]⟩ 0 (.slice none 0 0) (.slice none 0 0) (.slice none 0 0))
  n2 : wr.heap[w.heap.size + 2]? = some (valO x.kind x.text x.count pv iv sv)
  op : wr.ownsRow (w.heap.size + 3) 67 2 pv a ((x.pairs.take a).flatMap encP)
  oi : wr.ownsRow (w.heap.size + 3) 9 1 iv b ((x.items.take b).flatMap encI)
  os : wr.ownsRow (w.heap.size + 3) 69 2 sv c ((x.scores.take c).flatMap encS)

theorem VC.nextP {w wr w1 : World} {x : Val} {ps is ss pv iv sv v' : Value} {a b c : Nat} {ob : Obj} (h : VC w x ps is ss a b c pv iv sv wr) (hlt : a < x.pairs.length)
    (hown : w1.ownsRow (w.heap.size + 3) 67 2 v' (a + 1) ((x.pairs.take a).flatMap encP ++ encP x.pairs[a])) (hg : (wr.alloc ob).grownBy w1 pv.ownBlock) : VC w x ps is ss (a + 1) b c v' iv sv (w1.setCell ⟨w.heap.size + 2, 3, none⟩ v') := by
  have hO := World.ownsRow.alloc h.op ob
  have k : ∀ {bk : Nat} {o : Obj}, bk < w.heap.size + 3 → wr.heap[bk]? = some o → w1.heap[bk]? = some o := fun {bk o} hb hn => box_kept hO hb ((Below.heap_alloc _ _ _ (lt_at hn)).trans hn) hg
  have hB1 : Below w.heap.size w w1 := (h.below.alloc h.below.size ob).grown hg (by simp; have := h.size; omega) (fun j hj => by have := (World.ownsRow.lt hO j hj).1; omega)
  have hz : w.heap.size + 3 ≤ w1.heap.size := by have := hg.size; have := h.size; simp at *; omega
  have r1 := row_kept hO (World.ownsRow.alloc h.oi ob) (by decide) hg
  have r2 := row_kept hO (World.ownsRow.alloc h.os ob) (by decide) hg
  have hs1 := ownsRow_setCell_below r1 (a := ⟨w.heap.size + 2, 3, none⟩) (by show w.heap.size + 2 < w.heap.size + 3; omega) v'
  have hs2 := ownsRow_setCell_below r2 (a := ⟨w.heap.size + 2, 3, none⟩) (by show w.heap.size + 2 < w.heap.size + 3; omega) v'
  have hs3 := ownsRow_setCell_below hown (a := ⟨w.heap.size + 2, 3, none⟩) (by show w.heap.size + 2 < w.heap.size + 3; omega) v'
  have hs3' : (w1.setCell ⟨w.heap.size + 2, 3, none⟩ v').ownsRow (w.heap.size + 3) 67 2 v' (a + 1) ((x.pairs.take (a + 1)).flatMap encP) := by
    rw [List.take_succ_eq_append_getElem hlt, List.flatMap_append]; simpa using hs3
  have m2 := setCell_in v' (o := 3) (k (by omega) h.n2)
  constructor
  case la => have := h.la; omega
  case lb => have := h.lb; omega
  case lc => have := h.lc; omega
  case size => simpa [World.setCell] using hz
  case below => exact hB1.setCell (by simp) _
  case n0 => exact (Below.heap_setCell _ _ _ _ (by simp)).trans (k (by omega) h.n0)
  case n1 => exact (Below.heap_setCell _ _ _ _ (by simp)).trans (k (by omega) h.n1)
  case n2 => exact m2
  all_goals first | exact hs3' | exact hs1 | exact hs2
theorem VC.cellsP {w wr w1 : World} {x : Val} {ps is ss pv iv sv : Value} {a b c : Nat} {ob : Obj} (h : VC w x ps is ss a b c pv iv sv wr) (hg : (wr.alloc ob).grownBy w1 pv.ownBlock) :
    (∀ j, w1.cell? ⟨w.heap.size + 2, j, none⟩ = #[Value.int .i64 x.kind, .string x.text, .int .i64 x.count, pv, iv, sv][j]?) ∧ (∀ j, w1.frozen? ⟨w.heap.size + 2, j, none⟩ = false) :=
  cellsB (box_kept (World.ownsRow.alloc h.op ob) (by omega) ((Below.heap_alloc _ _ _ (lt_at h.n2)).trans h.n2) hg)
theorem VC.nextI {w wr w1 : World} {x : Val} {ps is ss pv iv sv v' : Value} {a b c : Nat} {ob : Obj} (h : VC w x ps is ss a b c pv iv sv wr) (hlt : b < x.items.length)
    (hown : w1.ownsRow (w.heap.size + 3) 9 1 v' (b + 1) ((x.items.take b).flatMap encI ++ encI x.items[b])) (hg : (wr.alloc ob).grownBy w1 iv.ownBlock) : VC w x ps is ss a (b + 1) c pv v' sv (w1.setCell ⟨w.heap.size + 2, 4, none⟩ v') := by
  have hO := World.ownsRow.alloc h.oi ob
  have k : ∀ {bk : Nat} {o : Obj}, bk < w.heap.size + 3 → wr.heap[bk]? = some o → w1.heap[bk]? = some o := fun {bk o} hb hn => box_kept hO hb ((Below.heap_alloc _ _ _ (lt_at hn)).trans hn) hg
  have hB1 : Below w.heap.size w w1 := (h.below.alloc h.below.size ob).grown hg (by simp; have := h.size; omega) (fun j hj => by have := (World.ownsRow.lt hO j hj).1; omega)
  have hz : w.heap.size + 3 ≤ w1.heap.size := by have := hg.size; have := h.size; simp at *; omega
  have r1 := row_kept hO (World.ownsRow.alloc h.op ob) (by decide) hg
  have r2 := row_kept hO (World.ownsRow.alloc h.os ob) (by decide) hg
  have hs1 := ownsRow_setCell_below r1 (a := ⟨w.heap.size + 2, 4, none⟩) (by show w.heap.size + 2 < w.heap.size + 3; omega) v'
  have hs2 := ownsRow_setCell_below r2 (a := ⟨w.heap.size + 2, 4, none⟩) (by show w.heap.size + 2 < w.heap.size + 3; omega) v'
  have hs3 := ownsRow_setCell_below hown (a := ⟨w.heap.size + 2, 4, none⟩) (by show w.heap.size + 2 < w.heap.size + 3; omega) v'
  have hs3' : (w1.setCell ⟨w.heap.size + 2, 4, none⟩ v').ownsRow (w.heap.size + 3) 9 1 v' (b + 1) ((x.items.take (b + 1)).flatMap encI) := by
    rw [List.take_succ_eq_append_getElem hlt, List.flatMap_append]; simpa using hs3
  have m2 := setCell_in v' (o := 4) (k (by omega) h.n2)
  constructor
  case la => have := h.la; omega
  case lb => have := h.lb; omega
  case lc => have := h.lc; omega
  case size => simpa [World.setCell] using hz
  case below => exact hB1.setCell (by simp) _
  case n0 => exact (Below.heap_setCell _ _ _ _ (by simp)).trans (k (by omega) h.n0)
  case n1 => exact (Below.heap_setCell _ _ _ _ (by simp)).trans (k (by omega) h.n1)
  case n2 => exact m2
  all_goals first | exact hs3' | exact hs1 | exact hs2
theorem VC.cellsI {w wr w1 : World} {x : Val} {ps is ss pv iv sv : Value} {a b c : Nat} {ob : Obj} (h : VC w x ps is ss a b c pv iv sv wr) (hg : (wr.alloc ob).grownBy w1 iv.ownBlock) :
    (∀ j, w1.cell? ⟨w.heap.size + 2, j, none⟩ = #[Value.int .i64 x.kind, .string x.text, .int .i64 x.count, pv, iv, sv][j]?) ∧ (∀ j, w1.frozen? ⟨w.heap.size + 2, j, none⟩ = false) :=
  cellsB (box_kept (World.ownsRow.alloc h.oi ob) (by omega) ((Below.heap_alloc _ _ _ (lt_at h.n2)).trans h.n2) hg)
theorem VC.nextS {w wr w1 : World} {x : Val} {ps is ss pv iv sv v' : Value} {a b c : Nat} {ob : Obj} (h : VC w x ps is ss a b c pv iv sv wr) (hlt : c < x.scores.length)
    (hown : w1.ownsRow (w.heap.size + 3) 69 2 v' (c + 1) ((x.scores.take c).flatMap encS ++ encS x.scores[c])) (hg : (wr.alloc ob).grownBy w1 sv.ownBlock) : VC w x ps is ss a b (c + 1) pv iv v' (w1.setCell ⟨w.heap.size + 2, 5, none⟩ v') := by
  have hO := World.ownsRow.alloc h.os ob
  have k : ∀ {bk : Nat} {o : Obj}, bk < w.heap.size + 3 → wr.heap[bk]? = some o → w1.heap[bk]? = some o := fun {bk o} hb hn => box_kept hO hb ((Below.heap_alloc _ _ _ (lt_at hn)).trans hn) hg
  have hB1 : Below w.heap.size w w1 := (h.below.alloc h.below.size ob).grown hg (by simp; have := h.size; omega) (fun j hj => by have := (World.ownsRow.lt hO j hj).1; omega)
  have hz : w.heap.size + 3 ≤ w1.heap.size := by have := hg.size; have := h.size; simp at *; omega
  have r1 := row_kept hO (World.ownsRow.alloc h.op ob) (by decide) hg
  have r2 := row_kept hO (World.ownsRow.alloc h.oi ob) (by decide) hg
  have hs1 := ownsRow_setCell_below r1 (a := ⟨w.heap.size + 2, 5, none⟩) (by show w.heap.size + 2 < w.heap.size + 3; omega) v'
  have hs2 := ownsRow_setCell_below r2 (a := ⟨w.heap.size + 2, 5, none⟩) (by show w.heap.size + 2 < w.heap.size + 3; omega) v'
  have hs3 := ownsRow_setCell_below hown (a := ⟨w.heap.size + 2, 5, none⟩) (by show w.heap.size + 2 < w.heap.size + 3; omega) v'
  have hs3' : (w1.setCell ⟨w.heap.size + 2, 5, none⟩ v').ownsRow (w.heap.size + 3) 69 2 v' (c + 1) ((x.scores.take (c + 1)).flatMap encS) := by
    rw [List.take_succ_eq_append_getElem hlt, List.flatMap_append]; simpa using hs3
  have m2 := setCell_in v' (o := 5) (k (by omega) h.n2)
  constructor
  case la => have := h.la; omega
  case lb => have := h.lb; omega
  case lc => have := h.lc; omega
  case size => simpa [World.setCell] using hz
  case below => exact hB1.setCell (by simp) _
  case n0 => exact (Below.heap_setCell _ _ _ _ (by simp)).trans (k (by omega) h.n0)
  case n1 => exact (Below.heap_setCell _ _ _ _ (by simp)).trans (k (by omega) h.n1)
  case n2 => exact m2
  all_goals first | exact hs3' | exact hs1 | exact hs2
theorem VC.cellsS {w wr w1 : World} {x : Val} {ps is ss pv iv sv : Value} {a b c : Nat} {ob : Obj} (h : VC w x ps is ss a b c pv iv sv wr) (hg : (wr.alloc ob).grownBy w1 sv.ownBlock) :
    (∀ j, w1.cell? ⟨w.heap.size + 2, j, none⟩ = #[Value.int .i64 x.kind, .string x.text, .int .i64 x.count, pv, iv, sv][j]?) ∧ (∀ j, w1.frozen? ⟨w.heap.size + 2, j, none⟩ = false) :=
  cellsB (box_kept (World.ownsRow.alloc h.os ob) (by omega) ((Below.heap_alloc _ _ _ (lt_at h.n2)).trans h.n2) hg)

set_option maxHeartbeats 16000000 in
theorem valueCopy_core (kind : Int) (text : ByteArray) (count : Int) (pairs : List (ByteArray × ByteArray)) (items : List ByteArray) (scores : List (ByteArray × Int)) (pa ia sa : Option Addr) (pc ic sc : Nat) (w : World)
    (hl : ListsW w (.slice pa pairs.length pc) (.slice ia items.length ic) (.slice sa scores.length sc) ⟨kind, text, count, pairs, items, scores⟩)
    (hm1 : pairs.length * 32 ≤ 140737488355328) (hm2 : items.length * 16 ≤ 140737488355328) (hm3 : scores.length * 24 ≤ 140737488355328) :
    Calls Tryz.prog 11 #[valV kind text count (.slice pa pairs.length pc) (.slice ia items.length ic) (.slice sa scores.length sc)] w fun e w' =>
      ∃ pv iv sv, e = .returned (valV kind text count pv iv sv) ∧ OwnVL w.heap.size w' pv iv sv ⟨kind, text, count, pairs, items, scores⟩ ∧ Below w.heap.size w w' := by
  obtain ⟨iP, hiP, hzP, hkP, hlP⟩ := info_parts info_pair
  obtain ⟨iI, hiI, hzI, hkI, hlI⟩ := info_parts info_string
  obtain ⟨iS, hiS, hzS, hkS, hlS⟩ := info_parts info_score
  have HL : Hid (ListsW w (.slice pa pairs.length pc) (.slice ia items.length ic) (.slice sa scores.length sc) ⟨kind, text, count, pairs, items, scores⟩) := hl
  obtain ⟨⟨b1, -, -, -⟩, ⟨b2, -, -, -⟩, ⟨b3, -, -, -⟩⟩ := hl
  simp only at b1 b2 b3
  go_enter Tryz.func11, Tryz.ntmps11
  go_wp2
  obtain ⟨n0, n1, n2, hB0, hs0⟩ := three_newC w (valO kind text count (.slice pa pairs.length pc) (.slice ia items.length ic) (.slice sa scores.length sc)) (valO 0 ⟨#[]⟩ 0 (.slice none 0 0) (.slice none 0 0) (.slice none 0 0)) (valO kind text count (.slice none 0 0) (.slice none 0 0) (.slice none 0 0))
  generalize ((w.alloc (valO kind text count (.slice pa pairs.length pc) (.slice ia items.length ic) (.slice sa scores.length sc))).alloc (valO 0 ⟨#[]⟩ 0 (.slice none 0 0) (.slice none 0 0) (.slice none 0 0))).alloc (valO kind text count (.slice none 0 0) (.slice none 0 0) (.slice none 0 0)) = V at n0 n1 n2 hB0 hs0 ⊢
  have st : VC w ⟨kind, text, count, pairs, items, scores⟩ (.slice pa pairs.length pc) (.slice ia items.length ic) (.slice sa scores.length sc) 0 0 0 (.slice none 0 0) (.slice none 0 0) (.slice none 0 0) V :=
    ⟨by simp, by simp, by simp, by omega, hB0, n0, n1, n2, World.ownsRow_nil _ _ _ _, World.ownsRow_nil _ _ _ _, World.ownsRow_nil _ _ _ _⟩
  clear n0 n1 n2 hB0 hs0
  have ST : Hid (VC w ⟨kind, text, count, pairs, items, scores⟩ (.slice pa pairs.length pc) (.slice ia items.length ic) (.slice sa scores.length sc) 0 0 0 (.slice none 0 0) (.slice none 0 0) (.slice none 0 0) V) := st
  clear st
  rw [show w.heap.size + 1 + 1 = w.heap.size + 2 from rfl]
  go_loopw [4] (fun c wr => ∃ (m : Nat) (pv : Value), c = .int .i64 (m : Int) ∧ VC w ⟨kind, text, count, pairs, items, scores⟩ (.slice pa pairs.length pc) (.slice ia items.length ic) (.slice sa scores.length sc) m 0 0 pv (.slice none 0 0) (.slice none 0 0) wr) (fun c _ => pairs.length - (intOf c).toNat)
  case atStart => exact ⟨0, _, by simp, ST.out⟩
  case round =>
    clear ST
    obtain ⟨m, v0, rfl, hst⟩ := hrel
    obtain ⟨q0, f0⟩ := cellsB hst.n0
    obtain ⟨q2, f2⟩ := cellsB hst.n2
    obtain ⟨pva, pvc, hsv⟩ := ownsRow_shape hst.op
    subst hsv
    by_cases hlt : m < pairs.length
    · have hi0 : (m : Int) < (pairs.length : Int) := by omega
      obtain ⟨-, a', cap', hs', k1, k2, k3⟩ := HL.out.p
      obtain ⟨rfl, -, rfl⟩ := Value.slice.inj hs'
      rcases k3 with rfl | ⟨bk, off, rfl, hbk, hc⟩
      · simp at hlt
      · have c0 := (hst.below.cell (p := ⟨bk, off + m * 2 + 0, none⟩) hbk).trans (hc m hlt 0 (by omega))
        have c1 := (hst.below.cell (p := ⟨bk, off + m * 2 + 1, none⟩) hbk).trans (hc m hlt 1 (by omega))
        simp only [encP, List.getElem?_cons_zero, List.getElem?_cons_succ, Nat.add_zero] at c0 c1
        have HST : Hid (VC w ⟨kind, text, count, pairs, items, scores⟩ _ _ _ m 0 0 (.slice pva m pvc) (.slice none 0 0) (.slice none 0 0) wr) := hst
        have HO : Hid (wr.ownsRow (w.heap.size + 3) 67 2 (.slice pva m pvc) m ((pairs.take m).flatMap encP)) := hst.op
        have HN : Hid (∀ v' w1 o, w1.ownsRow (w.heap.size + 3) 67 2 v' (m + 1) ((pairs.take m).flatMap encP ++ encP pairs[m]) → (wr.alloc o).grownBy w1 (Value.slice pva m pvc).ownBlock → VC w ⟨kind, text, count, pairs, items, scores⟩ _ _ _ (m + 1) 0 0 v' (.slice none 0 0) (.slice none 0 0) (w1.setCell ⟨w.heap.size + 2, 3, none⟩ v')) := fun v' w1 o h1 h2 => VC.nextP hst hlt h1 h2
        have hlit := one_cells (W := wr) (cs := encP pairs[m]) (t := 67)
        have hm63 : m + 1 ≤ maxLen := by unfold maxLen; omega
        have hm47 : (m + 1) * 32 ≤ 140737488355328 := by omega
        have hzz : w.heap.size + 2 < wr.heap.size := by have := hst.size; omega
        have hz3 : w.heap.size + 3 ≤ wr.heap.size := hst.size
        generalize pairs[m] = x at *
        obtain ⟨x1, x2⟩ := x
        simp only at *
        have HLIT : Hid (∀ (j : Nat) (u : Value), (encP (x1, x2))[j]? = some u → (wr.alloc (.cells #[.string x1, .string x2] 67)).cell? ((⟨wr.heap.size, 0, none⟩ : Addr).add j) = some u) := hlit
        clear hst hlit hc
        go_wp2_with fail
        go_region_law (refine step_append_one rfl (.tmp 22) (.tmp 28) 22 rfl (w.heap.size + 3) 67 iP (.agg #[.string ByteArray.empty, .string ByteArray.empty]) 2 32 Tryz.underlying22 hiP hzP hkP hlP rfl (by decide) (.slice pva m pvc) m ((pairs.take m).flatMap encP) (by simp [Act.eval]) (World.ownsRow.alloc HO.out (.cells #[.string x1, .string x2] 67)) ⟨wr.heap.size, 0, none⟩ 1 1 (encP (x1, x2)) (by simp [Act.eval]) rfl HLIT.out (oneP _) hm63 hm47 (by simp; omega) ?_; intro v' w1 hown1 hg1; have hg2 := grown_undraw hg1; obtain ⟨pva', pvc', rfl⟩ := ownsRow_shape hown1; obtain ⟨y1, y2⟩ := VC.cellsP HST.out hg2)
        all_goals
          have hnx := HN.out _ _ _ hown1 hg2
          clear hown1 hg1 hg2 y1 y2
          go_wp2_with fail
          exact ⟨⟨m + 1, _, by go_num, hnx⟩, by simp [intOf]; omega⟩
    · have hge : ¬ (m : Int) < (pairs.length : Int) := by omega
      obtain rfl : m = pairs.length := by have := hst.la; simp at this; omega
      have ST : Hid (VC w ⟨kind, text, count, pairs, items, scores⟩ (.slice pa pairs.length pc) (.slice ia items.length ic) (.slice sa scores.length sc) pairs.length 0 0 (.slice pva pairs.length pvc) (.slice none 0 0) (.slice none 0 0) wr) := hst
      clear hst
      go_wp2_with fail
      clear q0 f0 q2 f2
      go_loopw [5] (fun c wr => ∃ (m : Nat) (iv : Value), c = .int .i64 (m : Int) ∧ VC w ⟨kind, text, count, pairs, items, scores⟩ (.slice pa pairs.length pc) (.slice ia items.length ic) (.slice sa scores.length sc) pairs.length m 0 (.slice pva pairs.length pvc) iv (.slice none 0 0) wr) (fun c _ => items.length - (intOf c).toNat)
      case atStart => exact ⟨0, _, by simp, ST.out⟩
      case round =>
        clear ST
        obtain ⟨m, v0, rfl, hst⟩ := hrel
        obtain ⟨q0, f0⟩ := cellsB hst.n0
        obtain ⟨q2, f2⟩ := cellsB hst.n2
        obtain ⟨iva, ivc, hsv⟩ := ownsRow_shape hst.oi
        subst hsv
        by_cases hlt : m < items.length
        · have hi0 : (m : Int) < (items.length : Int) := by omega
          obtain ⟨-, a', cap', hs', k1, k2, k3⟩ := HL.out.i
          obtain ⟨rfl, -, rfl⟩ := Value.slice.inj hs'
          rcases k3 with rfl | ⟨bk, off, rfl, hbk, hc⟩
          · simp at hlt
          · have c0 := (hst.below.cell (p := ⟨bk, off + m * 1 + 0, none⟩) hbk).trans (hc m hlt 0 (by omega))
            simp only [encI, List.getElem?_cons_zero, Nat.add_zero, Nat.mul_one] at c0
            have HST : Hid (VC w ⟨kind, text, count, pairs, items, scores⟩ _ _ _ pairs.length m 0 (.slice pva pairs.length pvc) (.slice iva m ivc) (.slice none 0 0) wr) := hst
            have HO : Hid (wr.ownsRow (w.heap.size + 3) 9 1 (.slice iva m ivc) m ((items.take m).flatMap encI)) := hst.oi
            have HN : Hid (∀ v' w1 o, w1.ownsRow (w.heap.size + 3) 9 1 v' (m + 1) ((items.take m).flatMap encI ++ encI items[m]) → (wr.alloc o).grownBy w1 (Value.slice iva m ivc).ownBlock → VC w ⟨kind, text, count, pairs, items, scores⟩ _ _ _ pairs.length (m + 1) 0 (.slice pva pairs.length pvc) v' (.slice none 0 0) (w1.setCell ⟨w.heap.size + 2, 4, none⟩ v')) := fun v' w1 o h1 h2 => VC.nextI hst hlt h1 h2
            have hlit := one_cells (W := wr) (cs := encI items[m]) (t := 9)
            have hm63 : m + 1 ≤ maxLen := by unfold maxLen; omega
            have hm47 : (m + 1) * 16 ≤ 140737488355328 := by omega
            have hzz : w.heap.size + 2 < wr.heap.size := by have := hst.size; omega
            have hz3 : w.heap.size + 3 ≤ wr.heap.size := hst.size
            generalize items[m] = x at *
            
            have HLIT : Hid (∀ (j : Nat) (u : Value), (encI x)[j]? = some u → (wr.alloc (.cells #[.string x] 9)).cell? ((⟨wr.heap.size, 0, none⟩ : Addr).add j) = some u) := hlit
            clear hst hlit hc
            go_wp2_with fail
            go_region_law (refine step_append_one rfl (.tmp 39) (.tmp 45) 23 rfl (w.heap.size + 3) 9 iI (.string ByteArray.empty) 1 16 Tryz.underlying23 hiI hzI hkI hlI rfl (by decide) (.slice iva m ivc) m ((items.take m).flatMap encI) (by simp [Act.eval]) (World.ownsRow.alloc HO.out (.cells #[.string x] 9)) ⟨wr.heap.size, 0, none⟩ 1 1 (encI x) (by simp [Act.eval]) rfl HLIT.out (oneI _) hm63 hm47 (by simp; omega) ?_; intro v' w1 hown1 hg1; have hg2 := grown_undraw hg1; obtain ⟨iva', ivc', rfl⟩ := ownsRow_shape hown1; obtain ⟨y1, y2⟩ := VC.cellsI HST.out hg2)
            all_goals
              have hnx := HN.out _ _ _ hown1 hg2
              clear hown1 hg1 hg2 y1 y2
              go_wp2_with fail
              exact ⟨⟨m + 1, _, by go_num, hnx⟩, by simp [intOf]; omega⟩
        · have hge : ¬ (m : Int) < (items.length : Int) := by omega
          obtain rfl : m = items.length := by have := hst.lb; simp at this; omega
          have ST : Hid (VC w ⟨kind, text, count, pairs, items, scores⟩ (.slice pa pairs.length pc) (.slice ia items.length ic) (.slice sa scores.length sc) pairs.length items.length 0 (.slice pva pairs.length pvc) (.slice iva items.length ivc) (.slice none 0 0) wr) := hst
          clear hst
          go_wp2_with fail
          clear q0 f0 q2 f2
          go_loopw [6] (fun c wr => ∃ (m : Nat) (sv : Value), c = .int .i64 (m : Int) ∧ VC w ⟨kind, text, count, pairs, items, scores⟩ (.slice pa pairs.length pc) (.slice ia items.length ic) (.slice sa scores.length sc) pairs.length items.length m (.slice pva pairs.length pvc) (.slice iva items.length ivc) sv wr) (fun c _ => scores.length - (intOf c).toNat)
          case atStart => exact ⟨0, _, by simp, ST.out⟩
          case round =>
            clear ST
            obtain ⟨m, v0, rfl, hst⟩ := hrel
            obtain ⟨q0, f0⟩ := cellsB hst.n0
            obtain ⟨q2, f2⟩ := cellsB hst.n2
            obtain ⟨va, vc, hsv⟩ := ownsRow_shape hst.os
            subst hsv
            by_cases hlt : m < scores.length
            · have hi0 : (m : Int) < (scores.length : Int) := by omega
              obtain ⟨-, a', cap', hs', k1, k2, k3⟩ := HL.out.s
              obtain ⟨rfl, -, rfl⟩ := Value.slice.inj hs'
              rcases k3 with rfl | ⟨bk, off, rfl, hbk, hc⟩
              · simp at hlt
              · have c0 := (hst.below.cell (p := ⟨bk, off + m * 2 + 0, none⟩) hbk).trans (hc m hlt 0 (by omega))
                have c1 := (hst.below.cell (p := ⟨bk, off + m * 2 + 1, none⟩) hbk).trans (hc m hlt 1 (by omega))
                simp only [encS, List.getElem?_cons_zero, List.getElem?_cons_succ, Nat.add_zero] at c0 c1
                have HST : Hid (VC w ⟨kind, text, count, pairs, items, scores⟩ _ _ _ pairs.length items.length m (.slice pva pairs.length pvc) (.slice iva items.length ivc) (.slice va m vc) wr) := hst
                have HO : Hid (wr.ownsRow (w.heap.size + 3) 69 2 (.slice va m vc) m ((scores.take m).flatMap encS)) := hst.os
                have HN : Hid (∀ v' w1 o, w1.ownsRow (w.heap.size + 3) 69 2 v' (m + 1) ((scores.take m).flatMap encS ++ encS scores[m]) → (wr.alloc o).grownBy w1 (Value.slice va m vc).ownBlock → VC w ⟨kind, text, count, pairs, items, scores⟩ _ _ _ pairs.length items.length (m + 1) (.slice pva pairs.length pvc) (.slice iva items.length ivc) v' (w1.setCell ⟨w.heap.size + 2, 5, none⟩ v')) := fun v' w1 o h1 h2 => VC.nextS hst hlt h1 h2
                have hlit := one_cells (W := wr) (cs := encS scores[m]) (t := 69)
                have hm63 : m + 1 ≤ maxLen := by unfold maxLen; omega
                have hm47 : (m + 1) * 24 ≤ 140737488355328 := by omega
                have hzz : w.heap.size + 2 < wr.heap.size := by have := hst.size; omega
                have hz3 : w.heap.size + 3 ≤ wr.heap.size := hst.size
                generalize scores[m] = x at *
                obtain ⟨x1, x2⟩ := x
                simp only at *
                have HLIT : Hid (∀ (j : Nat) (u : Value), (encS (x1, x2))[j]? = some u → (wr.alloc (.cells #[.string x1, .int .i64 x2] 69)).cell? ((⟨wr.heap.size, 0, none⟩ : Addr).add j) = some u) := hlit
                clear hst hlit hc
                go_wp2_with fail
                go_region_law (refine step_append_one rfl (.tmp 56) (.tmp 62) 24 rfl (w.heap.size + 3) 69 iS (.agg #[.string ByteArray.empty, .int .i64 0]) 2 24 Tryz.underlying24 hiS hzS hkS hlS rfl (by decide) (.slice va m vc) m ((scores.take m).flatMap encS) (by simp [Act.eval]) (World.ownsRow.alloc HO.out (.cells #[.string x1, .int .i64 x2] 69)) ⟨wr.heap.size, 0, none⟩ 1 1 (encS (x1, x2)) (by simp [Act.eval]) rfl HLIT.out (oneS _) hm63 hm47 (by simp; omega) ?_; intro v' w1 hown1 hg1; have hg2 := grown_undraw hg1; obtain ⟨va', vc', rfl⟩ := ownsRow_shape hown1; obtain ⟨y1, y2⟩ := VC.cellsS HST.out hg2)
                all_goals
                  have hnx := HN.out _ _ _ hown1 hg2
                  clear hown1 hg1 hg2 y1 y2
                  go_wp2_with fail
                  exact ⟨⟨m + 1, _, by go_num, hnx⟩, by simp [intOf]; omega⟩
            · have hge : ¬ (m : Int) < (scores.length : Int) := by omega
              obtain rfl : m = scores.length := by have := hst.lc; simp at this; omega
              obtain ⟨q1, f1⟩ := cellsB hst.n1
              have HST : Hid (VC w ⟨kind, text, count, pairs, items, scores⟩ (.slice pa pairs.length pc) (.slice ia items.length ic) (.slice sa scores.length sc) pairs.length items.length scores.length (.slice pva pairs.length pvc) (.slice iva items.length ivc) (.slice va scores.length vc) wr) := hst
              have z1 : w.heap.size + 1 < wr.heap.size := by have := hst.size; omega
              have z2 : w.heap.size + 2 < wr.heap.size := by have := hst.size; omega
              clear hst
              have hown : ∀ {e : TypeId} {k n : Nat} {v : Value} {xs : List Value} {u0 u1 u2 u3 u4 u5 : Value}, wr.ownsRow (w.heap.size + 3) e k v n xs →
                  ((((((wr.setCell ⟨w.heap.size + 1, 0, none⟩ u0).setCell ⟨w.heap.size + 1, 1, none⟩ u1).setCell ⟨w.heap.size + 1, 2, none⟩ u2).setCell ⟨w.heap.size + 1, 3, none⟩ u3).setCell ⟨w.heap.size + 1, 4, none⟩ u4).setCell ⟨w.heap.size + 1, 5, none⟩ u5).ownsRow (w.heap.size + 3) e k v n xs := by
                intro e k n v xs u0 u1 u2 u3 u4 u5 h
                refine ownsRow_setCell_below (ownsRow_setCell_below (ownsRow_setCell_below (ownsRow_setCell_below (ownsRow_setCell_below (ownsRow_setCell_below h ?_ _) ?_ _) ?_ _) ?_ _) ?_ _) ?_ _
                all_goals (show w.heap.size + 1 < w.heap.size + 3; omega)
              have op := HST.out.op
              have oi := HST.out.oi
              have os := HST.out.os
              simp only [List.take_length] at op oi os
              go_wp2_with fail
              refine bodyPost_ret (v := valV kind text count (.slice pva pairs.length pvc) (.slice iva items.length ivc) (.slice va scores.length vc)) (by simp [results, Tryz.results11, go_sem, q1]) rfl ⟨_, _, _, rfl, ⟨?_, ?_, ?_⟩, ?_⟩
              · exact ownsRow_base (hown op) (by omega)
              · exact ownsRow_base (hown oi) (by omega)
              · exact ownsRow_base (hown os) (by omega)
              · exact (((((HST.out.below.setCell (by simp) _).setCell (by simp) _).setCell (by simp) _).setCell (by simp) _).setCell (by simp) _).setCell (by simp) _

theorem valueCopy_any (v : Value) (x : Val) (w : World) (h : RepsW w v x) (hm1 : x.pairs.length * 32 ≤ 140737488355328) (hm2 : x.items.length * 16 ≤ 140737488355328) (hm3 : x.scores.length * 24 ≤ 140737488355328) :
    Calls Tryz.prog 11 #[v] w fun e w' => ∃ v', e = .returned v' ∧ Reps w' v' x ∧ Below w.heap.size w w' := by
  obtain ⟨ps, is, ss, rfl, hl⟩ := h
  obtain ⟨pa, pc, rfl, -, -⟩ := hl.p.shape
  obtain ⟨ia, ic, rfl, -, -⟩ := hl.i.shape
  obtain ⟨sa, sc, rfl, -, -⟩ := hl.s.shape
  obtain ⟨kind, text, count, pairs, items, scores⟩ := x
  refine (valueCopy_core kind text count pairs items scores pa ia sa pc ic sc w hl hm1 hm2 hm3).mono ?_
  rintro e w' ⟨pv, iv, sv, rfl, hl', hb⟩
  exact ⟨_, rfl, ⟨pv, iv, sv, rfl, hl'.lists hl.p.1 hl.i.1 hl.s.1⟩, hb⟩
end Go.Proofs.YtfnephnecighaaaGreat
