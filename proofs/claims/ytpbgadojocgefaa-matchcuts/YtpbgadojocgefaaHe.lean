/- The document's copy of a log: LogCopy. -/
import Derived.Test.YtpbgadojocgefaaHa
import Derived.Deep.RegionLaw
namespace Go.Proofs.Ytpbgadojocgefaa
open Go.RowKit
set_option linter.unusedVariables false
set_option maxRecDepth 100000

/-- An append onto a row of the call's own, as one step of a region that draws. -/
theorem step_append_own {P : Program} {ops : Array Oper} {o : Oper} {a : Act} {w : World} {K : Act → World → Prop} {Q : Exit → Act → World → Prop} {E : Prop}
    (hg : o.guard = none) (s x : Operand) (t : TypeId) (hop : o.op = Op.call { callee := Callee.builtin Builtin.append, args := #[s, x], argTypes := #[t, t] })
    (base : Nat) (e : TypeId) (i : TypeInfo) (z : Value) (size bytes : Nat) (ht : P.underlying t = some (.slice e)) (hi : P.info? e = some i) (hz : i.zero = some z)
    (hsize : i.size = size) (hby : i.bytes = bytes) (hzs : z.cells.size = size) (hsz : 0 < size)
    (v : Value) (n : Nat) (xs : List Value) (hs : a.eval s = v) (hown : w.ownsRow base e size v n xs)
    (ad : Addr) (m c : Nat) (news : List Value) (hx : a.eval x = .slice (some ad) m c) (hl : news.length = m * size) (hnews : ∀ j u, news[j]? = some u → w.cell? (ad.add j) = some u) (h1 : ∀ u ∈ news, u.oneCell' = true)
    (h63 : n + m ≤ maxLen) (hbytes : (n + m) * bytes ≤ 140737488355328) (hbase : base ≤ w.heap.size)
    (h : ∀ v' w', w'.ownsRow base e size v' (n + m) (xs ++ news) → w.grownBy w' v.ownBlock → K (a.put o.dst v') w') :
    if Region.wanted o (yielded ops a.tmps) = true then Oper.wp P o a w K Q else E := by
  have hw : Region.wanted o (yielded ops a.tmps) = true := by simp [Region.wanted, hg]
  rw [if_pos hw]
  exact wp_append_own w s x t hop base e i z size bytes ht hi hz hsize hby hzs hsz v n xs hs hown ad m c news hx hl hnews h1 h63 hbytes hbase fun v' w' h2 h3 _ => h v' w' h2 h3

/-- A block of a log, behind an append onto a row of items: as it was. -/
theorem log_kept {B : Nat} {W w1 : World} {sv : Value} {A : List Itm} {bk : Nat} {cs : Array Value} {n : Nat} {xs : List Value} (hown : W.ownsRow B 46 10 sv n xs) (hn : W.heap[bk]? = some (.cells cs 24 (0, 0))) (hg : W.grownBy w1 sv.ownBlock) : w1.heap[bk]? = some (.cells cs 24 (0, 0)) := by
  refine (hg.block bk (lt_at hn) ?_).trans hn
  intro e
  rcases hown.2 with ⟨h1, _⟩ | ⟨g, cap, cur, h1, h2, h3, _⟩
  · rw [h1] at e; cases e
  · rw [h1] at e; simp [Value.ownBlock] at e; subst e; rw [hn] at h3; simp at h3

theorem grown_undrew {W w1 : World} {o : Option Nat} (h : W.drew.grownBy w1 o) : W.grownBy w1 o := ⟨h.os, h.tape, h.output, h.size, h.block⟩

theorem row_shape {w : World} {B : Nat} {e : TypeId} {k : Nat} {s : Value} {n : Nat} {xs : List Value} (h : w.ownsRow B e k s n xs) : ∃ a c, s = .slice a n c := by
  rcases h.2 with ⟨h1, h2⟩ | ⟨g, cap, cur, h1, _⟩
  · exact ⟨_, _, by rw [h1, h2]⟩
  · exact ⟨_, _, h1⟩

theorem three_at (w : World) (o0 o1 o2 : Obj) : (((w.alloc o0).alloc o1).alloc o2).heap[w.heap.size]? = some o0 ∧ (((w.alloc o0).alloc o1).alloc o2).heap[w.heap.size + 1]? = some o1 ∧ (((w.alloc o0).alloc o1).alloc o2).heap[w.heap.size + 1 + 1]? = some o2 ∧
    Below w.heap.size w (((w.alloc o0).alloc o1).alloc o2) ∧ (((w.alloc o0).alloc o1).alloc o2).heap.size = w.heap.size + 3 := by
  refine ⟨?_, ?_, ?_, ((balloc _ _).alloc (by simp) _).alloc (by simp; omega) _, by simp⟩
  · rw [Below.heap_alloc _ _ _ (by simp; omega), Below.heap_alloc _ _ _ (by simp)]
    show ((_ : Array Obj).push _)[_]? = _
    simp
  · rw [Below.heap_alloc _ _ _ (by simp)]
    show ((_ : Array Obj).push _)[_]? = _
    rw [Array.getElem?_push, if_pos (by simp)]
  · show ((_ : Array Obj).push _)[_]? = _
    rw [Array.getElem?_push, if_pos (by simp)]

theorem setCell_at {w : World} {g o : Nat} {cs : Array Value} {t : TypeId} (v : Value) (h : w.heap[g]? = some (.cells cs t (0, 0))) : (w.setCell ⟨g, o, none⟩ v).heap[g]? = some (.cells (cs.setIfInBounds o v) t (0, 0)) := by
  rw [setCell_eq_setRow w g o cs t (0, 0) v h]
  exact setRow_heap w g cs _ t _ h

/-- A round's end: the row has one more, and the copy's box holds it. -/
structure CopyAt (w : World) (b t : Int) (s : Value) (l : List Itm) (m : Nat) (sv : Value) (wr : World) : Prop where
  le : m ≤ l.length
  below : Below w.heap.size w wr
  n0 : wr.heap[w.heap.size]? = some (logO b t s)
  n1 : wr.heap[w.heap.size + 1]? = some (logO 0 0 (.slice none 0 0))
  n2 : wr.heap[w.heap.size + 2]? = some (logO b t sv)
  own : OwnI (w.heap.size + 3) wr sv (l.take m)

theorem CopyAt.next {w wr w1 : World} {b t : Int} {s sv v' : Value} {l : List Itm} {m : Nat} {o : Obj} (h : CopyAt w b t s l m sv wr) (hlt : m < l.length) (hsz : w.heap.size + 3 ≤ wr.heap.size)
    (hown : w1.ownsRow (w.heap.size + 3) 46 10 v' (m + 1) ((l.take m).flatMap encIt ++ encIt l[m])) (hg : (wr.alloc o).grownBy w1 sv.ownBlock) : CopyAt w b t s l (m + 1) v' (w1.setCell ⟨w.heap.size + 2, 2, none⟩ v') := by
  have hO : (wr.alloc o).ownsRow (w.heap.size + 3) 46 10 sv (l.take m).length ((l.take m).flatMap encIt) := World.ownsRow.alloc h.own o
  have k : ∀ {bk : Nat} {cs : Array Value}, wr.heap[bk]? = some (.cells cs 24 (0, 0)) → w1.heap[bk]? = some (.cells cs 24 (0, 0)) := fun {bk cs} hn =>
    log_kept (A := []) hO ((Below.heap_alloc _ _ _ (lt_at hn)).trans hn) hg
  have hB1 : Below w.heap.size w w1 := (h.below.alloc h.below.size o).grown hg (by simp; omega) (fun j hj => by have := (World.ownsRow.lt hO j hj).1; omega)
  refine ⟨hlt, hB1.setCell (by simp) _, ?_, ?_, setCell_at v' (k h.n2), ?_⟩
  · exact (Below.heap_setCell _ _ _ _ (by simp)).trans (k h.n0)
  · exact (Below.heap_setCell _ _ _ _ (by simp)).trans (k h.n1)
  · refine OwnI.setCell ?_ (by simp) _
    rw [List.take_succ_eq_append_getElem hlt]
    refine OwnI.snoc ?_
    rw [List.length_take, Nat.min_eq_left (by omega)]
    exact hown

theorem CopyAt.cells {w wr w1 : World} {b t : Int} {s sv : Value} {l : List Itm} {m : Nat} {o : Obj} (h : CopyAt w b t s l m sv wr) (hg : (wr.alloc o).grownBy w1 sv.ownBlock) :
    (∀ j, w1.cell? ⟨w.heap.size + 2, j, none⟩ = #[Value.int .i64 b, Value.int .i64 t, sv][j]?) ∧ (∀ j, w1.frozen? ⟨w.heap.size + 2, j, none⟩ = false) :=
  cellsB (log_kept (A := []) (World.ownsRow.alloc h.own o) ((Below.heap_alloc _ _ _ (lt_at h.n2)).trans h.n2) hg)

set_option maxHeartbeats 8000000 in
theorem logCopy_any (b t : Int) (s : Value) (l : List Itm) (w : World) (hr : RowI w s l) (hby : l.length * 104 ≤ 140737488355328) :
    Calls Try.prog 5 #[logV b t s] w fun e w' => ∃ r, e = .returned (logV b t r) ∧ OwnI w.heap.size w' r l ∧ Below w.heap.size w w' := by
  obtain ⟨hl, a, cap, rfl, h1, h2, h3⟩ := hr
  obtain ⟨i0, hi, hz0, hz1, hz2⟩ := info_parts info_item
  go_enter Try.func5, Try.ntmps5
  go_wp2
  obtain ⟨n0, n1, n2, hB0, hs0⟩ := three_at w (logO b t (.slice a l.length cap)) (logO 0 0 (.slice none 0 0)) (logO b t (.slice none 0 0))
  generalize ((w.alloc (logO b t (.slice a l.length cap))).alloc (logO 0 0 (.slice none 0 0))).alloc (logO b t (.slice none 0 0)) = V at n0 n1 n2 hB0 hs0 ⊢
  have st : CopyAt w b t (.slice a l.length cap) l 0 (.slice none 0 0) V := ⟨by omega, hB0, n0, n1, n2, by simpa using OwnI.nil _ _⟩
  clear n0 n1 n2 hB0
  rw [show w.heap.size + 1 + 1 = w.heap.size + 2 from rfl]
  go_loopw [4] (fun c wr => ∃ (m : Nat) (sv : Value), c = .int .i64 (m : Int) ∧ CopyAt w b t (.slice a l.length cap) l m sv wr ∧ w.heap.size + 3 ≤ wr.heap.size) (fun c _ => l.length - (intOf c).toNat)
  case atStart => exact ⟨0, _, by simp, st, by omega⟩
  case round =>
    obtain ⟨m, sv, rfl, hst, hsz⟩ := hrel
    clear st hs0
    obtain ⟨q0, f0⟩ := cellsB hst.n0
    obtain ⟨q2, f2⟩ := cellsB hst.n2
    obtain ⟨sa, sc, hsv⟩ := hst.own.shape
    by_cases hlt : m < l.length
    · rw [List.length_take, Nat.min_eq_left (by omega)] at hsv
      subst hsv
      have hi0 : (m : Int) < (l.length : Int) := by omega
      rcases h3 with rfl | ⟨bk, off, rfl, hbk, hc⟩
      · simp at hlt
      · have hcw : ∀ i (h : i < l.length) (c : Nat), c < 10 → wr.cell? ⟨bk, off + i * 10 + c, none⟩ = (encIt l[i])[c]? := fun i hi c hk => (hst.below.cell (p := ⟨bk, off + i * 10 + c, none⟩) hbk).trans (hc i hi c hk)
        obtain ⟨c0, c1, c2, c3, c4, c5, c6, c7, c8, c9⟩ := RowAt.ten hcw m hlt
        clear hcw hc
        have HST : Hid (CopyAt w b t (.slice (some ⟨bk, off, none⟩) l.length cap) l m (.slice sa m sc) wr) := hst
        have HO : Hid (wr.ownsRow (w.heap.size + 3) 46 10 (.slice sa m sc) m ((l.take m).flatMap encIt)) := by
          have := hst.own; rw [OwnI, List.length_take, Nat.min_eq_left (by omega)] at this; exact this
        have HN : Hid (∀ v' w1 o, w1.ownsRow (w.heap.size + 3) 46 10 v' (m + 1) ((l.take m).flatMap encIt ++ encIt l[m]) → (wr.alloc o).grownBy w1 (Value.slice sa m sc).ownBlock → CopyAt w b t (.slice (some ⟨bk, off, none⟩) l.length cap) l (m + 1) v' (w1.setCell ⟨w.heap.size + 2, 2, none⟩ v')) := fun v' w1 o h1 h2 => CopyAt.next hst hlt hsz h1 h2
        have hlit := lit_cells (W := wr) (cs := encIt l[m]) (t := 46)
        generalize l[m] = x at *
        obtain ⟨xt, xu, xp, xcl, xseq, ck, ckey, cfld, ctxt, cn⟩ := x
        simp only at *
        have HLIT : Hid (∀ (j : Nat) (u : Value), (encIt ⟨xt, xu, xp, xcl, xseq, ⟨ck, ckey, cfld, ctxt, cn⟩⟩)[j]? = some u → (wr.alloc (itemO xt xu xp xcl xseq ck ckey cfld ctxt cn)).cell? ((⟨wr.heap.size, 0, none⟩ : Addr).add j) = some u) := hlit
        have hm63 : m + 1 ≤ maxLen := by unfold maxLen; omega
        have hm47 : (m + 1) * 104 ≤ 140737488355328 := by omega
        have hzz : w.heap.size + 2 < wr.heap.size := by omega
        clear hst hlit hsz
        go_wp2_with fail
        go_region_law (refine step_append_own rfl (.tmp 18) (.tmp 24) 22 rfl (w.heap.size + 3) 46 i0 zeroIt 10 104 Try.underlying22 hi hz0 hz1 hz2 rfl (by decide) (.slice sa m sc) m ((l.take m).flatMap encIt) (by simp [Act.eval]) (World.ownsRow.alloc HO.out (itemO xt xu xp xcl xseq ck ckey cfld ctxt cn)) ⟨wr.heap.size, 0, none⟩ 1 1 (encIt ⟨xt, xu, xp, xcl, xseq, ⟨ck, ckey, cfld, ctxt, cn⟩⟩) (by simp [Act.eval]) rfl HLIT.out (oneIt _) hm63 hm47 (by simp; omega) ?_; intro v' w1 hown1 hg1; have hg2 := grown_undrew hg1; obtain ⟨va, vc, rfl⟩ := row_shape hown1; obtain ⟨y1, y2⟩ := CopyAt.cells HST.out hg2)
        all_goals
          have hnx := HN.out _ _ _ hown1 hg2
          have hwz : w.heap.size + 3 ≤ w1.heap.size := by have := hg2.size; simp at this; omega
          clear hown1 hg1 hg2 y1 y2
          go_wp2_with fail
          exact ⟨⟨m + 1, _, by go_num, hnx, by simpa [World.setCell] using hwz⟩, by simp [intOf]; omega⟩
    · have hge : ¬ (m : Int) < (l.length : Int) := by omega
      have hml : m = l.length := by have := hst.le; omega
      have ho := hst.own
      rw [hml, List.take_length] at ho
      rw [List.length_take, Nat.min_eq_left (by omega)] at hsv
      subst hsv
      obtain ⟨q1, f1⟩ := cellsB hst.n1
      have hb := hst.below
      have z1 : w.heap.size + 1 < wr.heap.size := by omega
      have z2 : w.heap.size + 2 < wr.heap.size := by omega
      clear h3 hst
      go_wp2_with fail
      refine bodyPost_ret (v := logV b t (.slice sa m sc)) (by simp [results, Try.results5, go_sem, q1]; omega) rfl ⟨_, rfl, ?_, ?_⟩
      · refine OwnI.base (B := w.heap.size + 3) ?_ (by omega)
        refine OwnI.setCell (OwnI.setCell (OwnI.setCell ho ?_ _) ?_ _) ?_ _ <;> (show w.heap.size + 1 < w.heap.size + 3; omega)
      · exact ((hb.setCell (by simp) _).setCell (by simp) _).setCell (by simp) _
end Go.Proofs.Ytpbgadojocgefaa
