/- The document's answers on logs: Trimmed. -/
import Derived.Test.YtdpjganbielnkaaGf
import Derived.Test.YtdpjganbielnkaaHi
import Derived.Test.YtdpjganbielnkaaHe
namespace Go.Proofs.Ytdpjganbielnkaa
open Go.RowKit
set_option linter.unusedVariables false
set_option maxRecDepth 100000

set_option maxHeartbeats 8000000 in
theorem trimmed_bad (g : Lg) (s : Value) (p : Int) (w : World) (hr : RowI w s g.items) (h0 : g.trimE p ≠ 0) :
    Calls Try.prog 40 #[logV g.base g.term s, .int .i64 p] w fun x w' => x = .returned (.tuple #[logV 0 0 (.slice none 0 0), .int .i64 (g.trimE p)]) ∧ Below w.heap.size w w' := by
  have hC := fun W (hW : Below w.heap.size w W) => logFault_any g s W (hr.below hW)
  cases hk : g.okB with
  | false =>
    rw [fault_not hk] at hC
    have he : g.trimE p = 13 := by simp [Lg.trimE, hk]
    rw [he]
    have HC : Hid (∀ W, Below w.heap.size w W → Calls Try.prog 25 #[logV g.base g.term s] W fun e w' => e = .returned (.int .i64 13) ∧ Below W.heap.size W w') := hC
    obtain ⟨b, t, l⟩ := g
    simp only at *
    clear hC hr h0 he
    go_enter Try.func40, Try.ntmps40
    go_wp2_with fail
    obtain ⟨n0, n1, hB0, hs0⟩ := two_at w (logO b t s) (logO 0 0 (.slice none 0 0))
    generalize (w.alloc (logO b t s)).alloc (logO 0 0 (.slice none 0 0)) = V at n0 n1 hB0 hs0 ⊢
    refine (HC.out _ hB0).mono ?_
    rintro e w1 ⟨rfl, hb1⟩
    have hB1 := bstep hB0 hb1
    have m1 := (hb1.block _ (lt_at n1)).trans n1
    obtain ⟨c1, f1⟩ := cellsB m1
    have hz1 := lt_at m1
    clear hb1 n0 n1 hB0 hs0
    go_wp2_with fail
    refine bodyPost_ret (v := .tuple #[logV 0 0 (.slice none 0 0), .int .i64 13]) (by simp [results, Try.results40, go_sem, c1]) rfl ⟨rfl, ?_⟩
    first | exact hB1 | exact ((hB1.setCell (by simp) _).setCell (by simp) _).setCell (by simp) _
  | true =>
    rw [fault_yes hk] at hC
    have hle := okB_le hk
    have he : g.trimE p = heldI g.base g.last p := by simp [Lg.trimE, hk]
    rw [he] at h0 ⊢
    have HC : Hid (∀ W, Below w.heap.size w W → Calls Try.prog 25 #[logV g.base g.term s] W fun e w' => e = .returned (.int .i64 0) ∧ Below W.heap.size W w') := hC
    have hT := fun W (hW : Below w.heap.size w W) => refTermAt_any g s p W (hr.below hW) hle.1 hle.2.1
    have hcase : (g.tAt p = -1 ∧ heldI g.base g.last p = 11) ∨ (g.tAt p = -2 ∧ heldI g.base g.last p = 5) := by
      unfold Lg.tAt heldI at *
      by_cases x1 : p < g.base
      · exact .inl ⟨by rw [if_pos x1], by rw [if_pos x1]⟩
      · by_cases x2 : g.last < p
        · exact .inr ⟨by rw [if_neg x1, if_pos x2], by rw [if_neg x1, if_pos x2]⟩
        · rw [if_neg x1, if_neg x2] at h0; exact absurd rfl h0
    generalize g.tAt p = T at *
    generalize heldI g.base g.last p = e0 at *
    obtain ⟨b, t, l⟩ := g
    simp only at *
    have HT : Hid (∀ W, Below w.heap.size w W → Calls Try.prog 54 #[logV b t s, .int .i64 p] W fun e w' => e = .returned (.int .i64 T) ∧ Below W.heap.size W w') := hT
    clear hC hr h0 he hle hk hT
    rcases hcase with ⟨rfl, rfl⟩ | ⟨rfl, rfl⟩
    · go_enter Try.func40, Try.ntmps40
      go_wp2_with fail
      obtain ⟨n0, n1, hB0, hs0⟩ := two_at w (logO b t s) (logO 0 0 (.slice none 0 0))
      generalize (w.alloc (logO b t s)).alloc (logO 0 0 (.slice none 0 0)) = V at n0 n1 hB0 hs0 ⊢
      refine (HC.out _ hB0).mono ?_
      rintro e w1 ⟨rfl, hb1⟩
      have hB1 := bstep hB0 hb1
      have m0 := (hb1.block _ (lt_at n0)).trans n0
      have m1 := (hb1.block _ (lt_at n1)).trans n1
      obtain ⟨c0, f0⟩ := cellsB m0
      clear hb1 n0 n1 hB0 hs0 HC
      go_wp2_with fail
      refine (HT.out _ hB1).mono ?_
      rintro e w2 ⟨rfl, hb2⟩
      have hB2 := bstep hB1 hb2
      have k1 := (hb2.block _ (lt_at m1)).trans m1
      clear hb2 c0 f0 m0 m1 hB1
      obtain ⟨c1, f1⟩ := cellsB k1
      have hz1 := lt_at k1
      go_wp2_with fail
      refine bodyPost_ret (v := .tuple #[logV 0 0 (.slice none 0 0), .int .i64 11]) (by simp [results, Try.results40, go_sem, c1]) rfl ⟨rfl, ?_⟩
      first | exact hB2 | exact ((hB2.setCell (by simp) _).setCell (by simp) _).setCell (by simp) _
    · go_enter Try.func40, Try.ntmps40
      go_wp2_with fail
      obtain ⟨n0, n1, hB0, hs0⟩ := two_at w (logO b t s) (logO 0 0 (.slice none 0 0))
      generalize (w.alloc (logO b t s)).alloc (logO 0 0 (.slice none 0 0)) = V at n0 n1 hB0 hs0 ⊢
      refine (HC.out _ hB0).mono ?_
      rintro e w1 ⟨rfl, hb1⟩
      have hB1 := bstep hB0 hb1
      have m0 := (hb1.block _ (lt_at n0)).trans n0
      have m1 := (hb1.block _ (lt_at n1)).trans n1
      obtain ⟨c0, f0⟩ := cellsB m0
      clear hb1 n0 n1 hB0 hs0 HC
      go_wp2_with fail
      refine (HT.out _ hB1).mono ?_
      rintro e w2 ⟨rfl, hb2⟩
      have hB2 := bstep hB1 hb2
      have k1 := (hb2.block _ (lt_at m1)).trans m1
      clear hb2 c0 f0 m0 m1 hB1
      obtain ⟨c1, f1⟩ := cellsB k1
      have hz1 := lt_at k1
      go_wp2_with fail
      refine bodyPost_ret (v := .tuple #[logV 0 0 (.slice none 0 0), .int .i64 5]) (by simp [results, Try.results40, go_sem, c1]) rfl ⟨rfl, ?_⟩
      first | exact hB2 | exact ((hB2.setCell (by simp) _).setCell (by simp) _).setCell (by simp) _

/-- A round's end: the row has one more, and the new log's box holds it. -/
structure TrimAt (w : World) (b t p T : Int) (s : Value) (bo : Nat) (L : List Itm) (m : Nat) (sv : Value) (wr : World) : Prop where
  le : m ≤ L.length
  below : Below w.heap.size w wr
  n0 : wr.heap[w.heap.size]? = some (logO b t s)
  n1 : wr.heap[w.heap.size + 1]? = some (logO 0 0 (.slice none 0 0))
  n2 : wr.heap[bo]? = some (logO p T sv)
  own : OwnI (bo + 1) wr sv (L.take m)
  size : bo + 1 ≤ wr.heap.size

theorem TrimAt.next {w wr w1 : World} {b t p T : Int} {s sv v' : Value} {bo : Nat} {L : List Itm} {m : Nat} {o : Obj} (h : TrimAt w b t p T s bo L m sv wr) (hbo : w.heap.size + 1 < bo) (hlt : m < L.length)
    (hown : w1.ownsRow (bo + 1) 55 10 v' (m + 1) ((L.take m).flatMap encIt ++ encIt L[m])) (hg : (wr.alloc o).grownBy w1 sv.ownBlock) : TrimAt w b t p T s bo L (m + 1) v' (w1.setCell ⟨bo, 2, none⟩ v') := by
  have hsz := h.size
  have hO : (wr.alloc o).ownsRow (bo + 1) 55 10 sv (L.take m).length ((L.take m).flatMap encIt) := World.ownsRow.alloc h.own o
  have k : ∀ {bk : Nat} {cs : Array Value}, wr.heap[bk]? = some (.cells cs 24 (0, 0)) → w1.heap[bk]? = some (.cells cs 24 (0, 0)) := fun {bk cs} hn =>
    log_kept (A := []) hO ((Below.heap_alloc _ _ _ (lt_at hn)).trans hn) hg
  have hB1 : Below w.heap.size w w1 := (h.below.alloc h.below.size o).grown hg (by simp; omega) (fun j hj => by have := (World.ownsRow.lt hO j hj).1; omega)
  refine ⟨hlt, hB1.setCell (by show w.heap.size ≤ bo; omega) _, ?_, ?_, setCell_at v' (k h.n2), ?_, ?_⟩
  · exact (Below.heap_setCell _ _ _ _ (by show w.heap.size ≠ bo; omega)).trans (k h.n0)
  · exact (Below.heap_setCell _ _ _ _ (by show w.heap.size + 1 ≠ bo; omega)).trans (k h.n1)
  · refine OwnI.setCell ?_ (Nat.lt_succ_self _) _
    rw [List.take_succ_eq_append_getElem hlt]
    refine OwnI.snoc ?_
    rw [List.length_take, Nat.min_eq_left (by omega)]
    exact hown
  · have := hg.size; simp at this; simp [World.setCell]; omega
theorem TrimAt.cells {w wr w1 : World} {b t p T : Int} {s sv : Value} {bo : Nat} {L : List Itm} {m : Nat} {o : Obj} (h : TrimAt w b t p T s bo L m sv wr) (hg : (wr.alloc o).grownBy w1 sv.ownBlock) :
    (∀ j, w1.cell? ⟨bo, j, none⟩ = #[Value.int .i64 p, Value.int .i64 T, sv][j]?) ∧ (∀ j, w1.frozen? ⟨bo, j, none⟩ = false) :=
  cellsB (log_kept (A := []) (World.ownsRow.alloc h.own o) ((Below.heap_alloc _ _ _ (lt_at h.n2)).trans h.n2) hg)
theorem TrimAt.kept {w wr w1 : World} {b t p T : Int} {s sv : Value} {bo : Nat} {L : List Itm} {m : Nat} (h : TrimAt w b t p T s bo L m sv wr) (hb : Below wr.heap.size wr w1) : TrimAt w b t p T s bo L m sv w1 :=
  ⟨h.le, bstep h.below hb, (hb.block _ (lt_at h.n0)).trans h.n0, (hb.block _ (lt_at h.n1)).trans h.n1, (hb.block _ (lt_at h.n2)).trans h.n2, OwnI.kept h.own hb, Nat.le_trans h.size hb.size⟩

set_option maxHeartbeats 16000000 in
theorem trimmed_ok (g : Lg) (s : Value) (k : Nat) (w : World) (hr : RowI w s g.items) (hk : g.okB = true) (hkl : k ≤ g.items.length) :
    Calls Try.prog 40 #[logV g.base g.term s, .int .i64 (g.base + k)] w fun x w' => ∃ r, x = .returned (.tuple #[logV (g.base + k) (g.termAt (g.base + k)) r, .int .i64 0]) ∧ OwnI w.heap.size w' r (g.items.drop k) ∧ Below w.heap.size w w' := by
  have hC := fun W (hW : Below w.heap.size w W) => logFault_any g s W (hr.below hW)
  rw [fault_yes hk] at hC
  have hle := okB_le hk
  have hT := fun W (hW : Below w.heap.size w W) => refTermAt_ok g s (g.base + k) W (hr.below hW) hle.1 hle.2.1 (by omega) (by omega)
  have hnn := termAt_nonneg hk (g.base + k)
  generalize g.termAt (g.base + k) = T at *
  have HC : Hid (∀ W, Below w.heap.size w W → Calls Try.prog 25 #[logV g.base g.term s] W fun e w' => e = .returned (.int .i64 0) ∧ Below W.heap.size W w') := hC
  have HT : Hid (∀ W, Below w.heap.size w W → Calls Try.prog 54 #[logV g.base g.term s, .int .i64 (g.base + k)] W fun e w' => e = .returned (.int .i64 T) ∧ Below W.heap.size W w') := hT
  obtain ⟨i0, hi, hz0, hz1, hz2⟩ := info_parts info_item
  obtain ⟨b, t, l⟩ := g
  simp only at *
  obtain ⟨hl, a, cap, rfl, h1, h2, h3⟩ := hr
  have HLo : Hid (∀ W, Calls Try.prog 53 #[logV b t (.slice a l.length cap)] W fun e w' => e = .returned (.int .i64 (b + l.length)) ∧ Below W.heap.size W w') := fun W => lastOf_ok _ _ _ _ _ W hle.1 hle.2.1
  have hb0 : 0 ≤ b := hle.1
  have hb9 : b + l.length ≤ 1048576 := hle.2.1
  have hll : l.length ≤ 200 := hle.2.2.1
  have hdl : (l.drop k).length = l.length - k := by simp
  have HDL : Hid ((l.drop k).length = l.length - k) := hdl
  have q1 : (T == -1) = false := by simp; omega
  have q2 : (T == -2) = false := by simp; omega
  clear hC hle hk hT hdl
  go_enter Try.func40, Try.ntmps40
  go_wp2_with fail
  obtain ⟨n0, n1, hB0, hs0⟩ := two_at w (logO b t (.slice a l.length cap)) (logO 0 0 (.slice none 0 0))
  generalize (w.alloc (logO b t (.slice a l.length cap))).alloc (logO 0 0 (.slice none 0 0)) = V at n0 n1 hB0 hs0 ⊢
  refine (HC.out _ hB0).mono ?_
  rintro e w1 ⟨rfl, hb1⟩
  have hB1 := bstep hB0 hb1
  have m0 := (hb1.block _ (lt_at n0)).trans n0
  have m1 := (hb1.block _ (lt_at n1)).trans n1
  obtain ⟨c0, f0⟩ := cellsB m0
  clear hb1 n0 n1 hB0 hs0 HC
  go_wp2_with fail
  refine (HT.out _ hB1).mono ?_
  rintro e w2 ⟨rfl, hb2⟩
  have hB2 := bstep hB1 hb2
  have k0 := (hb2.block _ (lt_at m0)).trans m0
  have k1 := (hb2.block _ (lt_at m1)).trans m1
  clear hb2 c0 f0 m0 m1 hB1 HT
  go_wp2_with fail
  have st : TrimAt w b t (b + k) T (.slice a l.length cap) w2.heap.size (l.drop k) 0 (.slice none 0 0) (w2.alloc (logO (b + k) T (.slice none 0 0))) :=
    ⟨by omega, hB2.alloc hB2.size _, (Below.heap_alloc _ _ _ (lt_at k0)).trans k0, (Below.heap_alloc _ _ _ (lt_at k1)).trans k1, alloc_at _ _, by simpa using OwnI.nil _ _, by simp⟩
  have hbo : w.heap.size + 1 < w2.heap.size := lt_at k1
  clear k0 k1 hB2
  generalize w2.alloc (logO (b + k) T (.slice none 0 0)) = V2 at st ⊢
  generalize w2.heap.size = bo at st hbo ⊢
  go_loopw [9] (fun c wr => ∃ (m : Nat) (sv : Value), c = .int .i64 (b + k + 1 + m) ∧ TrimAt w b t (b + k) T (.slice a l.length cap) bo (l.drop k) m sv wr) (fun c _ => (b + l.length + 1 - intOf c).toNat)
  case atStart => exact ⟨0, _, by simp, st⟩
  case round =>
    obtain ⟨m, sv, rfl, hst0⟩ := hrel
    clear st
    obtain ⟨q0, f0⟩ := cellsB hst0.n0
    have hzn := lt_at hst0.n0
    go_wp2_with fail
    refine (HLo.out _).mono ?_
    rintro x w3 ⟨rfl, hb3⟩
    have hst := hst0.kept hb3
    clear hst0 q0 f0 hzn hb3
    obtain ⟨q0, f0⟩ := cellsB hst.n0
    obtain ⟨q3, f3⟩ := cellsB hst.n2
    have hz9 := lt_at hst.n0
    have hzo := lt_at hst.n2
    obtain ⟨sa, sc, hsv⟩ := hst.own.shape
    have hml := hst.le
    rw [HDL.out] at hml
    rw [List.length_take, HDL.out, Nat.min_eq_left (by omega)] at hsv
    subst hsv
    by_cases hlt : m < l.length - k
    · have hkm : k + m < l.length := by omega
      rcases h3 with rfl | ⟨bk, off, rfl, hbk, hc⟩
      · simp at hkm
      · have hcw : ∀ i (h : i < l.length) (c : Nat), c < 10 → w3.cell? ⟨bk, off + i * 10 + c, none⟩ = (encIt l[i])[c]? := fun i hi c hk => (hst.below.cell (p := ⟨bk, off + i * 10 + c, none⟩) hbk).trans (hc i hi c hk)
        obtain ⟨e0, e1, e2, e3, e4, e5, e6, e7, e8, e9⟩ := RowAt.ten hcw (k + m) hkm
        clear hc hcw
        have HST : Hid (TrimAt w b t (b + k) T (.slice (some ⟨bk, off, none⟩) l.length cap) bo (l.drop k) m (.slice sa m sc) w3) := hst
        have HO : Hid (w3.ownsRow (bo + 1) 55 10 (.slice sa m sc) m (((l.drop k).take m).flatMap encIt)) := by
          have := hst.own; rw [OwnI, List.length_take, HDL.out, Nat.min_eq_left (by omega)] at this; exact this
        have hget : (l.drop k)[m]'(by rw [HDL.out]; exact hlt) = l[k + m] := by simp
        have HN : Hid (∀ v' w1 o, w1.ownsRow (bo + 1) 55 10 v' (m + 1) (((l.drop k).take m).flatMap encIt ++ encIt l[k + m]) → (w3.alloc o).grownBy w1 (Value.slice sa m sc).ownBlock → TrimAt w b t (b + k) T (.slice (some ⟨bk, off, none⟩) l.length cap) bo (l.drop k) (m + 1) v' (w1.setCell ⟨bo, 2, none⟩ v')) := fun v' w1 o h1 h2 => TrimAt.next hst hbo (by rw [HDL.out]; exact hlt) (by rw [hget]; exact h1) h2
        have hlit := lit_cells (W := w3) (cs := encIt l[k + m]) (t := 55)
        clear hget
        have hj : b + (k : Int) + 1 + m ≤ b + l.length := by omega
        have hix : IntKind.i64.wrap (b + (k : Int) + 1 + m - b) = ((k + m : Nat) : Int) + 1 := by rw [IntKind.wrap_i64]; omega
        have hiy : IntKind.i64.wrap (((k + m : Nat) : Int) + 1 - 1) = ((k + m : Nat) : Int) := by rw [IntKind.wrap_i64]; omega
        have hi0 : ((k + m : Nat) : Int) < (l.length : Int) := by omega
        generalize l[k + m] = y at *
        obtain ⟨xt, xu, xp, xcl, xseq, ck, ckey, cfld, ctxt, cn⟩ := y
        generalize hkm0 : k + m = j at *
        have HKM : Hid (k + m = j) := hkm0
        have hwj : IntKind.i64.wrap (j : Int) = j := by rw [IntKind.wrap_i64]; omega
        simp only at *
        have HLIT : Hid (∀ (j : Nat) (u : Value), (encIt ⟨xt, xu, xp, xcl, xseq, ⟨ck, ckey, cfld, ctxt, cn⟩⟩)[j]? = some u → (w3.alloc (itemO xt xu xp xcl xseq ck ckey cfld ctxt cn)).cell? ((⟨w3.heap.size, 0, none⟩ : Addr).add j) = some u) := hlit
        have hm63 : m + 1 ≤ maxLen := by unfold maxLen; omega
        have hm47 : (m + 1) * 104 ≤ 140737488355328 := by omega
        have hne1 : ¬ bo = w.heap.size := by omega
        have hne2 : ¬ w.heap.size = bo := by omega
        clear hst hlit hkm0
        go_wp2_with fail
        go_region_law (refine step_append_own rfl (.tmp 37) (.tmp 47) 22 rfl (bo + 1) 55 i0 zeroIt 10 104 Try.underlying22 hi hz0 hz1 hz2 rfl (by decide) (.slice sa m sc) m (((l.drop k).take m).flatMap encIt) (by simp [Act.eval]) (World.ownsRow.alloc HO.out (itemO xt xu xp xcl xseq ck ckey cfld ctxt cn)) ⟨w3.heap.size, 0, none⟩ 1 1 (encIt ⟨xt, xu, xp, xcl, xseq, ⟨ck, ckey, cfld, ctxt, cn⟩⟩) (by simp [Act.eval]) rfl HLIT.out (oneIt _) hm63 hm47 (by simp; omega) ?_; intro v' w1 hown1 hg1; have hg2 := grown_undrew hg1; obtain ⟨va, vc, rfl⟩ := row_shape hown1; obtain ⟨y1, y2⟩ := TrimAt.cells HST.out hg2)
        all_goals
          have hnx := HN.out _ _ _ hown1 hg2
          clear hown1 hg1 hg2 y1 y2
          go_wp2_with fail
          refine ⟨⟨m + 1, _, ?_, hnx⟩, by simp [intOf]; omega⟩
          first | go_num | (congr 1; omega)
    · have hmm : m = l.length - k := by omega
      have hj : ¬ b + (k : Int) + 1 + m ≤ b + l.length := by omega
      have ho := hst.own
      rw [List.take_of_length_le (by rw [HDL.out]; omega)] at ho
      obtain ⟨q4, f4⟩ := cellsB hst.n1
      have hz8 := lt_at hst.n1
      have hb := hst.below
      have HMM : Hid (m = l.length - k) := hmm
      clear h3 hst hmm
      go_wp2_with fail
      refine bodyPost_ret (v := .tuple #[logV (b + k) T (.slice sa m sc), .int .i64 0]) (by simp [results, Try.results40, go_sem, q4]) rfl ⟨_, rfl, ?_, ?_⟩
      · refine OwnI.base (B := bo + 1) ?_ (by omega)
        refine OwnI.setCell (OwnI.setCell (OwnI.setCell ho ?_ _) ?_ _) ?_ _ <;> (show w.heap.size + 1 < bo + 1; omega)
      · exact ((hb.setCell (by simp) _).setCell (by simp) _).setCell (by simp) _
end Go.Proofs.Ytdpjganbielnkaa
