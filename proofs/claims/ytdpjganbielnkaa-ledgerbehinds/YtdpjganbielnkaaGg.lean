/- The document's answers on logs: BehindOf. -/
import Derived.Test.YtdpjganbielnkaaGf
import Derived.Test.YtdpjganbielnkaaHg
namespace Go.Proofs.Ytdpjganbielnkaa
open Go.RowKit
set_option linter.unusedVariables false
set_option maxRecDepth 100000

/-- What Behind answers for an error. -/
def Lg.behE (g : Lg) (p most : Int) : Int := if g.okB = true then (if most < 0 then 2 else placeI g.base g.last p) else 13

theorem termR_err {g : Lg} (hk : g.okB = true) (p : Int) : (g.termR p).2 = placeI g.base g.last p := by
  unfold Lg.termR
  rw [if_pos hk]
  split
  · rename_i h; exact h.symm
  · rfl

set_option maxHeartbeats 8000000 in
theorem behindOf_bad (g : Lg) (s : Value) (p most : Int) (w : World) (hr : RowI w s g.items) (h0 : g.behE p most ≠ 0) :
    Calls Try.prog 31 #[logV g.base g.term s, .int .i64 p, .int .i64 most] w fun x w' => x = .returned (.tuple #[.slice none 0 0, .int .i64 (g.behE p most)]) ∧ Below w.heap.size w w' := by
  have hC := fun W (hW : Below w.heap.size w W) => logFault_any g s W (hr.below hW)
  have HN : Hid (∀ (W : World), Calls Try.prog 50 #[.int .i64 p, .int .i64 0, .int .i64 1048576] W fun e w' => e = .returned (.bool (inB p 0 1048576)) ∧ W = w') := fun W => inNum_any p W
  have hT := fun W (hW : Below w.heap.size w W) => termOf_any g s p W (hr.below hW)
  cases hk : g.okB with
  | false =>
    rw [fault_not hk] at hC
    have he : g.behE p most = 13 := by simp [Lg.behE, hk]
    rw [he]
    have HC : Hid (∀ W, Below w.heap.size w W → Calls Try.prog 25 #[logV g.base g.term s] W fun e w' => e = .returned (.int .i64 13) ∧ Below W.heap.size W w') := hC
    clear hC hr h0 hT he
    go_enter Try.func31, Try.ntmps31
    go_wp2_with fail
    refine (HC.out _ (balloc _ _)).mono ?_
    rintro e w1 ⟨rfl, hb1⟩
    have hB1 := bstep (balloc _ _) hb1
    go_wp2_with fail
    refine bodyPost_ret (v := .tuple #[.slice none 0 0, .int .i64 13]) (by simp [results, Try.results31, go_sem]) rfl ⟨rfl, hB1⟩
  | true =>
    rw [fault_yes hk] at hC
    have HC : Hid (∀ W, Below w.heap.size w W → Calls Try.prog 25 #[logV g.base g.term s] W fun e w' => e = .returned (.int .i64 0) ∧ Below W.heap.size W w') := hC
    have htr := termR_err hk p
    generalize (g.termR p).1 = q1 at hT
    rw [htr] at hT
    cases hin : inB p 0 1048576 with
    | false =>
      have hp : placeI g.base g.last p = 2 := by unfold placeI; rw [if_pos (by simp [inB] at hin; omega)]
      have he : g.behE p most = 2 := by simp [Lg.behE, hk, hp]
      rw [he]
      rw [hin] at HN
      clear hC hr h0 hT he hp hin htr hk
      go_enter Try.func31, Try.ntmps31
      go_wp2_with fail
      refine (HC.out _ (balloc _ _)).mono ?_
      rintro e w1 ⟨rfl, hb1⟩
      have hB1 := bstep (balloc _ _) hb1
      go_wp2_with fail
      refine (HN.out _).mono ?_
      rintro e w2 ⟨rfl, rfl⟩
      go_wp2_with fail
      refine bodyPost_ret (v := .tuple #[.slice none 0 0, .int .i64 2]) (by simp [results, Try.results31, go_sem]) rfl ⟨rfl, hB1⟩
    | true =>
      rw [hin] at HN
      by_cases hm : most < 0
      · have he : g.behE p most = 2 := by simp [Lg.behE, hk, hm]
        rw [he]
        clear hC hr h0 hT he hin htr hk
        go_enter Try.func31, Try.ntmps31
        go_wp2_with fail
        refine (HC.out _ (balloc _ _)).mono ?_
        rintro e w1 ⟨rfl, hb1⟩
        have hB1 := bstep (balloc _ _) hb1
        go_wp2_with fail
        refine (HN.out _).mono ?_
        rintro e w2 ⟨rfl, rfl⟩
        go_wp2_with fail
        refine bodyPost_ret (v := .tuple #[.slice none 0 0, .int .i64 2]) (by simp [results, Try.results31, go_sem]) rfl ⟨rfl, hB1⟩
      · have he : g.behE p most = placeI g.base g.last p := by simp [Lg.behE, hk, hm]
        rw [he] at h0 ⊢
        generalize placeI g.base g.last p = e0 at *
        have hq : (e0 != 0) = true := by simpa using h0
        have HT : Hid (∀ W, Below w.heap.size w W → Calls Try.prog 29 #[logV g.base g.term s, .int .i64 p] W fun e w' => e = .returned (.tuple #[.int .i64 q1, .int .i64 e0]) ∧ Below W.heap.size W w') := hT
        obtain ⟨b, t, l⟩ := g
        simp only at *
        clear hC hr h0 hT he hin htr hk
        go_enter Try.func31, Try.ntmps31
        go_wp2_with fail
        refine (HC.out _ (balloc _ _)).mono ?_
        rintro e w1 ⟨rfl, hb1⟩
        have hB1 := bstep (balloc _ _) hb1
        obtain ⟨d1, e1⟩ := same_block (hb1.block w.heap.size (by simp))
        have hz1 : w.heap.size < w1.heap.size := Nat.lt_of_lt_of_le (by simp) hb1.size
        clear hb1 HC
        go_wp2_with fail
        refine (HN.out _).mono ?_
        rintro e w2 ⟨rfl, rfl⟩
        go_wp2_with fail
        refine (HT.out _ hB1).mono ?_
        rintro e w2 ⟨rfl, hb2⟩
        have hB2 := bstep hB1 hb2
        go_wp2_with fail
        refine bodyPost_ret (v := .tuple #[.slice none 0 0, .int .i64 e0]) (by simp [results, Try.results31, go_sem]) rfl ⟨rfl, hB2⟩

set_option maxHeartbeats 8000000 in
theorem behindOf_ok (g : Lg) (s : Value) (k : Nat) (most : Int) (w : World) (hr : RowI w s g.items) (hk : g.okB = true) (hkl : k ≤ g.items.length) (hm : 0 ≤ most) :
    Calls Try.prog 31 #[logV g.base g.term s, .int .i64 (g.base + k), .int .i64 most] w fun x w' => ∃ r, x = .returned (.tuple #[r, .int .i64 0]) ∧ OwnI w.heap.size w' r ((g.items.drop k).take most.toNat) ∧ Below w.heap.size w w' := by
  have hC := fun W (hW : Below w.heap.size w W) => logFault_any g s W (hr.below hW)
  rw [fault_yes hk] at hC
  have hle := okB_le hk
  have hL : g.last = g.base + g.items.length := rfl
  have hp : placeI g.base g.last (g.base + k) = 0 := by unfold placeI heldI; rw [if_neg (by omega), if_neg (by omega), if_neg (by omega)]
  have hin : inB (g.base + k) 0 1048576 = true := by simp [inB]; omega
  have HN : Hid (∀ (W : World), Calls Try.prog 50 #[.int .i64 (g.base + k), .int .i64 0, .int .i64 1048576] W fun e w' => e = .returned (.bool true) ∧ W = w') := fun W => by rw [← hin]; exact inNum_any _ W
  have hT := fun W (hW : Below w.heap.size w W) => termOf_any g s (g.base + k) W (hr.below hW)
  have htr := termR_err hk (g.base + k)
  rw [hp] at htr
  generalize (g.termR (g.base + k)).1 = q1 at hT
  rw [htr] at hT
  have HC : Hid (∀ W, Below w.heap.size w W → Calls Try.prog 25 #[logV g.base g.term s] W fun e w' => e = .returned (.int .i64 0) ∧ Below W.heap.size W w') := hC
  obtain ⟨i0, hi, hz0, hz1, hz2⟩ := info_parts info_item
  obtain ⟨b, t, l⟩ := g
  simp only at *
  obtain ⟨hl, a, cap, rfl, h1, h2, h3⟩ := hr
  have HT : Hid (∀ W, Below w.heap.size w W → Calls Try.prog 29 #[logV b t (.slice a l.length cap), .int .i64 (b + k)] W fun e w' => e = .returned (.tuple #[.int .i64 q1, .int .i64 0]) ∧ Below W.heap.size W w') := hT
  have HLo : Hid (∀ W, Calls Try.prog 53 #[logV b t (.slice a l.length cap)] W fun e w' => e = .returned (.int .i64 (b + l.length)) ∧ Below W.heap.size W w') := fun W => lastOf_ok _ _ _ _ _ W hle.1 hle.2.1
  have hb0 : 0 ≤ b := hle.1
  have hb9 : b + l.length ≤ 1048576 := hle.2.1
  have hll : l.length ≤ 200 := hle.2.2.1
  clear hC hle hk hL hp hin htr hT
  go_enter Try.func31, Try.ntmps31
  go_wp2_with fail
  refine (HC.out _ (balloc _ _)).mono ?_
  rintro x w1 ⟨rfl, hb1⟩
  have hB1 := bstep (balloc _ _) hb1
  have n1 := (hb1.block w.heap.size (by simp)).trans (alloc_at w (logO b t (.slice a l.length cap)))
  clear hb1 HC
  obtain ⟨c1, f1⟩ := cellsB n1
  go_wp2_with fail
  refine (HN.out _).mono ?_
  rintro x w2 ⟨rfl, rfl⟩
  go_wp2_with fail
  refine (HT.out _ hB1).mono ?_
  rintro x w2 ⟨rfl, hb2⟩
  have hB2 := bstep hB1 hb2
  have n2 := (hb2.block w.heap.size (lt_at n1)).trans n1
  clear hb2 HT HN c1 f1 n1 hB1
  go_wp2_with fail
  go_loopw [9, 10] (fun sv c wr => ∃ (m : Nat), c = .int .i64 (b + k + 1 + m) ∧ m ≤ l.length - k ∧ (m : Int) ≤ most ∧ Below w.heap.size w wr ∧ wr.heap[w.heap.size]? = some (logO b t (.slice a l.length cap)) ∧ OwnI (w.heap.size + 1) wr sv ((l.drop k).take m)) (fun _ c _ => (b + l.length + 1 - intOf c).toNat)
  case atStart => exact ⟨0, by simp, by omega, by omega, hB2, n2, by simpa using OwnI.nil _ _⟩
  case round =>
    obtain ⟨m, rfl, hm1, hm2, hb, hn, hown⟩ := hrel
    clear n2 hB2
    have hpl : ((l.drop k).take m).length = m := by simp; omega
    obtain ⟨sa, sc, hsv⟩ := hown.shape
    rw [hpl] at hsv
    subst hsv
    have HO : Hid (wr.ownsRow (w.heap.size + 1) 55 10 (.slice sa m sc) m (((l.drop k).take m).flatMap encIt)) := by
      have := hown; rw [OwnI, hpl] at this; exact this
    clear hown hpl
    obtain ⟨c2, f2⟩ := cellsB hn
    have hzn := lt_at hn
    go_wp2_with fail
    refine (HLo.out _).mono ?_
    rintro x w3 ⟨rfl, hb3⟩
    have hB3 := bstep hb hb3
    have n3 := (hb3.block w.heap.size hzn).trans hn
    have HO3 : Hid (w3.ownsRow (w.heap.size + 1) 55 10 (.slice sa m sc) m (((l.drop k).take m).flatMap encIt)) := by
      have hpl : ((l.drop k).take m).length = m := by simp; omega
      have := OwnI.kept (A := (l.drop k).take m) (by rw [OwnI, hpl]; exact HO.out) hb3
      rw [OwnI, hpl] at this; exact this
    clear hb hb3 hn c2 f2 HO
    obtain ⟨c3, f3⟩ := cellsB n3
    have hz3 := lt_at n3
    by_cases hlt : m < l.length - k ∧ (m : Int) < most
    · obtain ⟨g1, g2⟩ := hlt
      have hkm : k + m < l.length := by omega
      rcases h3 with rfl | ⟨bk, off, rfl, hbk, hc⟩
      · simp at hkm
      · have hcw : ∀ i (h : i < l.length) (c : Nat), c < 10 → w3.cell? ⟨bk, off + i * 10 + c, none⟩ = (encIt l[i])[c]? := fun i hi c hk => (hB3.cell (p := ⟨bk, off + i * 10 + c, none⟩) hbk).trans (hc i hi c hk)
        obtain ⟨e0, e1, e2, e3, e4, e5, e6, e7, e8, e9⟩ := RowAt.ten hcw (k + m) hkm
        clear hc hcw
        have hsnoc : (l.drop k).take (m + 1) = (l.drop k).take m ++ [l[k + m]] := by
          rw [List.take_succ_eq_append_getElem (by simp; omega)]; simp
        have HSN : Hid ((l.drop k).take (m + 1) = (l.drop k).take m ++ [l[k + m]]) := hsnoc
        clear hsnoc
        have hj : b + (k : Int) + 1 + m ≤ b + l.length := by omega
        have hix : IntKind.i64.wrap (b + (k : Int) + 1 + m - b) = ((k + m : Nat) : Int) + 1 := by rw [IntKind.wrap_i64]; omega
        have hiy : IntKind.i64.wrap (((k + m : Nat) : Int) + 1 - 1) = ((k + m : Nat) : Int) := by rw [IntKind.wrap_i64]; omega
        have hi0 : ((k + m : Nat) : Int) < (l.length : Int) := by omega
        generalize l[k + m] = y at *
        obtain ⟨xt, xu, xp, xcl, xseq, ck, ckey, cfld, ctxt, cn⟩ := y
        generalize hkm0 : k + m = j at *
        simp only at *
        go_wp2_with (at_builtin; refine wpList_append_own _ rfl _ _ 22 rfl (w.heap.size + 1) 55 i0 zeroIt 10 104 Try.underlying22 hi hz0 hz1 hz2 rfl (by decide) _ m (((l.drop k).take m).flatMap encIt) rfl (HO3.out.alloc _) ⟨w3.heap.size, 0, none⟩ 1 1 (encIt ⟨xt, xu, xp, xcl, xseq, ⟨ck, ckey, cfld, ctxt, cn⟩⟩) rfl rfl ?c1 ?c2 ?c3 ?c4 ?c5 ?_)
        case c1 =>
          have := lit_cells (W := w3) (cs := encIt ⟨xt, xu, xp, xcl, xseq, ⟨ck, ckey, cfld, ctxt, cn⟩⟩) (t := 55)
          exact this
        case c2 => exact oneIt _
        case c3 => unfold maxLen; omega
        case c4 => omega
        case c5 => simp; omega
        intro v' w4 hown4 hg4 _
        have hO3a : (w3.alloc (itemO xt xu xp xcl xseq ck ckey cfld ctxt cn)).ownsRow (w.heap.size + 1) 55 10 (.slice sa m sc) m (((l.drop k).take m).flatMap encIt) := HO3.out.alloc _
        have n4 : w4.heap[w.heap.size]? = some (logO b t (.slice (some ⟨bk, off, none⟩) l.length cap)) := by
          refine (hg4.block w.heap.size (by simp; omega) ?_).trans ((Below.heap_alloc _ _ _ hz3).trans n3)
          intro e
          have := (World.ownsRow.lt hO3a _ e.symm).1
          omega
        have hB4 : Below w.heap.size w w4 := (hB3.alloc hB3.size _).grown hg4 (by simp; omega) (fun q hq => by have := (World.ownsRow.lt hO3a q hq).1; omega)
        have ho4 : OwnI (w.heap.size + 1) w4 v' ((l.drop k).take (m + 1)) := by
          rw [HSN.out]
          refine OwnI.snoc ?_
          have hpl : ((l.drop k).take m).length = m := by simp; omega
          rw [hpl]; exact hown4
        clear hown4 hg4 hO3a HO3 hB3 n3
        go_wp2_with fail
        refine ⟨⟨m + 1, ?_, by omega, by omega, hB4, n4, ho4⟩, by simp [intOf]; omega⟩
        first | go_num | (congr 1; omega)
    · have ho : OwnI w.heap.size w3 (.slice sa m sc) ((l.drop k).take most.toNat) := by
        have hpl : ((l.drop k).take m).length = m := by simp; omega
        have e : (l.drop k).take most.toNat = (l.drop k).take m := by
          by_cases hx : (m : Int) < most
          · rw [List.take_of_length_le (by simp; omega), List.take_of_length_le (by simp; omega)]
          · rw [show most.toNat = m by omega]
        rw [e]
        refine OwnI.base (B := w.heap.size + 1) ?_ (by omega)
        rw [OwnI, hpl]; exact HO3.out
      clear h3 HO3
      by_cases hx : m < l.length - k
      · have hj : b + (k : Int) + 1 + m ≤ b + l.length := by omega
        have hy : ¬ (m : Int) < most := by omega
        go_wp2_with fail
        refine bodyPost_ret (v := .tuple #[.slice sa m sc, .int .i64 0]) (by simp [results, Try.results31, go_sem]) rfl ⟨_, rfl, ho, hB3⟩
      · have hj : ¬ b + (k : Int) + 1 + m ≤ b + l.length := by omega
        go_wp2_with fail
        refine bodyPost_ret (v := .tuple #[.slice sa m sc, .int .i64 0]) (by simp [results, Try.results31, go_sem]) rfl ⟨_, rfl, ho, hB3⟩
end Go.Proofs.Ytdpjganbielnkaa
