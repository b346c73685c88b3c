/- ledger: firstFresh. -/
import Derived.Test.YtpbgadojocgefaaIa
import Derived.Test.YtpbgadojocgefaaQt
namespace Go.Proofs.Ytpbgadojocgefaa
open Go.RowKit
set_option linter.unusedVariables false
set_option maxRecDepth 100000

/-- The place of the first of the items, behind a place, that the log has not; 0, if it has them all. -/
def Lg.freshAt (g : Lg) : Int → List Itm → Int
  | _, [] => 0
  | p, x :: r => if g.last < p + 1 ∨ (g.base < p + 1 ∧ g.termAt (p + 1) ≠ x.t) then p + 1 else Lg.freshAt g (p + 1) r
theorem freshAt_step (g : Lg) (p : Int) {l : List Itm} {m : Nat} (h : m < l.length) : g.freshAt p (l.drop m) = if g.last < p + 1 ∨ (g.base < p + 1 ∧ g.termAt (p + 1) ≠ l[m].t) then p + 1 else g.freshAt (p + 1) (l.drop (m + 1)) := by
  rw [List.drop_eq_getElem_cons h]; rfl

set_option maxHeartbeats 8000000 in
theorem firstFresh_any (g : Lg) (s : Value) (p : Int) (xs : Value) (x : List Itm) (w : World) (hr : RowI w s g.items) (hx : RowI w xs x) (h0 : 0 ≤ g.base) (h1 : g.base + g.items.length ≤ 1048576) (p0 : 0 ≤ p) (p1 : p + x.length ≤ 1048576) :
    Calls Try.prog 18 #[logV g.base g.term s, .int .i64 p, xs] w fun e w' => e = .returned (.int .i64 (g.freshAt p x)) ∧ Below w.heap.size w w' := by
  have hL : g.last = g.base + g.items.length := rfl
  have HL : Hid (∀ W, Calls Try.prog 27 #[logV g.base g.term s] W fun e w' => e = .returned (.int .i64 g.last) ∧ Below W.heap.size W w') := fun W => by
    obtain ⟨-, a, cap, rfl, -⟩ := hr
    exact lastPlace_ok _ _ _ _ _ W h0 h1
  have HT : Hid (∀ q W, Below w.heap.size w W → g.base ≤ q → q ≤ g.last → Calls Try.prog 25 #[logV g.base g.term s, .int .i64 q] W fun e w' => e = .returned (.int .i64 (g.termAt q)) ∧ Below W.heap.size W w') := fun q W hW q1 q2 =>
    termAt_any g s q W (hr.below hW) h0 h1 q1 (by rw [hL] at q2; exact q2)
  obtain ⟨hl, a, cap, rfl, k1, k2, k3⟩ := hx
  have HF := fun (m : Nat) (h : m < x.length) => freshAt_step g (p + m) h
  generalize hFr : g.freshAt p x = R
  have HR : Hid (g.freshAt p x = R) := hFr
  clear hFr
  have HFF : Hid (∀ (m : Nat) (h : m < x.length), g.freshAt (p + m) (x.drop m) = if g.last < p + m + 1 ∨ (g.base < p + m + 1 ∧ g.termAt (p + m + 1) ≠ x[m].t) then p + m + 1 else g.freshAt (p + m + 1) (x.drop (m + 1))) := HF
  clear HF
  clear hr hL
  go_enter Try.func18, Try.ntmps18
  go_wp2_with fail
  have hwb := alloc_at w (logO g.base g.term s)
  have hB0 := balloc w (logO g.base g.term s)
  generalize w.alloc (logO g.base g.term s) = w0 at hwb hB0 ⊢
  go_loopw [12] (fun c wr => ∃ (m : Nat), c = .int .i64 (m : Int) ∧ m ≤ x.length ∧ Below w.heap.size w wr ∧ wr.heap[w.heap.size]? = some (logO g.base g.term s) ∧ g.freshAt p x = g.freshAt (p + m) (x.drop m)) (fun c _ => x.length - (intOf c).toNat)
  case atStart => exact ⟨0, by simp, by omega, hB0, hwb, by simp⟩
  case round =>
    obtain ⟨m, rfl, hm, hb, hn, heq⟩ := hrel
    clear hwb hB0
    have HY : Hid (g.freshAt p x = g.freshAt (p + m) (x.drop m)) := heq
    clear heq
    by_cases hlt : m < x.length
    · rcases k3 with rfl | ⟨bk, off, rfl, hbk, hc⟩
      · simp at hlt
      · have hcw : ∀ i (h : i < x.length) (c : Nat), c < 10 → wr.cell? ⟨bk, off + i * 10 + c, none⟩ = (encIt x[i])[c]? := fun i hi c hk => (hb.cell (p := ⟨bk, off + i * 10 + c, none⟩) hbk).trans (hc i hi c hk)
        obtain ⟨c0, c1, c2, c3, c4, c5, c6, c7, c8, c9⟩ := RowAt.ten hcw m hlt
        have HS : Hid (g.freshAt (p + m) (x.drop m) = if g.last < p + m + 1 ∨ (g.base < p + m + 1 ∧ g.termAt (p + m + 1) ≠ x[m].t) then p + m + 1 else g.freshAt (p + m + 1) (x.drop (m + 1))) := HFF.out m hlt
        clear hcw hc HFF
        have hi0 : (m : Int) < (x.length : Int) := by omega
        generalize x[m] = y at *
        obtain ⟨xt, xu, xp, xcl, xseq, ck, ckey, cfld, ctxt, cn⟩ := y
        simp only at *
        have hm1 : ((m + 1 : Nat) : Int) = (m : Int) + 1 := by omega
        have fin : Hid (∀ W, Below w.heap.size w W → W.heap[w.heap.size]? = some (logO g.base g.term s) → ¬ (g.last < p + m + 1 ∨ (g.base < p + m + 1 ∧ g.termAt (p + m + 1) ≠ xt)) → g.freshAt p x = g.freshAt (p + ((m + 1 : Nat) : Int)) (x.drop (m + 1))) := fun W _ _ hno => by
          rw [HY.out, HS.out, if_neg hno, hm1]; congr 1; omega
        have yes : Hid (g.last < p + m + 1 ∨ (g.base < p + m + 1 ∧ g.termAt (p + m + 1) ≠ xt) → R = p + 1 + m) := fun h => by
          rw [← HR.out, HY.out, HS.out, if_pos h]; omega
        clear HY HS
        go_wp2_with fail
        have m8 := alloc_at wr (itemO xt xu xp xcl xseq ck ckey cfld ctxt cn)
        have n8 := ((balloc wr (itemO xt xu xp xcl xseq ck ckey cfld ctxt cn)).block w.heap.size (lt_at hn)).trans hn
        have hB8 := hb.alloc hb.size (itemO xt xu xp xcl xseq ck ckey cfld ctxt cn)
        clear c0 c1 c2 c3 c4 c5 c6 c7 c8 c9 hn hb
        generalize wr.alloc (itemO xt xu xp xcl xseq ck ckey cfld ctxt cn) = V at m8 n8 hB8 ⊢
        generalize wr.heap.size = b8 at m8 ⊢
        have inst := Grown.isThere V
        obtain ⟨q1, q2⟩ := Grown.cells n8
        obtain ⟨q3, q4⟩ := Grown.cells m8
        have HB : Hid (∀ W, Below V.heap.size V W → Below w.heap.size w W) := fun W h => bstep hB8 h
        have HN : Hid (∀ W, Below V.heap.size V W → W.heap[w.heap.size]? = some (logO g.base g.term s)) := fun W h => (h.block _ (lt_at n8)).trans n8
        by_cases x1 : g.last < p + 1 + (m : Int)
        · have x1' : decide (g.last < p + 1 + (m : Int)) = true := by simpa using x1
          refine wp_region_grown (by kernel_rfl) (by kernel_rfl) ?_
          repeat (first | go_big_quiet_skip | (go_big_quiet_want; go_big_quiet_op; first | go_big_quiet_on | (apply Exists.intro; refine ⟨fun _ => ?_, ?_⟩; (· (go_at_call 27; exact Calls.grown _ (fun W _ => HL.out W))); go_big_quiet_on)))
          refine wpQuiet_nil ?_
          rintro _ ⟨⟨w1, hb1⟩, rfl⟩
          go_wp2_with fail
          go_ret
          exact ⟨ret_int (yes.out (by omega)).symm, HB.out _ hb1⟩
        · have x1' : decide (g.last < p + 1 + (m : Int)) = false := by simpa using x1
          by_cases x2 : g.base < p + 1 + (m : Int)
          · have x2' : decide (g.base < p + 1 + (m : Int)) = true := by simpa using x2
            have HT1 : Hid (∀ W, Below V.heap.size V W → Calls Try.prog 25 #[logV g.base g.term s, .int .i64 (p + 1 + (m : Int))] W fun e w' => e = .returned (.int .i64 (g.termAt (p + 1 + (m : Int)))) ∧ Below W.heap.size W w') := fun W hW => HT.out _ W (HB.out W hW) (by omega) (by omega)
            have hq : p + m + 1 = p + 1 + m := by omega
            rw [hq] at yes fin
            clear HT hq
            generalize g.termAt (p + 1 + (m : Int)) = T at *
            by_cases x3 : T = xt
            · subst x3
              refine wp_region_grown (by kernel_rfl) (by kernel_rfl) ?_
              repeat (first | go_big_quiet_skip | (go_big_quiet_want; go_big_quiet_op; first | go_big_quiet_on | (apply Exists.intro; refine ⟨fun _ => ?_, ?_⟩; (· (first | (go_at_call 27; exact Calls.grown _ (fun W _ => HL.out W)) | (go_at_call 25; exact Calls.grown _ HT1.out))); go_big_quiet_on)))
              refine wpQuiet_nil ?_
              rintro _ ⟨⟨w1, hb1⟩, rfl⟩
              go_wp2_with fail
              exact ⟨⟨m + 1, by go_num, by omega, HB.out _ hb1, HN.out _ hb1, fin.out _ (HB.out _ hb1) (HN.out _ hb1) (by simp; omega)⟩, by simp [intOf]; omega⟩
            · have x3' : (T != xt) = true := by simpa using x3
              refine wp_region_grown (by kernel_rfl) (by kernel_rfl) ?_
              repeat (first | go_big_quiet_skip | (go_big_quiet_want; go_big_quiet_op; first | go_big_quiet_on | (apply Exists.intro; refine ⟨fun _ => ?_, ?_⟩; (· (first | (go_at_call 27; exact Calls.grown _ (fun W _ => HL.out W)) | (go_at_call 25; exact Calls.grown _ HT1.out))); go_big_quiet_on)))
              refine wpQuiet_nil ?_
              rintro _ ⟨⟨w1, hb1⟩, rfl⟩
              go_wp2_with fail
              go_ret
              exact ⟨ret_int (yes.out (.inr ⟨by omega, x3⟩)).symm, HB.out _ hb1⟩
          · have x2' : decide (g.base < p + 1 + (m : Int)) = false := by simpa using x2
            refine wp_region_grown (by kernel_rfl) (by kernel_rfl) ?_
            repeat (first | go_big_quiet_skip | (go_big_quiet_want; go_big_quiet_op; first | go_big_quiet_on | (apply Exists.intro; refine ⟨fun _ => ?_, ?_⟩; (· (go_at_call 27; exact Calls.grown _ (fun W _ => HL.out W))); go_big_quiet_on)))
            refine wpQuiet_nil ?_
            rintro _ ⟨⟨w1, hb1⟩, rfl⟩
            go_wp2_with fail
            exact ⟨⟨m + 1, by go_num, by omega, HB.out _ hb1, HN.out _ hb1, fin.out _ (HB.out _ hb1) (HN.out _ hb1) (by omega)⟩, by simp [intOf]; omega⟩
    · have hge : ¬ (m : Int) < (x.length : Int) := by omega
      go_wp2_with fail
      go_ret
      exact ⟨ret_int (by rw [← HR.out, HY.out, List.drop_of_length_le (by omega)]; rfl), hb⟩
end Go.Proofs.Ytpbgadojocgefaa
