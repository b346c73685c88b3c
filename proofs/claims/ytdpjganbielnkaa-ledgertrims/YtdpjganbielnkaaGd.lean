/- The document's answers on logs: lastOf, termAt, LastOf, TermOf, NewerThan. -/
import Derived.Test.YtdpjganbielnkaaGc
namespace Go.Proofs.Ytdpjganbielnkaa
open Go.RowKit
set_option linter.unusedVariables false
set_option maxRecDepth 100000

set_option maxHeartbeats 400000 in
theorem lastOf_ok (b t : Int) (a : Option Addr) (len cap : Nat) (w : World) (h0 : 0 ≤ b) (h1 : b + len ≤ 1048576) :
    Calls Try.prog 53 #[logV b t (.slice a len cap)] w fun e w' => e = .returned (.int .i64 (b + len)) ∧ Below w.heap.size w w' := by
  have hw := wrap_small (n := b + len) (by omega) (by omega)
  go_enter Try.func53, Try.ntmps53
  go_wp2
  go_ret
  exact ⟨rfl, balloc _ _⟩

/-- The document's term of a place: -1 below the base, -2 behind the last one. -/
def Lg.tAt (g : Lg) (p : Int) : Int := if p < g.base then -1 else if g.last < p then -2 else g.termAt p

set_option maxHeartbeats 2000000 in
theorem refTermAt_any (g : Lg) (s : Value) (p : Int) (w : World) (hr : RowI w s g.items) (h0 : 0 ≤ g.base) (h1 : g.base + g.items.length ≤ 1048576) :
    Calls Try.prog 54 #[logV g.base g.term s, .int .i64 p] w fun e w' => e = .returned (.int .i64 (g.tAt p)) ∧ Below w.heap.size w w' := by
  obtain ⟨b, t, l⟩ := g
  simp only at *
  obtain ⟨hl, a, cap, rfl, k1, k2, k3⟩ := hr
  have HL : Hid (∀ W, Calls Try.prog 53 #[logV b t (.slice a l.length cap)] W fun e w' => e = .returned (.int .i64 (b + l.length)) ∧ Below W.heap.size W w') := fun W => lastOf_ok b t _ _ _ W h0 h1
  generalize hF : Lg.tAt ⟨b, t, l⟩ p = f
  have HF : Hid (Lg.tAt ⟨b, t, l⟩ p = f) := hF
  clear hF
  go_enter Try.func54, Try.ntmps54
  by_cases g1 : p < b
  · go_wp2_with fail
    go_ret
    exact ⟨ret_int (by rw [← HF.out]; unfold Lg.tAt; rw [if_pos g1]), balloc _ _⟩
  · have HG1 : Hid (¬ p < b) := g1
    go_wp2_with fail
    refine (HL.out _).mono ?_
    rintro e w1 ⟨rfl, hb1⟩
    have hB1 := bstep (balloc _ _) hb1
    obtain ⟨d1, e1⟩ := same_block (hb1.block w.heap.size (by simp))
    have hz1 : w.heap.size < w1.heap.size := Nat.lt_of_lt_of_le (by simp) hb1.size
    by_cases g2 : b + l.length < p
    · go_wp2_with fail
      go_ret
      exact ⟨ret_int (by rw [← HF.out]; have hh := HG1.out; unfold Lg.tAt; rw [if_neg (by show ¬ p < b; omega), if_pos (by show b + l.length < p; omega)]), hB1⟩
    · have HG2 : Hid (¬ b + l.length < p) := g2
      have hf : f = Lg.termAt ⟨b, t, l⟩ p := by have hh := HG1.out; have hh2 := HG2.out; rw [← HF.out]; unfold Lg.tAt; rw [if_neg (by show ¬ p < b; omega), if_neg (by show ¬ b + l.length < p; omega)]
      have HT : Hid (f = Lg.termAt ⟨b, t, l⟩ p) := hf
      clear hf
      by_cases e : p = b
      · subst e
        clear g1 g2
        go_wp2_with fail
        go_ret
        exact ⟨ret_int (by rw [HT.out]; exact (termAt_base ⟨p, t, l⟩).symm), hB1⟩
      · have hne : (p == b) = false := by simpa using e
        obtain ⟨m, hm⟩ : ∃ m : Nat, p = b + 1 + m := ⟨(p - b - 1).toNat, by omega⟩
        subst hm
        have hlt : m < l.length := by omega
        rcases k3 with rfl | ⟨bk, off, rfl, hbk, hc⟩
        · simp at hlt
        · have hcw : ∀ i (h : i < l.length) (c : Nat), c < 10 → w1.cell? ⟨bk, off + i * 10 + c, none⟩ = (encIt l[i])[c]? := fun i hi c hk => (hB1.cell (p := ⟨bk, off + i * 10 + c, none⟩) hbk).trans (hc i hi c hk)
          obtain ⟨c0, -⟩ := RowAt.ten hcw m hlt
          clear hc hcw
          have x1 : IntKind.i64.wrap (b + 1 + (m : Int) - b) = 1 + m := by rw [IntKind.wrap_i64]; omega
          have x2 : IntKind.i64.wrap (1 + (m : Int) - 1) = m := by rw [IntKind.wrap_i64]; omega
          have y1 : wrap64 (b + 1 + (m : Int) - b) = 1 + m := by unfold wrap64; omega
          have y2 : wrap64 (1 + (m : Int) - 1) = m := by unfold wrap64; omega
          have hm0 : (m : Int) < (l.length : Int) := by omega
          have hft : Lg.termAt ⟨b, t, l⟩ (b + 1 + m) = l[m].t := by
            unfold Lg.termAt; simp only
            rw [if_neg e, show (b + 1 + (m : Int) - b - 1).toNat = m by omega]
            simp [hlt]
          have hf2 : f = l[m].t := by rw [HT.out, hft]
          have HT2 : Hid (f = l[m].t) := hf2
          clear hft hf2 g1 g2 HF HT
          go_wp2_with fail
          go_ret
          exact ⟨ret_int HT2.out.symm, hB1⟩

theorem refTermAt_ok (g : Lg) (s : Value) (p : Int) (w : World) (hr : RowI w s g.items) (h0 : 0 ≤ g.base) (h1 : g.base + g.items.length ≤ 1048576) (p0 : g.base ≤ p) (p1 : p ≤ g.base + g.items.length) :
    Calls Try.prog 54 #[logV g.base g.term s, .int .i64 p] w fun e w' => e = .returned (.int .i64 (g.termAt p)) ∧ Below w.heap.size w w' := by
  have := refTermAt_any g s p w hr h0 h1
  rwa [show g.tAt p = g.termAt p by unfold Lg.tAt Lg.last; rw [if_neg (by omega), if_neg (by omega)]] at this

set_option maxHeartbeats 4000000 in
theorem refLast_bad (g : Lg) (s : Value) (w : World) (hr : RowI w s g.items) (hk : g.okB = false) :
    Calls Try.prog 27 #[logV g.base g.term s] w fun e w' => e = .returned (.tuple #[.int .i64 0, .int .i64 0, .int .i64 13]) ∧ Below w.heap.size w w' := by
  have HC : Hid (∀ W, Below w.heap.size w W → Calls Try.prog 25 #[logV g.base g.term s] W fun e w' => e = .returned (.int .i64 13) ∧ Below W.heap.size W w') := fun W hW => by
    have := logFault_any g s W (hr.below hW); rwa [fault_not hk] at this
  clear hr
  go_enter Try.func27, Try.ntmps27
  go_wp2_with fail
  refine (HC.out _ (balloc _ _)).mono ?_
  rintro e w1 ⟨rfl, hb1⟩
  have hB1 := bstep (balloc _ _) hb1
  go_wp2_with fail
  refine bodyPost_ret (v := .tuple #[.int .i64 0, .int .i64 0, .int .i64 13]) (by simp [results, Try.results27, go_sem]) rfl ⟨rfl, hB1⟩

set_option maxHeartbeats 8000000 in
theorem refLast_ok (g : Lg) (s : Value) (w : World) (hr : RowI w s g.items) (hk : g.okB = true) :
    Calls Try.prog 27 #[logV g.base g.term s] w fun e w' => e = .returned (.tuple #[.int .i64 g.last, .int .i64 (g.termAt g.last), .int .i64 0]) ∧ Below w.heap.size w w' := by
  have hle := okB_le hk
  have HC : Hid (∀ W, Below w.heap.size w W → Calls Try.prog 25 #[logV g.base g.term s] W fun e w' => e = .returned (.int .i64 0) ∧ Below W.heap.size W w') := fun W hW => by
    have := logFault_any g s W (hr.below hW); rwa [fault_yes hk] at this
  have HT : Hid (∀ W, Below w.heap.size w W → Calls Try.prog 54 #[logV g.base g.term s, .int .i64 g.last] W fun e w' => e = .returned (.int .i64 (g.termAt g.last)) ∧ Below W.heap.size W w') := fun W hW =>
    refTermAt_ok g s g.last W (hr.below hW) hle.1 hle.2.1 (by unfold Lg.last; omega) (by unfold Lg.last; omega)
  have HL : Hid (∀ W, Calls Try.prog 53 #[logV g.base g.term s] W fun e w' => e = .returned (.int .i64 g.last) ∧ Below W.heap.size W w') := fun W => by
    obtain ⟨-, a, cap, rfl, -⟩ := hr
    exact lastOf_ok _ _ _ _ _ W hle.1 hle.2.1
  generalize g.termAt g.last = T at *
  generalize g.last = L at *
  obtain ⟨b, t, l⟩ := g
  simp only at *
  clear hr hle hk
  go_enter Try.func27, Try.ntmps27
  go_wp2_with fail
  refine (HC.out _ (balloc _ _)).mono ?_
  rintro e w1 ⟨rfl, hb1⟩
  have hB1 := bstep (balloc _ _) hb1
  have n1 := (hb1.block w.heap.size (by simp)).trans (alloc_at w (logO b t s))
  clear hb1 HC
  obtain ⟨d1, e1⟩ := cellsB n1
  have hz1 := lt_at n1
  obtain ⟨c0, c1, c2⟩ : w1.cell? ⟨w.heap.size, 0, none⟩ = some (.int .i64 b) ∧ w1.cell? ⟨w.heap.size, 1, none⟩ = some (.int .i64 t) ∧ w1.cell? ⟨w.heap.size, 2, none⟩ = some s := ⟨d1 0, d1 1, d1 2⟩
  clear d1
  go_wp2_with fail
  go_region_held3 (fun w' => w'.cell? ⟨w.heap.size, 0, none⟩ = some (.int .i64 b) ∧ w'.cell? ⟨w.heap.size, 1, none⟩ = some (.int .i64 t) ∧ w'.cell? ⟨w.heap.size, 2, none⟩ = some s) (go_keep) (first
    | (go_at_call 53; refine (HL.out _).mono ?_; rintro e w2 ⟨rfl, hb2⟩; (first | (have hBx : Below w.heap.size w w2 := bstep hBx hb2; obtain ⟨x1, x2⟩ := same_block (hb2.block w.heap.size hzx); have hzx : w.heap.size < w2.heap.size := Nat.lt_of_lt_of_le hzx hb2.size) | (have hBx : Below w.heap.size w w2 := bstep hB1.drew hb2; obtain ⟨x1, x2⟩ := same_block (hb2.block w.heap.size hz1); have hzx : w.heap.size < w2.heap.size := Nat.lt_of_lt_of_le hz1 hb2.size)))
    | (go_at_call 54; refine (HT.out _ ?_).mono ?_; (first | exact hBx | exact hBx.drew | exact hB1.drew); rintro e w3 ⟨rfl, hb3⟩; (first | (have hBx : Below w.heap.size w w3 := bstep hBx hb3; obtain ⟨x1, x2⟩ := same_block (hb3.block w.heap.size hzx); have hzx : w.heap.size < w3.heap.size := Nat.lt_of_lt_of_le hzx hb3.size) | (have hBx : Below w.heap.size w w3 := bstep hB1.drew hb3; obtain ⟨x1, x2⟩ := same_block (hb3.block w.heap.size hz1); have hzx : w.heap.size < w3.heap.size := Nat.lt_of_lt_of_le hz1 hb3.size))))
  all_goals
    go_wp2_with fail
    refine bodyPost_ret (v := .tuple #[.int .i64 L, .int .i64 T, .int .i64 0]) (by simp [results, Try.results27, go_sem]) rfl ⟨rfl, hBx⟩

end Go.Proofs.Ytdpjganbielnkaa
