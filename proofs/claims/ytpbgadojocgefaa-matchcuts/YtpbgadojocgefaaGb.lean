/- ledger: held, checkPlace, termAt, Last, Term. -/
import Derived.Test.YtpbgadojocgefaaGa
import Derived.Deep.RegionHeld3
namespace Go.Proofs.Ytpbgadojocgefaa
open Go.RowKit
set_option linter.unusedVariables false
set_option maxRecDepth 100000

/-- The term at a place that the log tells. -/
def Lg.termAt (g : Lg) (place : Int) : Int := if place = g.base then g.term else ((g.items[(place - g.base - 1).toNat]?).map Itm.t).getD 0
/-- Whether a log tells the term of a place. -/
def heldI (b last place : Int) : Int := if place < b then 11 else if last < place then 5 else 0
def placeI (b last place : Int) : Int := if place < 0 ∨ 1048576 < place then 2 else heldI b last place

theorem okB_le {g : Lg} (h : g.okB = true) : 0 ≤ g.base ∧ g.base + g.items.length ≤ 1048576 ∧ g.items.length ≤ 200 ∧ 0 ≤ g.term ∧ g.term ≤ 1048576 := by
  simp only [Lg.okB, Lg.last, Bool.and_eq_true, decide_eq_true_eq] at h
  obtain ⟨⟨⟨h1, h2⟩, h3⟩, -⟩ := h
  have := baseB_le h1
  exact ⟨this.1, of_decide_eq_true h3, h2, this.2.2.1, this.2.2.2⟩
theorem fault_ok {g : Lg} : g.fault = 0 ↔ g.okB = true := by unfold Lg.fault; split <;> simp_all
theorem fault_not {g : Lg} (h : g.okB = false) : g.fault = 13 := by unfold Lg.fault; simp [h]
theorem fault_yes {g : Lg} (h : g.okB = true) : g.fault = 0 := by unfold Lg.fault; simp [h]

theorem lastPlace_ok (b t : Int) (a : Option Addr) (len cap : Nat) (w : World) (h0 : 0 ≤ b) (h1 : b + len ≤ 1048576) :
    Calls Try.prog 27 #[logV b t (.slice a len cap)] w fun e w' => e = .returned (.int .i64 (b + len)) ∧ Below w.heap.size w w' := by
  have := lastPlace_any b t a len cap w
  rwa [wrap_small (by omega) (by omega)] at this

set_option maxHeartbeats 1000000 in
theorem held_any (b t : Int) (a : Option Addr) (len cap : Nat) (p : Int) (w : World) (h0 : 0 ≤ b) (h1 : b + len ≤ 1048576) :
    Calls Try.prog 29 #[logV b t (.slice a len cap), .int .i64 p] w fun e w' => e = .returned (.int .i64 (heldI b (b + len) p)) ∧ Below w.heap.size w w' := by
  have HL : Hid (∀ W, Calls Try.prog 27 #[logV b t (.slice a len cap)] W fun e w' => e = .returned (.int .i64 (b + len)) ∧ Below W.heap.size W w') := fun W => lastPlace_ok b t _ _ _ W h0 h1
  generalize hF : heldI b (b + len) p = f
  have HF : Hid (heldI b (b + len) p = f) := hF
  clear hF
  go_enter Try.func29, Try.ntmps29
  by_cases g1 : p < b
  · go_wp2_with fail
    go_ret
    exact ⟨ret_int (by rw [← HF.out]; unfold heldI; (repeat' split) <;> omega), balloc _ _⟩
  · go_wp2_with fail
    refine (HL.out _).mono ?_
    rintro e w1 ⟨rfl, hb1⟩
    have hB1 := bstep (balloc _ _) hb1
    by_cases g2 : b + len < p
    · go_wp2_with fail
      go_ret
      exact ⟨ret_int (by rw [← HF.out]; unfold heldI; (repeat' split) <;> omega), hB1⟩
    · go_wp2_with fail
      go_ret
      exact ⟨ret_int (by rw [← HF.out]; unfold heldI; (repeat' split) <;> omega), hB1⟩

set_option maxHeartbeats 1000000 in
theorem checkPlace_any (b t : Int) (a : Option Addr) (len cap : Nat) (p : Int) (w : World) (h0 : 0 ≤ b) (h1 : b + len ≤ 1048576) :
    Calls Try.prog 24 #[logV b t (.slice a len cap), .int .i64 p] w fun e w' => e = .returned (.int .i64 (placeI b (b + len) p)) ∧ Below w.heap.size w w' := by
  have HL : Hid (∀ W, Calls Try.prog 29 #[logV b t (.slice a len cap), .int .i64 p] W fun e w' => e = .returned (.int .i64 (heldI b (b + len) p)) ∧ Below W.heap.size W w') := fun W => held_any b t _ _ _ p W h0 h1
  generalize hF : placeI b (b + len) p = f
  have HF : Hid (placeI b (b + len) p = f) := hF
  clear hF
  go_enter Try.func24, Try.ntmps24
  by_cases g1 : p < 0
  · go_wp2_with fail
    go_ret
    exact ⟨ret_int (by rw [← HF.out]; unfold placeI; (repeat' split) <;> omega), balloc _ _⟩
  · by_cases g2 : 1048576 < p
    · go_wp2_with fail
      go_ret
      exact ⟨ret_int (by rw [← HF.out]; unfold placeI; (repeat' split) <;> omega), balloc _ _⟩
    · generalize hG : heldI b (b + len) p = q at HL
      have HG : Hid (heldI b (b + len) p = q) := hG
      clear hG
      go_wp2_with fail
      refine (HL.out _).mono ?_
      rintro e w1 ⟨rfl, hb1⟩
      have hB1 := bstep (balloc _ _) hb1
      go_wp2_with fail
      go_ret
      exact ⟨ret_int (by rw [← HF.out, ← HG.out]; unfold placeI; rw [if_neg (by omega)]), hB1⟩

set_option maxHeartbeats 1000000 in
theorem termAt_any (g : Lg) (s : Value) (p : Int) (w : World) (hr : RowI w s g.items) (h0 : 0 ≤ g.base) (h1 : g.base + g.items.length ≤ 1048576) (p0 : g.base ≤ p) (p1 : p ≤ g.base + g.items.length) :
    Calls Try.prog 25 #[logV g.base g.term s, .int .i64 p] w fun e w' => e = .returned (.int .i64 (g.termAt p)) ∧ Below w.heap.size w w' := by
  obtain ⟨b, t, l⟩ := g
  simp only at *
  obtain ⟨hl, a, cap, rfl, k1, k2, k3⟩ := hr
  generalize hF : Lg.termAt ⟨b, t, l⟩ p = f
  have HF : Hid (Lg.termAt ⟨b, t, l⟩ p = f) := hF
  clear hF
  go_enter Try.func25, Try.ntmps25
  by_cases e : p = b
  · subst e
    go_wp2_with fail
    go_ret
    exact ⟨ret_int (by rw [← HF.out]; simp [Lg.termAt]), balloc _ _⟩
  · have hne : (p == b) = false := by simpa using e
    obtain ⟨m, hm⟩ : ∃ m : Nat, p = b + 1 + m := ⟨(p - b - 1).toNat, by omega⟩
    subst hm
    have hlt : m < l.length := by omega
    rcases k3 with rfl | ⟨bk, off, rfl, hbk, hc⟩
    · simp at hlt
    · obtain ⟨c0, -⟩ := RowAt.ten hc m hlt
      clear hc
      have x1 : IntKind.i64.wrap (b + 1 + (m : Int) - b) = 1 + m := by rw [IntKind.wrap_i64]; omega
      have x2 : IntKind.i64.wrap (1 + (m : Int) - 1) = m := by rw [IntKind.wrap_i64]; omega
      have y1 : wrap64 (b + 1 + (m : Int) - b) = 1 + m := by unfold wrap64; omega
      have y2 : wrap64 (1 + (m : Int) - 1) = m := by unfold wrap64; omega
      have hm0 : (m : Int) < (l.length : Int) := by omega
      have hf : f = l[m].t := by
        rw [← HF.out]; unfold Lg.termAt; simp only
        rw [if_neg e, show (b + 1 + (m : Int) - b - 1).toNat = m by omega]
        simp [hlt]
      subst hf
      clear HF
      go_wp2_with fail
      go_ret
      exact ⟨rfl, balloc _ _⟩

theorem termAt_base (g : Lg) : g.termAt g.base = g.term := by simp [Lg.termAt]

/-- What Term answers: the term, and the error. -/
def Lg.termR (g : Lg) (p : Int) : Int × Int := if g.okB = true then (if placeI g.base g.last p = 0 then (g.termAt p, 0) else (0, placeI g.base g.last p)) else (0, 13)

theorem placeI_zero {b last p : Int} (h : placeI b last p = 0) : b ≤ p ∧ p ≤ last := by
  unfold placeI heldI at h
  (repeat' split at h) <;> omega

set_option maxHeartbeats 4000000 in
theorem term_any (g : Lg) (s : Value) (p : Int) (w : World) (hr : RowI w s g.items) :
    Calls Try.prog 12 #[logV g.base g.term s, .int .i64 p] w fun e w' => e = .returned (.tuple #[.int .i64 (g.termR p).1, .int .i64 (g.termR p).2]) ∧ Below w.heap.size w w' := by
  have hC := fun W (hW : Below w.heap.size w W) => check_any g s W (hr.below hW)
  cases hk : g.okB with
  | false =>
    rw [fault_not hk] at hC
    have hT : g.termR p = (0, 13) := by simp [Lg.termR, hk]
    rw [hT]
    have HC : Hid (∀ W, Below w.heap.size w W → Calls Try.prog 15 #[logV g.base g.term s] W fun e w' => e = .returned (.int .i64 13) ∧ Below W.heap.size W w') := hC
    clear hC hr
    go_enter Try.func12, Try.ntmps12
    go_wp2_with fail
    refine (HC.out _ (balloc _ _)).mono ?_
    rintro e w1 ⟨rfl, hb1⟩
    have hB1 := bstep (balloc _ _) hb1
    go_wp2_with fail
    refine bodyPost_ret (v := .tuple #[.int .i64 0, .int .i64 13]) (by simp [results, Try.results12, go_sem]) rfl ⟨rfl, hB1⟩
  | true =>
    rw [fault_yes hk] at hC
    have hle := okB_le hk
    have HC : Hid (∀ W, Below w.heap.size w W → Calls Try.prog 15 #[logV g.base g.term s] W fun e w' => e = .returned (.int .i64 0) ∧ Below W.heap.size W w') := hC
    have HP : Hid (∀ W, Calls Try.prog 24 #[logV g.base g.term s, .int .i64 p] W fun e w' => e = .returned (.int .i64 (placeI g.base g.last p)) ∧ Below W.heap.size W w') := fun W => by
      obtain ⟨-, a, cap, rfl, -⟩ := hr
      exact checkPlace_any _ _ _ _ _ p W hle.1 hle.2.1
    by_cases hp : placeI g.base g.last p = 0
    · have hT : g.termR p = (g.termAt p, 0) := by simp [Lg.termR, hk, hp]
      rw [hT]
      rw [hp] at HP
      have hpl := placeI_zero hp
      have HT : Hid (∀ W, Below w.heap.size w W → Calls Try.prog 25 #[logV g.base g.term s, .int .i64 p] W fun e w' => e = .returned (.int .i64 (g.termAt p)) ∧ Below W.heap.size W w') := fun W hW =>
        termAt_any g s p W (hr.below hW) hle.1 hle.2.1 hpl.1 (by have := hpl.2; unfold Lg.last at this; omega)
      generalize g.termAt p = T at *
      obtain ⟨b, t, l⟩ := g
      simp only at *
      clear hC hr hT hp hpl hle hk
      go_enter Try.func12, Try.ntmps12
      go_wp2_with fail
      refine (HC.out _ (balloc _ _)).mono ?_
      rintro e w1 ⟨rfl, hb1⟩
      have hB1 := bstep (balloc _ _) hb1
      obtain ⟨d1, e1⟩ := same_block (hb1.block w.heap.size (by simp))
      have hz1 : w.heap.size < w1.heap.size := Nat.lt_of_lt_of_le (by simp) hb1.size
      clear hb1 HC
      go_wp2_with fail
      refine (HP.out _).mono ?_
      rintro e w2 ⟨rfl, hb2⟩
      have hB2 := bstep hB1 hb2
      obtain ⟨d2, e2⟩ := same_block (hb2.block w.heap.size hz1)
      have hz2 : w.heap.size < w2.heap.size := Nat.lt_of_lt_of_le hz1 hb2.size
      clear hb2 HP
      go_wp2_with fail
      refine (HT.out _ hB2).mono ?_
      rintro e w3 ⟨rfl, hb3⟩
      have hB3 := bstep hB2 hb3
      go_wp2_with fail
      refine bodyPost_ret (v := .tuple #[.int .i64 T, .int .i64 0]) (by simp [results, Try.results12, go_sem]) rfl ⟨rfl, hB3⟩
    · have hT : g.termR p = (0, placeI g.base g.last p) := by simp [Lg.termR, hk, hp]
      rw [hT]
      generalize placeI g.base g.last p = q at *
      have hq : (q != 0) = true := by simpa using hp
      obtain ⟨b, t, l⟩ := g
      simp only at *
      clear hC hr hT hp hle hk
      go_enter Try.func12, Try.ntmps12
      go_wp2_with fail
      refine (HC.out _ (balloc _ _)).mono ?_
      rintro e w1 ⟨rfl, hb1⟩
      have hB1 := bstep (balloc _ _) hb1
      obtain ⟨d1, e1⟩ := same_block (hb1.block w.heap.size (by simp))
      have hz1 : w.heap.size < w1.heap.size := Nat.lt_of_lt_of_le (by simp) hb1.size
      clear hb1 HC
      go_wp2_with fail
      refine (HP.out _).mono ?_
      rintro e w2 ⟨rfl, hb2⟩
      have hB2 := bstep hB1 hb2
      clear hb2 HP
      go_wp2_with fail
      refine bodyPost_ret (v := .tuple #[.int .i64 0, .int .i64 q]) (by simp [results, Try.results12, go_sem]) rfl ⟨rfl, hB2⟩

end Go.Proofs.Ytpbgadojocgefaa
