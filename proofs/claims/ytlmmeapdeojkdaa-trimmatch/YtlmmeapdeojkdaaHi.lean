/- ledger.Trim. -/
import Derived.Test.YtlmmeapdeojkdaaHg
import Derived.Deep.RegionHeld3
import Derived.Deep.RegionWith
namespace Go.Proofs.Ytlmmeapdeojkdaa
open Go.RowKit
set_option linter.unusedVariables false
set_option maxRecDepth 100000

/-- What Trim answers for an error. -/
def Lg.trimE (g : Lg) (p : Int) : Int := if g.okB = true then heldI g.base g.last p else 13

theorem two_at (w : World) (o0 o1 : Obj) : ((w.alloc o0).alloc o1).heap[w.heap.size]? = some o0 ∧ ((w.alloc o0).alloc o1).heap[w.heap.size + 1]? = some o1 ∧ Below w.heap.size w ((w.alloc o0).alloc o1) ∧ ((w.alloc o0).alloc o1).heap.size = w.heap.size + 2 := by
  refine ⟨?_, ?_, (balloc _ _).alloc (by simp) _, by simp⟩
  · rw [Below.heap_alloc _ _ _ (by simp)]
    show ((_ : Array Obj).push _)[_]? = _
    simp
  · show ((_ : Array Obj).push _)[_]? = _
    rw [Array.getElem?_push, if_pos (by simp)]

set_option maxHeartbeats 4000000 in
theorem trim_bad (g : Lg) (s : Value) (p : Int) (w : World) (hr : RowI w s g.items) (h0 : g.trimE p ≠ 0) :
    Calls Try.prog 18 #[logV g.base g.term s, .int .i64 p] w fun x w' => x = .returned (.tuple #[logV 0 0 (.slice none 0 0), .int .i64 (g.trimE p)]) ∧ Below w.heap.size w w' := by
  have hC := fun W (hW : Below w.heap.size w W) => check_any g s W (hr.below hW)
  cases hk : g.okB with
  | false =>
    rw [fault_not hk] at hC
    have he : g.trimE p = 13 := by simp [Lg.trimE, hk]
    rw [he]
    have HC : Hid (∀ W, Below w.heap.size w W → Calls Try.prog 19 #[logV g.base g.term s] W fun e w' => e = .returned (.int .i64 13) ∧ Below W.heap.size W w') := hC
    obtain ⟨b, t, l⟩ := g
    simp only at *
    clear hC hr h0 he
    go_enter Try.func18, Try.ntmps18
    go_wp2_with fail
    obtain ⟨n0, n1, hB0, hs0⟩ := two_at w (logO b t s) (logO 0 0 (.slice none 0 0))
    generalize (w.alloc (logO b t s)).alloc (logO 0 0 (.slice none 0 0)) = V at n0 n1 hB0 hs0 ⊢
    refine (HC.out _ hB0).mono ?_
    rintro e w1 ⟨rfl, hb1⟩
    have hB1 := bstep hB0 hb1
    have m1 := (hb1.block _ (lt_at n1)).trans n1
    obtain ⟨c1, f1⟩ := cellsB m1
    have hz1 := lt_at m1
    clear hb1 n0 n1 hB0 hs0
    go_wp2_with fail
    refine bodyPost_ret (v := .tuple #[logV 0 0 (.slice none 0 0), .int .i64 13]) (by simp [results, Try.results18, go_sem, c1]) rfl ⟨rfl, ?_⟩
    first | exact hB1 | exact ((hB1.setCell (by simp) _).setCell (by simp) _).setCell (by simp) _
  | true =>
    rw [fault_yes hk] at hC
    have hle := okB_le hk
    have he : g.trimE p = heldI g.base g.last p := by simp [Lg.trimE, hk]
    rw [he] at h0 ⊢
    have HC : Hid (∀ W, Below w.heap.size w W → Calls Try.prog 19 #[logV g.base g.term s] W fun e w' => e = .returned (.int .i64 0) ∧ Below W.heap.size W w') := hC
    have HP : Hid (∀ W, Calls Try.prog 31 #[logV g.base g.term s, .int .i64 p] W fun e w' => e = .returned (.int .i64 (heldI g.base g.last p)) ∧ Below W.heap.size W w') := fun W => by
      obtain ⟨-, a, cap, rfl, -⟩ := hr
      exact held_any _ _ _ _ _ p W hle.1 hle.2.1
    generalize heldI g.base g.last p = e0 at *
    have hq : (e0 != 0) = true := by simpa using h0
    obtain ⟨b, t, l⟩ := g
    simp only at *
    clear hC hr h0 he hle hk
    go_enter Try.func18, Try.ntmps18
    go_wp2_with fail
    obtain ⟨n0, n1, hB0, hs0⟩ := two_at w (logO b t s) (logO 0 0 (.slice none 0 0))
    generalize (w.alloc (logO b t s)).alloc (logO 0 0 (.slice none 0 0)) = V at n0 n1 hB0 hs0 ⊢
    refine (HC.out _ hB0).mono ?_
    rintro e w1 ⟨rfl, hb1⟩
    have hB1 := bstep hB0 hb1
    have m0 := (hb1.block _ (lt_at n0)).trans n0
    have m1 := (hb1.block _ (lt_at n1)).trans n1
    obtain ⟨c0, f0⟩ := cellsB m0
    clear hb1 n0 n1 hB0 hs0 HC
    go_wp2_with fail
    refine (HP.out _).mono ?_
    rintro e w2 ⟨rfl, hb2⟩
    have hB2 := bstep hB1 hb2
    have k1 := (hb2.block _ (lt_at m1)).trans m1
    clear hb2 c0 f0 m0 m1 hB1
    obtain ⟨c1, f1⟩ := cellsB k1
    have hz1 := lt_at k1
    go_wp2_with fail
    refine bodyPost_ret (v := .tuple #[logV 0 0 (.slice none 0 0), .int .i64 e0]) (by simp [results, Try.results18, go_sem, c1]) rfl ⟨rfl, ?_⟩
    first | exact hB2 | exact ((hB2.setCell (by simp) _).setCell (by simp) _).setCell (by simp) _

set_option maxHeartbeats 16000000 in
theorem trim_ok (g : Lg) (s : Value) (k : Nat) (w : World) (hr : RowI w s g.items) (hk : g.okB = true) (hkl : k ≤ g.items.length) :
    Calls Try.prog 18 #[logV g.base g.term s, .int .i64 (g.base + k)] w fun x w' => ∃ r, x = .returned (.tuple #[logV (g.base + k) (g.termAt (g.base + k)) r, .int .i64 0]) ∧ OwnI w.heap.size w' r (g.items.drop k) ∧ Below w.heap.size w w' := by
  have hC := fun W (hW : Below w.heap.size w W) => check_any g s W (hr.below hW)
  rw [fault_yes hk] at hC
  have hle := okB_le hk
  have hL : g.last = g.base + g.items.length := rfl
  have hp : heldI g.base g.last (g.base + k) = 0 := by unfold heldI; rw [if_neg (by omega), if_neg (by omega)]
  have HC : Hid (∀ W, Below w.heap.size w W → Calls Try.prog 19 #[logV g.base g.term s] W fun e w' => e = .returned (.int .i64 0) ∧ Below W.heap.size W w') := hC
  have HP : Hid (∀ W, Calls Try.prog 31 #[logV g.base g.term s, .int .i64 (g.base + k)] W fun e w' => e = .returned (.int .i64 0) ∧ Below W.heap.size W w') := fun W => by
    obtain ⟨-, a, cap, rfl, -⟩ := hr
    rw [← hp]
    exact held_any _ _ _ _ _ _ W hle.1 hle.2.1
  have HT : Hid (∀ W, Below w.heap.size w W → Calls Try.prog 28 #[logV g.base g.term s, .int .i64 (g.base + k)] W fun e w' => e = .returned (.int .i64 (g.termAt (g.base + k))) ∧ Below W.heap.size W w') := fun W hW =>
    termAt_any g s _ W (hr.below hW) hle.1 hle.2.1 (by omega) (by omega)
  have hB := fun W (hW : Below w.heap.size w W) => firstBehind_any g.base g.term s g.items k 200 W (hr.below hW) hle.1 hle.2.1 hkl (by omega)
  rw [show (g.items.drop k).take (200 : Int).toNat = g.items.drop k from List.take_of_length_le (by simp; omega)] at hB
  have HB : Hid (∀ W, Below w.heap.size w W → Calls Try.prog 32 #[logV g.base g.term s, .int .i64 (g.base + k), .int .i64 200] W fun e w' => ∃ r, e = .returned r ∧ OwnI W.heap.size w' r (g.items.drop k) ∧ Below W.heap.size W w') := hB
  generalize g.termAt (g.base + k) = T at *
  obtain ⟨b, t, l⟩ := g
  simp only at *
  generalize l.drop k = P at *
  generalize b + (k : Int) = p at *
  clear hC hr hle hk hL hp hkl hB
  go_enter Try.func18, Try.ntmps18
  go_wp2_with fail
  obtain ⟨n0, n1, hB0, hs0⟩ := two_at w (logO b t s) (logO 0 0 (.slice none 0 0))
  generalize (w.alloc (logO b t s)).alloc (logO 0 0 (.slice none 0 0)) = V at n0 n1 hB0 hs0 ⊢
  refine (HC.out _ hB0).mono ?_
  rintro e w1 ⟨rfl, hb1⟩
  have hB1 := bstep hB0 hb1
  have m0 := (hb1.block _ (lt_at n0)).trans n0
  have m1 := (hb1.block _ (lt_at n1)).trans n1
  obtain ⟨c0, f0⟩ := cellsB m0
  clear hb1 n0 n1 hB0 hs0 HC
  go_wp2_with fail
  refine (HP.out _).mono ?_
  rintro e w2 ⟨rfl, hb2⟩
  have hB2 := bstep hB1 hb2
  have k0 := (hb2.block _ (lt_at m0)).trans m0
  have k1 := (hb2.block _ (lt_at m1)).trans m1
  clear hb2 c0 f0 m0 m1 hB1 HP
  have hBL : w.heap.size ≤ w.heap.size + 1 := by omega
  have hne : ¬ w.heap.size + 1 = w.heap.size := by omega
  have hne' : ¬ w.heap.size = w.heap.size + 1 := by omega
  generalize w.heap.size + 1 = b1 at k1 hBL hne hne' ⊢
  obtain ⟨c0, f0⟩ := cellsB k0
  obtain ⟨c1, f1⟩ := cellsB k1
  have hz0 := lt_at k0
  have hz1 := lt_at k1
  obtain ⟨r0, r1, r2⟩ : w2.cell? ⟨w.heap.size, 0, none⟩ = some (.int .i64 b) ∧ w2.cell? ⟨w.heap.size, 1, none⟩ = some (.int .i64 t) ∧ w2.cell? ⟨w.heap.size, 2, none⟩ = some s := ⟨c0 0, c0 1, c0 2⟩
  have HK1 : Hid (w2.heap[b1]? = some (logO 0 0 (.slice none 0 0))) := k1
  clear c0 k0 k1
  go_wp2_with fail
  go_region_held3 (fun w' => w'.cell? ⟨w.heap.size, 0, none⟩ = some (.int .i64 b) ∧ w'.cell? ⟨w.heap.size, 1, none⟩ = some (.int .i64 t) ∧ w'.cell? ⟨w.heap.size, 2, none⟩ = some s) (go_keep) (first
    | (go_at_call 28; refine (HT.out _ ?_).mono ?_; (first | exact hBx | exact hBx.drew | exact hB2.drew); rintro e w3 ⟨rfl, hb3⟩; (first | (have hBy : Below w.heap.size w w3 := bstep hBx hb3; obtain ⟨x1, x2⟩ := same_block (hb3.block w.heap.size hzx); obtain ⟨x3, x4⟩ := same_block (hb3.block b1 hzy); have hzx' : w.heap.size < w3.heap.size := Nat.lt_of_lt_of_le hzx hb3.size; have hzy' : b1 < w3.heap.size := Nat.lt_of_lt_of_le hzy hb3.size) | (have hBx : Below w.heap.size w w3 := bstep hB2.drew hb3; obtain ⟨x1, x2⟩ := same_block (hb3.block w.heap.size hz0); obtain ⟨x3, x4⟩ := same_block (hb3.block b1 hz1); have hzx : w.heap.size < w3.heap.size := Nat.lt_of_lt_of_le hz0 hb3.size; have hzy : b1 < w3.heap.size := Nat.lt_of_lt_of_le hz1 hb3.size)))
    | (go_at_call 32; refine (HB.out _ ?_).mono ?_; (first | exact hBx | exact hBx.drew | exact hB2.drew); rintro e w4 ⟨r, rfl, hown, hb4⟩; obtain ⟨sa, sc, rfl⟩ := hown.shape; (first | (have hBy : Below w.heap.size w w4 := bstep hBx hb4; obtain ⟨x1, x2⟩ := same_block (hb4.block w.heap.size hzx); obtain ⟨x3, x4⟩ := same_block (hb4.block b1 hzy); have hzx' : w.heap.size < w4.heap.size := Nat.lt_of_lt_of_le hzx hb4.size; have hzy' : b1 < w4.heap.size := Nat.lt_of_lt_of_le hzy hb4.size) | (have hBx : Below w.heap.size w w4 := bstep hB2.drew hb4; obtain ⟨x1, x2⟩ := same_block (hb4.block w.heap.size hz0); obtain ⟨x3, x4⟩ := same_block (hb4.block b1 hz1); have hzx : w.heap.size < w4.heap.size := Nat.lt_of_lt_of_le hz0 hb4.size; have hzy : b1 < w4.heap.size := Nat.lt_of_lt_of_le hz1 hb4.size))))
  have n4 := (hb4.block b1 hzy).trans ((hb3.block b1 hz1).trans HK1.out)
  obtain ⟨y1, y2⟩ := cellsB n4
  clear x1 x2 x3 x4
  go_wp2_with fail
  refine bodyPost_ret (v := .tuple #[logV p T (.slice sa P.length sc), .int .i64 0]) (by simp [results, Try.results18, go_sem, y1]) rfl ⟨_, rfl, ?_, ?_⟩
  · exact OwnI.base (OwnI.setCell (OwnI.setCell (OwnI.setCell hown hzy _) hzy _) hzy _) hBx.size
  · exact ((hBy.setCell hBL _).setCell hBL _).setCell hBL _
end Go.Proofs.Ytlmmeapdeojkdaa
