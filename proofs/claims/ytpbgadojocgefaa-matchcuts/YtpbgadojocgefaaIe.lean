/- ledger: Match where something is new. -/
import Derived.Test.YtpbgadojocgefaaId
import Derived.Deep.RegionHeld3
namespace Go.Proofs.Ytpbgadojocgefaa
open Go.RowKit
set_option linter.unusedVariables false
set_option maxRecDepth 100000

set_option maxHeartbeats 8000000 in
theorem match_laid (g : Lg) (s : Value) (p q : Int) (xs : Value) (x : List Itm) (w : World) (hr : RowI w s g.items) (hx : RowI w xs x) (hk : g.okB = true) (hm : Lg.okB ⟨p, q, x⟩ = true) (hf : g.fitB p q = true) (hn : g.freshAt p x ≠ 0) (hl : (g.laidAt p x).okB = true) :
    Calls Try.prog 6 #[logV g.base g.term s, .int .i64 p, .int .i64 q, xs] w (MatchOk w ⟨g.laidAt p x, true, g.freshAt p x, 0⟩) := by
  have hle := okB_le hk
  have hme := okB_le hm
  have HC : Hid (∀ W, Below w.heap.size w W → Calls Try.prog 15 #[logV g.base g.term s] W fun e w' => e = .returned (.int .i64 0) ∧ Below W.heap.size W w') := fun W hW => by
    have := check_any g s W (hr.below hW); rwa [fault_yes hk] at this
  have HD : Hid (∀ W, Below w.heap.size w W → Calls Try.prog 15 #[logV p q xs] W fun e w' => e = .returned (.int .i64 0) ∧ Below W.heap.size W w') := fun W hW => by
    have := check_any ⟨p, q, x⟩ xs W (hx.below hW); rwa [fault_yes hm] at this
  have HF : Hid (∀ W, Below w.heap.size w W → Calls Try.prog 16 #[logV g.base g.term s, .int .i64 p, .int .i64 q] W fun e w' => e = .returned (.bool true) ∧ Below W.heap.size W w') := fun W hW => by
    have := fit_any g s p q W (hr.below hW) hle.1 hle.2.1; rwa [hf] at this
  have hL : g.last = g.base + g.items.length := rfl
  have hpl : p ≤ g.last := by
    unfold Lg.fitB at hf
    split at hf
    · omega
    · split at hf
      · cases hf
      · omega
  have hsp := freshAt_spec g (by omega) x p hme.1 hpl hn
  have hme0 : 0 ≤ p := hme.1
  have hme1 : p + x.length ≤ 1048576 := hme.2.1
  have HN : Hid (∀ W, Below w.heap.size w W → Calls Try.prog 18 #[logV g.base g.term s, .int .i64 p, xs] W fun e w' => e = .returned (.int .i64 (g.freshAt p x)) ∧ Below W.heap.size W w') := fun W hW => by
    have := firstFresh_any g s p xs x W (hr.below hW) (hx.below hW) hle.1 hle.2.1 hme.1 hme.2.1; rwa [show g.freshAt p x = g.freshAt p x from rfl] at this
  have hla : g.laidAt p x = ⟨g.base, g.term, g.items.take (g.freshAt p x - g.base - 1).toNat ++ x.drop (g.freshAt p x - p - 1).toNat⟩ := rfl
  have hme2 : x.length ≤ 200 := hme.2.2.1
  generalize g.freshAt p x = F at *
  generalize hkk : (F - g.base - 1).toNat = k at *
  generalize hjj : (F - p - 1).toNat = j at *
  have hF1 : F = g.base + 1 + k := by omega
  have hF2 : F = p + 1 + j := by omega
  have hkl : k ≤ g.items.length := by omega
  have hjl : j < x.length := by omega
  have hla2 := hla
  generalize hG : g.laidAt p x = G at *
  obtain ⟨xa, xc, rfl⟩ : ∃ a c, xs = .slice a x.length c := by obtain ⟨-, a, c, rfl, -⟩ := hx; exact ⟨_, _, rfl⟩
  obtain ⟨bk, off, rfl⟩ : ∃ bk off, xa = some ⟨bk, off, none⟩ := by
    obtain ⟨-, a, c, he, -, -, h3⟩ := hx
    simp only [Value.slice.injEq, true_and] at he
    obtain ⟨rfl, rfl⟩ := he
    rcases h3 with rfl | ⟨bk, off, rfl, -⟩
    · simp at hjl
    · exact ⟨_, _, rfl⟩
  have hxc : x.length ≤ xc ∧ xc ≤ 9223372036854775807 := by
    obtain ⟨-, a', c', he, q1, q2, -⟩ := hx
    simp only [Value.slice.injEq, true_and] at he
    omega
  have HLd : Hid (∀ W, Below w.heap.size w W → Calls Try.prog 19 #[logV g.base g.term s, .int .i64 F, .slice (some ⟨bk, off + j * 10, none⟩) (x.length - j) (xc - j)] W fun e w' => ∃ r, e = .returned (logV g.base g.term r) ∧ OwnI W.heap.size w' r (g.items.take k ++ x.drop j) ∧ Below W.heap.size W w') := fun W hW => by
    rw [hF1]
    exact laid_any g.base g.term s g.items k _ _ W (hr.below hW) (RowI.piece (hx.below hW) j (by omega) rfl hjl) hle.1 hle.2.1 hkl (by simp; omega)
  have hfa : Lg.fault ⟨g.base, g.term, g.items.take k ++ x.drop j⟩ = 0 := by rw [← hla2]; exact fault_yes hl
  have HE : Hid (∀ W r, RowI W r (g.items.take k ++ x.drop j) → Calls Try.prog 15 #[logV g.base g.term r] W fun e w' => e = .returned (.int .i64 0) ∧ Below W.heap.size W w') := fun W r h => by
    have := check_any ⟨g.base, g.term, g.items.take k ++ x.drop j⟩ r W h
    rwa [hfa] at this
  have hLl : (g.items.take k ++ x.drop j).length ≤ 400 := by simp; omega
  subst hla2
  obtain ⟨b, t, l⟩ := g
  simp only at *
  generalize l.take k ++ x.drop j = M at *
  have w1' : IntKind.i64.wrap (F - p) = 1 + j := by rw [IntKind.wrap_i64]; omega
  have w2' : IntKind.i64.wrap (1 + (j : Int) - 1) = j := by rw [IntKind.wrap_i64]; omega
  have w3' : wrap64 (F - p) = 1 + j := by unfold wrap64; omega
  have w4' : wrap64 (1 + (j : Int) - 1) = j := by unfold wrap64; omega
  have hj0 : (j : Int) ≤ (x.length : Int) := by omega
  have hjc : ¬ xc = j := by omega
  have hF0 : (F == 0) = false := by simp; omega
  have HF2 : Hid (F = p + 1 + j) := hF2
  clear hr hx hk hm hf hle hme hn hL hpl hsp hme0 hme1 hla hkk hjj hF1 hkl hG hl hme2 hF2 hfa
  go_enter Try.func6, Try.ntmps6
  go_wp2_with fail
  obtain ⟨n0, n1, hB0, hs0⟩ := two_at w (logO b t s) (logO 0 0 (.slice none 0 0))
  generalize (w.alloc (logO b t s)).alloc (logO 0 0 (.slice none 0 0)) = V at n0 n1 hB0 hs0 ⊢
  have hz : w.heap.size + 2 ≤ V.heap.size := by omega
  clear hs0
  refine (HC.out _ hB0).mono ?_
  rintro e w1 ⟨rfl, hb1⟩
  have hB1 := bstep hB0 hb1
  have m1 := (hb1.block _ (lt_at n0)).trans n0
  have k1 := (hb1.block _ (lt_at n1)).trans n1
  have hz1 : w.heap.size + 2 ≤ w1.heap.size := Nat.le_trans hz hb1.size
  clear hB0 hb1 n0 n1 hz
  obtain ⟨c1, f1⟩ := cellsB m1
  go_wp2_with fail
  refine (HD.out _ hB1).mono ?_
  rintro e w2 ⟨rfl, hb2⟩
  clear c1 f1
  have hB2 := bstep hB1 hb2
  have m2 := (hb2.block _ (lt_at m1)).trans m1
  have k2 := (hb2.block _ (lt_at k1)).trans k1
  have hz2 : w.heap.size + 2 ≤ w2.heap.size := Nat.le_trans hz1 hb2.size
  clear hB1 hb2 m1 k1 hz1
  obtain ⟨c2, f2⟩ := cellsB m2
  go_wp2_with fail
  refine (HF.out _ hB2).mono ?_
  rintro e w3 ⟨rfl, hb3⟩
  clear c2 f2
  have hB3 := bstep hB2 hb3
  have m3 := (hb3.block _ (lt_at m2)).trans m2
  have k3 := (hb3.block _ (lt_at k2)).trans k2
  have hz3 : w.heap.size + 2 ≤ w3.heap.size := Nat.le_trans hz2 hb3.size
  clear hB2 hb3 m2 k2 hz2
  obtain ⟨c3, f3⟩ := cellsB m3
  go_wp2_with fail
  refine (HN.out _ hB3).mono ?_
  rintro e w4 ⟨rfl, hb4⟩
  clear c3 f3
  have hB4 := bstep hB3 hb4
  have m4 := (hb4.block _ (lt_at m3)).trans m3
  have k4 := (hb4.block _ (lt_at k3)).trans k3
  have hz4 : w.heap.size + 2 ≤ w4.heap.size := Nat.le_trans hz3 hb4.size
  clear hB3 hb4 m3 k3 hz3
  obtain ⟨c4, f4⟩ := cellsB m4
  obtain ⟨d4, j4⟩ := cellsB k4
  obtain ⟨r0, r1, r2⟩ : w4.cell? ⟨w.heap.size, 0, none⟩ = some (.int .i64 b) ∧ w4.cell? ⟨w.heap.size, 1, none⟩ = some (.int .i64 t) ∧ w4.cell? ⟨w.heap.size, 2, none⟩ = some s := ⟨c4 0, c4 1, c4 2⟩
  have hz0 := lt_at m4
  have hz1 := lt_at k4
  have HK : Hid (w4.heap[w.heap.size + 1]? = some (logO 0 0 (.slice none 0 0))) := k4
  have HZ : Hid (w.heap.size + 2 ≤ w4.heap.size) := hz4
  have hBL : w.heap.size ≤ w.heap.size + 1 := by omega
  have hne : ¬ w.heap.size + 1 = w.heap.size := by omega
  have hne' : ¬ w.heap.size = w.heap.size + 1 := by omega
  have HB1 : Hid (w.heap.size + 1 < w.heap.size + 2) := by show w.heap.size + 1 < w.heap.size + 2; omega
  clear c4 k4 m4 hz4
  generalize w.heap.size + 1 = b1 at *
  generalize hb0 : w.heap.size = b0 at r0 r1 r2 hne hne' hz0 f4 ⊢
  have HB0 : Hid (w.heap.size = b0) := hb0
  clear hb0
  go_wp2_with fail
  go_region_held3 (fun w' => w'.cell? ⟨b0, 0, none⟩ = some (.int .i64 b) ∧ w'.cell? ⟨b0, 1, none⟩ = some (.int .i64 t) ∧ w'.cell? ⟨b0, 2, none⟩ = some s) (go_keep) (first
    | (go_at_call 19; (with_reducible refine (HLd.out _ hB4.drew).mono ?_); rintro e w5 ⟨r, rfl, hown, hb5⟩; obtain ⟨sa, sc, rfl⟩ := hown.shape; obtain ⟨x1, x2⟩ := same_block (hb5.block b0 hz0); obtain ⟨x3, x4⟩ := same_block (hb5.block b1 hz1); have hzx : b0 < w5.heap.size := Nat.lt_of_lt_of_le hz0 hb5.size; have hzy : b1 < w5.heap.size := Nat.lt_of_lt_of_le hz1 hb5.size))
  have n5 := (hb5.block b1 hz1).trans HK.out
  have hB5 : Below w.heap.size w w5 := bstep hB4.drew hb5
  have ho5 : OwnI (w.heap.size + 2) w5 (.slice sa M.length sc) M := OwnI.base hown HZ.out
  obtain ⟨y1, y2⟩ := cellsB n5
  clear x1 x2 x3 x4 hown hb5
  go_wp2_with fail
  have N5 : (((w5.setCell ⟨b1, 0, none⟩ (.int .i64 b)).setCell ⟨b1, 1, none⟩ (.int .i64 t)).setCell ⟨b1, 2, none⟩ (.slice sa M.length sc)).heap[b1]? = some (logO b t (.slice sa M.length sc)) := setCell_at _ (setCell_at _ (setCell_at _ n5))
  have HB5 : Below w.heap.size w (((w5.setCell ⟨b1, 0, none⟩ (.int .i64 b)).setCell ⟨b1, 1, none⟩ (.int .i64 t)).setCell ⟨b1, 2, none⟩ (.slice sa M.length sc)) := ((hB5.setCell hBL _).setCell hBL _).setCell hBL _
  have HO5 : OwnI (w.heap.size + 2) (((w5.setCell ⟨b1, 0, none⟩ (.int .i64 b)).setCell ⟨b1, 1, none⟩ (.int .i64 t)).setCell ⟨b1, 2, none⟩ (.slice sa M.length sc)) (.slice sa M.length sc) M := OwnI.setCell (OwnI.setCell (OwnI.setCell ho5 HB1.out _) HB1.out _) HB1.out _
  generalize ((w5.setCell ⟨b1, 0, none⟩ (.int .i64 b)).setCell ⟨b1, 1, none⟩ (.int .i64 t)).setCell ⟨b1, 2, none⟩ (.slice sa M.length sc) = V5 at N5 HB5 HO5 ⊢
  refine (HE.out _ _ (HO5.row (by omega))).mono ?_
  rintro e w6 ⟨rfl, hb6⟩
  have hB6 := bstep HB5 hb6
  have n6 := (hb6.block _ (lt_at N5)).trans N5
  have ho6 := OwnI.kept HO5 hb6
  obtain ⟨z1, z2⟩ := cellsB n6
  have hy := lt_at n6
  clear N5 HB5 HO5 hb6 n6 n5 y1 y2 ho5 hB5
  go_wp2_with fail
  refine bodyPost_ret (v := .tuple #[logV b t (.slice sa M.length sc), .bool true, .int .i64 F, .int .i64 0]) (by simp [results, Try.results6, go_sem, z1]) rfl ⟨_, rfl, ?_, ?_⟩
  · refine OwnI.base (B := w.heap.size + 2) ?_ (by omega)
    exact OwnI.setCell (OwnI.setCell (OwnI.setCell ho6 HB1.out _) HB1.out _) HB1.out _
  · exact ((hB6.setCell hBL _).setCell hBL _).setCell hBL _

set_option maxHeartbeats 8000000 in
theorem match_full (g : Lg) (s : Value) (p q : Int) (xs : Value) (x : List Itm) (w : World) (hr : RowI w s g.items) (hx : RowI w xs x) (hk : g.okB = true) (hm : Lg.okB ⟨p, q, x⟩ = true) (hf : g.fitB p q = true) (hn : g.freshAt p x ≠ 0) (hl : (g.laidAt p x).okB = false) :
    Calls Try.prog 6 #[logV g.base g.term s, .int .i64 p, .int .i64 q, xs] w (MatchOk w ⟨nilLg, false, 0, 6⟩) := by
  have hle := okB_le hk
  have hme := okB_le hm
  have HC : Hid (∀ W, Below w.heap.size w W → Calls Try.prog 15 #[logV g.base g.term s] W fun e w' => e = .returned (.int .i64 0) ∧ Below W.heap.size W w') := fun W hW => by
    have := check_any g s W (hr.below hW); rwa [fault_yes hk] at this
  have HD : Hid (∀ W, Below w.heap.size w W → Calls Try.prog 15 #[logV p q xs] W fun e w' => e = .returned (.int .i64 0) ∧ Below W.heap.size W w') := fun W hW => by
    have := check_any ⟨p, q, x⟩ xs W (hx.below hW); rwa [fault_yes hm] at this
  have HF : Hid (∀ W, Below w.heap.size w W → Calls Try.prog 16 #[logV g.base g.term s, .int .i64 p, .int .i64 q] W fun e w' => e = .returned (.bool true) ∧ Below W.heap.size W w') := fun W hW => by
    have := fit_any g s p q W (hr.below hW) hle.1 hle.2.1; rwa [hf] at this
  have hL : g.last = g.base + g.items.length := rfl
  have hpl : p ≤ g.last := by
    unfold Lg.fitB at hf
    split at hf
    · omega
    · split at hf
      · cases hf
      · omega
  have hsp := freshAt_spec g (by omega) x p hme.1 hpl hn
  have hme0 : 0 ≤ p := hme.1
  have hme1 : p + x.length ≤ 1048576 := hme.2.1
  have HN : Hid (∀ W, Below w.heap.size w W → Calls Try.prog 18 #[logV g.base g.term s, .int .i64 p, xs] W fun e w' => e = .returned (.int .i64 (g.freshAt p x)) ∧ Below W.heap.size W w') := fun W hW => by
    have := firstFresh_any g s p xs x W (hr.below hW) (hx.below hW) hle.1 hle.2.1 hme.1 hme.2.1; rwa [show g.freshAt p x = g.freshAt p x from rfl] at this
  have hla : g.laidAt p x = ⟨g.base, g.term, g.items.take (g.freshAt p x - g.base - 1).toNat ++ x.drop (g.freshAt p x - p - 1).toNat⟩ := rfl
  have hme2 : x.length ≤ 200 := hme.2.2.1
  generalize g.freshAt p x = F at *
  generalize hkk : (F - g.base - 1).toNat = k at *
  generalize hjj : (F - p - 1).toNat = j at *
  have hF1 : F = g.base + 1 + k := by omega
  have hF2 : F = p + 1 + j := by omega
  have hkl : k ≤ g.items.length := by omega
  have hjl : j < x.length := by omega
  have hla2 := hla
  generalize hG : g.laidAt p x = G at *
  obtain ⟨xa, xc, rfl⟩ : ∃ a c, xs = .slice a x.length c := by obtain ⟨-, a, c, rfl, -⟩ := hx; exact ⟨_, _, rfl⟩
  obtain ⟨bk, off, rfl⟩ : ∃ bk off, xa = some ⟨bk, off, none⟩ := by
    obtain ⟨-, a, c, he, -, -, h3⟩ := hx
    simp only [Value.slice.injEq, true_and] at he
    obtain ⟨rfl, rfl⟩ := he
    rcases h3 with rfl | ⟨bk, off, rfl, -⟩
    · simp at hjl
    · exact ⟨_, _, rfl⟩
  have hxc : x.length ≤ xc ∧ xc ≤ 9223372036854775807 := by
    obtain ⟨-, a', c', he, q1, q2, -⟩ := hx
    simp only [Value.slice.injEq, true_and] at he
    omega
  have HLd : Hid (∀ W, Below w.heap.size w W → Calls Try.prog 19 #[logV g.base g.term s, .int .i64 F, .slice (some ⟨bk, off + j * 10, none⟩) (x.length - j) (xc - j)] W fun e w' => ∃ r, e = .returned (logV g.base g.term r) ∧ OwnI W.heap.size w' r (g.items.take k ++ x.drop j) ∧ Below W.heap.size W w') := fun W hW => by
    rw [hF1]
    exact laid_any g.base g.term s g.items k _ _ W (hr.below hW) (RowI.piece (hx.below hW) j (by omega) rfl hjl) hle.1 hle.2.1 hkl (by simp; omega)
  have hfa : Lg.fault ⟨g.base, g.term, g.items.take k ++ x.drop j⟩ = 13 := by rw [← hla2]; exact fault_not hl
  have HE : Hid (∀ W r, RowI W r (g.items.take k ++ x.drop j) → Calls Try.prog 15 #[logV g.base g.term r] W fun e w' => e = .returned (.int .i64 13) ∧ Below W.heap.size W w') := fun W r h => by
    have := check_any ⟨g.base, g.term, g.items.take k ++ x.drop j⟩ r W h
    rwa [hfa] at this
  have hLl : (g.items.take k ++ x.drop j).length ≤ 400 := by simp; omega
  subst hla2
  obtain ⟨b, t, l⟩ := g
  simp only at *
  generalize l.take k ++ x.drop j = M at *
  have w1' : IntKind.i64.wrap (F - p) = 1 + j := by rw [IntKind.wrap_i64]; omega
  have w2' : IntKind.i64.wrap (1 + (j : Int) - 1) = j := by rw [IntKind.wrap_i64]; omega
  have w3' : wrap64 (F - p) = 1 + j := by unfold wrap64; omega
  have w4' : wrap64 (1 + (j : Int) - 1) = j := by unfold wrap64; omega
  have hj0 : (j : Int) ≤ (x.length : Int) := by omega
  have hjc : ¬ xc = j := by omega
  have hF0 : (F == 0) = false := by simp; omega
  have HF2 : Hid (F = p + 1 + j) := hF2
  clear hr hx hk hm hf hle hme hn hL hpl hsp hme0 hme1 hla hkk hjj hF1 hkl hG hl hme2 hF2 hfa
  go_enter Try.func6, Try.ntmps6
  go_wp2_with fail
  obtain ⟨n0, n1, hB0, hs0⟩ := two_at w (logO b t s) (logO 0 0 (.slice none 0 0))
  generalize (w.alloc (logO b t s)).alloc (logO 0 0 (.slice none 0 0)) = V at n0 n1 hB0 hs0 ⊢
  have hz : w.heap.size + 2 ≤ V.heap.size := by omega
  clear hs0
  refine (HC.out _ hB0).mono ?_
  rintro e w1 ⟨rfl, hb1⟩
  have hB1 := bstep hB0 hb1
  have m1 := (hb1.block _ (lt_at n0)).trans n0
  have k1 := (hb1.block _ (lt_at n1)).trans n1
  have hz1 : w.heap.size + 2 ≤ w1.heap.size := Nat.le_trans hz hb1.size
  clear hB0 hb1 n0 n1 hz
  obtain ⟨c1, f1⟩ := cellsB m1
  go_wp2_with fail
  refine (HD.out _ hB1).mono ?_
  rintro e w2 ⟨rfl, hb2⟩
  clear c1 f1
  have hB2 := bstep hB1 hb2
  have m2 := (hb2.block _ (lt_at m1)).trans m1
  have k2 := (hb2.block _ (lt_at k1)).trans k1
  have hz2 : w.heap.size + 2 ≤ w2.heap.size := Nat.le_trans hz1 hb2.size
  clear hB1 hb2 m1 k1 hz1
  obtain ⟨c2, f2⟩ := cellsB m2
  go_wp2_with fail
  refine (HF.out _ hB2).mono ?_
  rintro e w3 ⟨rfl, hb3⟩
  clear c2 f2
  have hB3 := bstep hB2 hb3
  have m3 := (hb3.block _ (lt_at m2)).trans m2
  have k3 := (hb3.block _ (lt_at k2)).trans k2
  have hz3 : w.heap.size + 2 ≤ w3.heap.size := Nat.le_trans hz2 hb3.size
  clear hB2 hb3 m2 k2 hz2
  obtain ⟨c3, f3⟩ := cellsB m3
  go_wp2_with fail
  refine (HN.out _ hB3).mono ?_
  rintro e w4 ⟨rfl, hb4⟩
  clear c3 f3
  have hB4 := bstep hB3 hb4
  have m4 := (hb4.block _ (lt_at m3)).trans m3
  have k4 := (hb4.block _ (lt_at k3)).trans k3
  have hz4 : w.heap.size + 2 ≤ w4.heap.size := Nat.le_trans hz3 hb4.size
  clear hB3 hb4 m3 k3 hz3
  obtain ⟨c4, f4⟩ := cellsB m4
  obtain ⟨d4, j4⟩ := cellsB k4
  obtain ⟨r0, r1, r2⟩ : w4.cell? ⟨w.heap.size, 0, none⟩ = some (.int .i64 b) ∧ w4.cell? ⟨w.heap.size, 1, none⟩ = some (.int .i64 t) ∧ w4.cell? ⟨w.heap.size, 2, none⟩ = some s := ⟨c4 0, c4 1, c4 2⟩
  have hz0 := lt_at m4
  have hz1 := lt_at k4
  have HK : Hid (w4.heap[w.heap.size + 1]? = some (logO 0 0 (.slice none 0 0))) := k4
  have HZ : Hid (w.heap.size + 2 ≤ w4.heap.size) := hz4
  have hBL : w.heap.size ≤ w.heap.size + 1 := by omega
  have hne : ¬ w.heap.size + 1 = w.heap.size := by omega
  have hne' : ¬ w.heap.size = w.heap.size + 1 := by omega
  have HB1 : Hid (w.heap.size + 1 < w.heap.size + 2) := by show w.heap.size + 1 < w.heap.size + 2; omega
  clear c4 k4 m4 hz4
  generalize w.heap.size + 1 = b1 at *
  generalize hb0 : w.heap.size = b0 at r0 r1 r2 hne hne' hz0 f4 ⊢
  have HB0 : Hid (w.heap.size = b0) := hb0
  clear hb0
  go_wp2_with fail
  go_region_held3 (fun w' => w'.cell? ⟨b0, 0, none⟩ = some (.int .i64 b) ∧ w'.cell? ⟨b0, 1, none⟩ = some (.int .i64 t) ∧ w'.cell? ⟨b0, 2, none⟩ = some s) (go_keep) (first
    | (go_at_call 19; (with_reducible refine (HLd.out _ hB4.drew).mono ?_); rintro e w5 ⟨r, rfl, hown, hb5⟩; obtain ⟨sa, sc, rfl⟩ := hown.shape; obtain ⟨x1, x2⟩ := same_block (hb5.block b0 hz0); obtain ⟨x3, x4⟩ := same_block (hb5.block b1 hz1); have hzx : b0 < w5.heap.size := Nat.lt_of_lt_of_le hz0 hb5.size; have hzy : b1 < w5.heap.size := Nat.lt_of_lt_of_le hz1 hb5.size))
  have n5 := (hb5.block b1 hz1).trans HK.out
  have hB5 : Below w.heap.size w w5 := bstep hB4.drew hb5
  have ho5 : OwnI (w.heap.size + 2) w5 (.slice sa M.length sc) M := OwnI.base hown HZ.out
  obtain ⟨y1, y2⟩ := cellsB n5
  clear x1 x2 x3 x4 hown hb5
  go_wp2_with fail
  have N5 : (((w5.setCell ⟨b1, 0, none⟩ (.int .i64 b)).setCell ⟨b1, 1, none⟩ (.int .i64 t)).setCell ⟨b1, 2, none⟩ (.slice sa M.length sc)).heap[b1]? = some (logO b t (.slice sa M.length sc)) := setCell_at _ (setCell_at _ (setCell_at _ n5))
  have HB5 : Below w.heap.size w (((w5.setCell ⟨b1, 0, none⟩ (.int .i64 b)).setCell ⟨b1, 1, none⟩ (.int .i64 t)).setCell ⟨b1, 2, none⟩ (.slice sa M.length sc)) := ((hB5.setCell hBL _).setCell hBL _).setCell hBL _
  have HO5 : OwnI (w.heap.size + 2) (((w5.setCell ⟨b1, 0, none⟩ (.int .i64 b)).setCell ⟨b1, 1, none⟩ (.int .i64 t)).setCell ⟨b1, 2, none⟩ (.slice sa M.length sc)) (.slice sa M.length sc) M := OwnI.setCell (OwnI.setCell (OwnI.setCell ho5 HB1.out _) HB1.out _) HB1.out _
  generalize ((w5.setCell ⟨b1, 0, none⟩ (.int .i64 b)).setCell ⟨b1, 1, none⟩ (.int .i64 t)).setCell ⟨b1, 2, none⟩ (.slice sa M.length sc) = V5 at N5 HB5 HO5 ⊢
  refine (HE.out _ _ (HO5.row (by omega))).mono ?_
  rintro e w6 ⟨rfl, hb6⟩
  have hB6 := bstep HB5 hb6
  have n6 := (hb6.block _ (lt_at N5)).trans N5
  have ho6 := OwnI.kept HO5 hb6
  obtain ⟨z1, z2⟩ := cellsB n6
  have hy := lt_at n6
  clear N5 HB5 HO5 hb6 n6 n5 y1 y2 ho5 hB5
  go_wp2_with fail
  refine bodyPost_ret (v := .tuple #[logV 0 0 (.slice none 0 0), .bool false, .int .i64 0, .int .i64 6]) (by simp [results, Try.results6, go_sem, z1]) rfl ⟨_, rfl, OwnI.nil _ _, ?_⟩
  exact ((hB6.setCell hBL _).setCell hBL _).setCell hBL _

theorem match_any (g : Lg) (s : Value) (p q : Int) (xs : Value) (x : List Itm) (w : World) (hr : RowI w s g.items) (hx : RowI w xs x) :
    Calls Try.prog 6 #[logV g.base g.term s, .int .i64 p, .int .i64 q, xs] w (MatchOk w (g.matchR p q x)) := by
  unfold Lg.matchR
  cases hk : g.okB with
  | false => exact match_badlog g s p q xs x w hr hx hk
  | true =>
    cases hm : Lg.okB ⟨p, q, x⟩ with
    | false => exact match_baditems g s p q xs x w hr hx hk hm
    | true =>
      cases hf : g.fitB p q with
      | false => exact match_notfit g s p q xs x w hr hx hk hm hf
      | true =>
        by_cases hn : g.freshAt p x = 0
        · simp only [hn, if_true]
          exact match_same g s p q xs x w hr hx hk hm hf hn
        · simp only [hn, if_true, if_false]
          cases hl : (g.laidAt p x).okB with
          | false => exact match_full g s p q xs x w hr hx hk hm hf hn hl
          | true => exact match_laid g s p q xs x w hr hx hk hm hf hn hl
end Go.Proofs.Ytpbgadojocgefaa
