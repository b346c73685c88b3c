/- Behind an item of another term nothing fits, nor behind what is not there; the log stays as it was: for all raw numbers, every base, place and number the law returns true. No condition. -/
import Derived.Test.YteghlkckccdlcaaMa
import Derived.Test.YteghlkckccdlcaaHk
import Derived.Test.YteghlkckccdlcaaOj
import Derived.Test.YteghlkckccdlcaaBx
import Derived.Test.YteghlkckccdlcaaQt
namespace Go.Proofs.Yteghlkckccdlcaa.matchNotDone
open Go.ChangeShapes Go.WideShapes Go.ChangeAt Go.RowKit
open Go.Proofs.Yteghlkckccdlcaa
set_option linter.unusedVariables false
set_option maxRecDepth 100000

theorem termR_at (g : Lg) (k : Nat) (hk : g.okB = true) (h : k ≤ g.items.length) : g.termR (g.base + k) = (g.termAt (g.base + k), 0) := by
  have hle := okB_le hk
  have hL : g.last = g.base + g.items.length := rfl
  have : placeI g.base g.last (g.base + k) = 0 := by unfold placeI heldI; rw [if_neg (by omega), if_neg (by omega), if_neg (by omega)]
  simp [Lg.termR, hk, this]
theorem notfit_term (g : Lg) (p q : Int) (h : q ≠ g.termAt p) (h0 : g.base ≤ p) (h1 : p ≤ g.last) : g.fitB p q = false := by
  unfold Lg.fitB
  rw [if_neg (by omega), if_neg (by omega)]
  simp; omega
theorem notfit_last (g : Lg) (p q : Int) (h0 : g.base ≤ p) (h1 : g.last < p) : g.fitB p q = false := by
  unfold Lg.fitB
  rw [if_neg (by omega), if_pos h1]

set_option maxHeartbeats 16000000 in
theorem walk0 (s : Value) (l : List Deed) (base at' num : Int) (w : World) (hd : DeedsAt w s l) (b1 : in64 base) (b2 : in64 at') (b3 : in64 num) :
    Calls Try.prog 6 #[s, .int .i64 base, .int .i64 at', .int .i64 num] w fun e w' => e = .returned (.bool true) ∧ Below w.heap.size w w' := by
  have hG := log_any s l base w hd b1.1 b1.2
  have hk := logFor_ok l base
  have hs := logFor_small l base
  have htt := logFor_terms l base
  generalize logFor l base = g at *
  have HG : Hid (Calls Try.prog 18 #[s, .int .i64 base] w fun e w' => ∃ r, e = .returned (logV g.base g.term r) ∧ OwnI w.heap.size w' r g.items ∧ Below w.heap.size w w') := hG
  clear hG
  have hL : g.last = g.base + g.items.length := rfl
  have p1 := fun W => picked_any at' (g.items.length + 1) W b2.1 b2.2 (by omega) (by omega)
  have l1 := pickedN_lt at' (show 0 < g.items.length + 1 by omega)
  rw [show ((g.items.length + 1 : Nat) : Int) = (g.items.length : Int) + 1 by omega] at p1
  generalize pickedN at' (g.items.length + 1) = k at *
  have hkl : k ≤ g.items.length := by omega
  have p2 := fun W => picked_any num 9 W b3.1 b3.2 (by omega) (by omega)
  have l2 := pickedN_lt num (show 0 < 9 by omega)
  generalize pickedN num 9 = m at *
  have hT := fun (W : World) (r : Value) (h : RowI W r g.items) => term_any g r (g.base + k) W h
  rw [termR_at g k hk hkl] at hT
  have hTb := htt (g.base + k) (by omega) (by omega)
  have hX := fun (p q : Int) (hp : 1 ≤ p ∧ p ≤ 1048576 ∧ 1 ≤ q ∧ q ≤ 1048576) (W : World) (r : Value) (h : RowI W r g.items) => by
    have := match_any g r p q (.slice none 0 0) [] W h (RowAt.nil 10 encIt W).toI
    rwa [matchR_none g p q hk (okB_none hp)] at this
  have hY := hX (g.base + g.items.length + 1 + m) 5000 (by omega)
  rw [notfit_last g _ _ (by omega) (by omega)] at hY
  have hS := fun (W : World) (r r' : Value) (h : RowI W r g.items) (h' : RowI W r' g.items) => sameLogK g.base g.term r r' g.items W h h'
  obtain ⟨P, F, hP1, hP2, hP3, hPX⟩ : ∃ (P : Int) (F : Bool), 1 ≤ P ∧ (P = if g.base + (k : Int) = 0 then 1 else g.base + k) ∧ (g.base + (k : Int) ≠ 0 → F = false) ∧ (∀ (W : World) (r : Value), RowI W r g.items → Calls Try.prog 14 #[logV g.base g.term r, .int .i64 P, .int .i64 (g.termAt (g.base + k) + 1 + m), .slice none 0 0] W (MatchOk W ⟨g, F, 0, 0⟩)) := by
    by_cases h0 : g.base + (k : Int) = 0
    · exact ⟨1, _, by omega, by rw [if_pos h0], fun h => absurd h0 h, hX 1 _ (by omega)⟩
    · refine ⟨g.base + k, false, by omega, by rw [if_neg h0], fun _ => rfl, ?_⟩
      have := hX (g.base + k) (g.termAt (g.base + k) + 1 + m) (by omega)
      rwa [notfit_term g _ _ (by omega) (by omega) (by omega)] at this
  generalize g.termAt (g.base + k) = U at *
  obtain ⟨b, t, A⟩ := g
  simp only at *
  have P1 : Hid (∀ W, Calls Try.prog 19 #[.int .i64 at', .int .i64 ((A.length : Int) + 1)] W fun e w' => e = .returned (.int .i64 (k : Nat)) ∧ W = w') := p1
  have P2 : Hid (∀ W, Calls Try.prog 19 #[.int .i64 num, .int .i64 9] W fun e w' => e = .returned (.int .i64 (m : Nat)) ∧ W = w') := p2
  have HT : Hid (∀ (W : World) (r : Value), RowI W r A → Calls Try.prog 20 #[logV b t r, .int .i64 (b + k)] W fun e w' => e = .returned (.tuple #[.int .i64 U, .int .i64 0]) ∧ Below W.heap.size W w') := hT
  have HX : Hid (∀ (W : World) (r : Value), RowI W r A → Calls Try.prog 14 #[logV b t r, .int .i64 P, .int .i64 (U + 1 + m), .slice none 0 0] W (MatchOk W ⟨⟨b, t, A⟩, F, 0, 0⟩)) := hPX
  have HY : Hid (∀ (W : World) (r : Value), RowI W r A → Calls Try.prog 14 #[logV b t r, .int .i64 (b + A.length + 1 + m), .int .i64 5000, .slice none 0 0] W (MatchOk W ⟨⟨b, t, A⟩, false, 0, 0⟩)) := hY
  have HS : Hid (∀ (W : World) (r r' : Value), RowI W r A → RowI W r' A → Calls Try.prog 21 #[logV b t r, logV b t r'] W fun e w' => e = .returned (.bool true) ∧ Below W.heap.size W w') := hS
  have hAl : A.length ≤ 30 := hs.1
  have hb0 : 0 ≤ b := hs.2.1
  have hb9 : b ≤ 11 := hs.2.2
  clear hT hX hY hS p1 p2 hk hd b1 b2 b3 hs hPX htt hL
  have w1' : IntKind.i64.wrap (b + (k : Int)) = b + k := by rw [IntKind.wrap_i64]; omega
  have w2' : wrap64 (b + (k : Int)) = b + k := by unfold wrap64; omega
  have w3' : IntKind.i64.wrap (U + 1) = U + 1 := by rw [IntKind.wrap_i64]; omega
  have w4' : IntKind.i64.wrap (U + 1 + (m : Int)) = U + 1 + m := by rw [IntKind.wrap_i64]; omega
  have w5' : IntKind.i64.wrap (b + (A.length : Int)) = b + A.length := by rw [IntKind.wrap_i64]; omega
  have w6' : IntKind.i64.wrap (b + (A.length : Int) + 1) = b + A.length + 1 := by rw [IntKind.wrap_i64]; omega
  have w7' : IntKind.i64.wrap (b + (A.length : Int) + 1 + (m : Int)) = b + A.length + 1 + m := by rw [IntKind.wrap_i64]; omega
  go_enter Try.func6, Try.ntmps6
  go_wp2_with fail
  refine HG.out.mono ?_
  rintro e w1 ⟨r, rfl, hown, hb1⟩
  clear HG
  have hrow := hown.row (by omega)
  obtain ⟨sa, sc, rfl⟩ := hown.shape
  clear hown
  go_wp2_with fail
  have n1 := alloc_at w1 (logO b t (.slice sa A.length sc))
  have hB1 := hb1.alloc hb1.size (logO b t (.slice sa A.length sc))
  have hrow1 := hrow.below (balloc w1 (logO b t (.slice sa A.length sc)))
  clear hrow hb1
  generalize w1.alloc (logO b t (.slice sa A.length sc)) = V at n1 hB1 hrow1 ⊢
  generalize w1.heap.size = bg at n1 ⊢
  have inst := Grown.isThere V
  obtain ⟨u1, u2⟩ := Grown.cells n1
  refine wp_region_grown (by kernel_rfl) (by kernel_rfl) ?_
  repeat (first | go_big_quiet_skip | (go_big_quiet_want; go_big_quiet_op; first | go_big_quiet_on | (apply Exists.intro; refine ⟨fun _ => ?_, ?_⟩; (· (go_at_call 19; exact Calls.grown_same _ P1.out)); go_big_quiet_on)))
  refine wpQuiet_nil ?_
  rintro _ ⟨⟨w2, hb2⟩, rfl⟩
  have n2 := (hb2.block bg (lt_at n1)).trans n1
  have hB2 := bstep hB1 hb2
  have hrow2 := hrow1.below hb2
  clear hB1 hb2 hrow1 n1 P1 u1 u2 inst
  obtain ⟨c1, f1⟩ := cellsB n2
  go_wp2_with fail
  refine (HT.out _ _ hrow2).mono ?_
  rintro e w4 ⟨rfl, hb4⟩
  have HN3 : Hid (w4.heap[bg]? = some (logO b t (.slice sa A.length sc))) := (hb4.block bg (lt_at n2)).trans n2
  have hB3 := bstep hB2 hb4
  have hrow3 := hrow2.below hb4
  have HRa : Hid (∀ W, Below w4.heap.size w4 W → RowI W (.slice sa A.length sc) A) := fun W hW => hrow3.below hW
  clear hB2 hb4 hrow2 n2 c1 f1 HT
  have hzga := lt_at HN3.out
  obtain ⟨c3, f3⟩ := cellsB HN3.out
  obtain ⟨r0, r1, r2⟩ : w4.cell? ⟨bg, 0, none⟩ = some (.int .i64 b) ∧ w4.cell? ⟨bg, 1, none⟩ = some (.int .i64 t) ∧ w4.cell? ⟨bg, 2, none⟩ = some (.slice sa A.length sc) := ⟨c3 0, c3 1, c3 2⟩
  clear c3 hrow3
  by_cases hK : b + (k : Int) = 0
  · rw [if_pos hK] at hP2
    subst hP2
    have hmx : max (b + (k : Int)) 1 = 1 := by omega
    have hKb : (b + (k : Int) == 0) = true := by simpa using hK
    clear hP3 hP1 hK
    have hzaa : bg < (w4.alloc (logO 0 0 (.slice none 0 0))).drew.heap.size := Nat.lt_of_lt_of_le hzga (by simp [World.drew])
    have hzba : w4.heap.size < (w4.alloc (logO 0 0 (.slice none 0 0))).drew.heap.size := by simp [World.drew]
    have hnea : ¬ bg = w4.heap.size := by omega
    have hnfa : ¬ w4.heap.size = bg := by omega
    go_wp2_with fail
    go_region_held3 (fun w' => w'.cell? ⟨bg, 0, none⟩ = some (.int .i64 b) ∧ w'.cell? ⟨bg, 1, none⟩ = some (.int .i64 t) ∧ w'.cell? ⟨bg, 2, none⟩ = some (.slice sa A.length sc)) (go_keep) (first
      | (go_at_call 19; (with_reducible refine (P2.out _).mono ?_); rintro e wz ⟨rfl, rfl⟩)
      | (go_at_call 14; (with_reducible refine (HX.out _ _ (HRa.out _ (Below.refl _ _).drew)).mono ?_); rintro e w3 ⟨r, rfl, hown, hb3⟩; obtain ⟨ya, yc, rfl⟩ := hown.shape; obtain ⟨x1, x2⟩ := same_block (hb3.block bg hzga))
      | (go_at_call 14; (with_reducible refine (HX.out _ _ (HRa.out _ (balloc _ _).drew)).mono ?_); rintro e w3 ⟨r, rfl, hown, hb3⟩; obtain ⟨ya, yc, rfl⟩ := hown.shape; obtain ⟨x1, x2⟩ := same_block (hb3.block bg hzaa); obtain ⟨x3, x4⟩ := same_block (hb3.block w4.heap.size hzba)))
    all_goals
      first
      | (obtain ⟨mxa, upa, hoa⟩ := boxA (w2 := w4) (b := b) (t := t) hown hb3 (by show A.length ≤ _; omega)
         clear x1 x2 hown hb3
         generalize w3.alloc (logO b t (.slice ya A.length yc)) = V3 at *
         generalize w3.heap.size = bxa at *)
      | (obtain ⟨mxa, upa, hoa⟩ := boxB (w2 := w4) (b := b) (t := t) rfl rfl hown hb3 (by show A.length ≤ _; omega)
         clear x1 x2 x3 x4 hown hb3
         generalize ((w3.setCell ⟨w4.heap.size, 0, none⟩ (.int .i64 b)).setCell ⟨w4.heap.size, 1, none⟩ (.int .i64 t)).setCell ⟨w4.heap.size, 2, none⟩ (.slice ya A.length yc) = V3 at *
         generalize w4.heap.size = bxa at mxa ⊢)
      have ng := (upa.block bg hzga).trans HN3.out
      have hB4 := bstep hB3 upa
      have HRb : Hid (∀ W, Below V3.heap.size V3 W → RowI W (.slice sa A.length sc) A) := fun W hW => (HRa.out _ upa).below hW
      have HXb : Hid (∀ W, Below V3.heap.size V3 W → RowI W (.slice ya A.length yc) A) := fun W hW => hoa.below hW
      have HNb : Hid (V3.heap[bg]? = some (logO b t (.slice sa A.length sc))) := ng
      have HNx : Hid (V3.heap[bxa]? = some (logO b t (.slice ya A.length yc))) := mxa
      have hzgb := lt_at ng
      have hzxb := lt_at mxa
      clear r0 r1 r2 f3 upa hoa HRa HX
      obtain ⟨c4, f4⟩ := cellsB ng
      obtain ⟨r0, r1, r2⟩ : V3.cell? ⟨bg, 0, none⟩ = some (.int .i64 b) ∧ V3.cell? ⟨bg, 1, none⟩ = some (.int .i64 t) ∧ V3.cell? ⟨bg, 2, none⟩ = some (.slice sa A.length sc) := ⟨c4 0, c4 1, c4 2⟩
      clear c4 ng mxa
      have hzab : bg < (V3.alloc (logO 0 0 (.slice none 0 0))).drew.heap.size := Nat.lt_of_lt_of_le hzgb (by simp [World.drew])
      have hzbb : V3.heap.size < (V3.alloc (logO 0 0 (.slice none 0 0))).drew.heap.size := by simp [World.drew]
      have hneb : ¬ bg = V3.heap.size := by omega
      have hnfb : ¬ V3.heap.size = bg := by omega
      go_wp2_with fail
      go_region_held3 (fun w' => w'.cell? ⟨bg, 0, none⟩ = some (.int .i64 b) ∧ w'.cell? ⟨bg, 1, none⟩ = some (.int .i64 t) ∧ w'.cell? ⟨bg, 2, none⟩ = some (.slice sa A.length sc)) (go_keep) (first
        | (go_at_call 19; (with_reducible refine (P2.out _).mono ?_); rintro e wz ⟨rfl, rfl⟩)
        | (go_at_call 14; (with_reducible refine (HY.out _ _ (HRb.out _ (Below.refl _ _).drew)).mono ?_); rintro e w3 ⟨r, rfl, hown, hb3⟩; obtain ⟨ya, yc, rfl⟩ := hown.shape; obtain ⟨x1, x2⟩ := same_block (hb3.block bg hzgb))
        | (go_at_call 14; (with_reducible refine (HY.out _ _ (HRb.out _ (balloc _ _).drew)).mono ?_); rintro e w3 ⟨r, rfl, hown, hb3⟩; obtain ⟨ya, yc, rfl⟩ := hown.shape; obtain ⟨x1, x2⟩ := same_block (hb3.block bg hzab); obtain ⟨x3, x4⟩ := same_block (hb3.block V3.heap.size hzbb)))
      all_goals
        first
        | (obtain ⟨mxb, upb, hob⟩ := boxA (w2 := V3) (b := b) (t := t) hown hb3 (by show A.length ≤ _; omega)
           clear x1 x2 hown hb3
           generalize w3.alloc (logO b t (.slice ya A.length yc)) = V4 at *
           generalize w3.heap.size = bxb at *)
        | (obtain ⟨mxb, upb, hob⟩ := boxB (w2 := V3) (b := b) (t := t) rfl rfl hown hb3 (by show A.length ≤ _; omega)
           clear x1 x2 x3 x4 hown hb3
           generalize ((w3.setCell ⟨V3.heap.size, 0, none⟩ (.int .i64 b)).setCell ⟨V3.heap.size, 1, none⟩ (.int .i64 t)).setCell ⟨V3.heap.size, 2, none⟩ (.slice ya A.length yc) = V4 at *
           generalize V3.heap.size = bxb at mxb ⊢)
        have ng := (upb.block bg hzgb).trans HNb.out
        have nx := (upb.block bxa hzxb).trans HNx.out
        have hB5 := bstep hB4 upb
        have hr5 := HRb.out _ upb
        have hx5 := HXb.out _ upb
        have hz1 := lt_at ng
        have hz2 := lt_at nx
        have hz3 := lt_at mxb
        obtain ⟨d1, g1⟩ := cellsB mxb
        obtain ⟨d2, g2⟩ := cellsB ng
        clear r0 r1 r2 f4 HY P2
        go_wp2_with fail
        refine (HS.out _ _ _ hob hr5).mono ?_
        rintro e w6 ⟨rfl, hb6⟩
        have hB6 := bstep hB5 hb6
        have n6 := (hb6.block _ hz1).trans ng
        have m6 := (hb6.block _ hz2).trans nx
        have hr6 := hr5.below hb6
        have hx6 := hx5.below hb6
        clear d1 g1 d2 g2 hb6 hr5 hx5 ng nx hB5 mxb hob upb
        obtain ⟨d1, g1⟩ := cellsB n6
        obtain ⟨d2, g2⟩ := cellsB m6
        go_wp2_with fail
        refine (HS.out _ _ _ hx6 hr6).mono ?_
        rintro e w7 ⟨rfl, hb7⟩
        have hB7 := bstep hB6 hb7
        go_wp2_with fail
        go_ret
        exact ⟨rfl, hB7⟩
  · obtain rfl := hP3 hK
    rw [if_neg hK] at hP2
    subst hP2
    have hmx : max (b + (k : Int)) 1 = b + k := by omega
    have hKb : (b + (k : Int) == 0) = false := by simpa using hK
    clear hP3
    have hzaa : bg < (w4.alloc (logO 0 0 (.slice none 0 0))).drew.heap.size := Nat.lt_of_lt_of_le hzga (by simp [World.drew])
    have hzba : w4.heap.size < (w4.alloc (logO 0 0 (.slice none 0 0))).drew.heap.size := by simp [World.drew]
    have hnea : ¬ bg = w4.heap.size := by omega
    have hnfa : ¬ w4.heap.size = bg := by omega
    go_wp2_with fail
    go_region_held3 (fun w' => w'.cell? ⟨bg, 0, none⟩ = some (.int .i64 b) ∧ w'.cell? ⟨bg, 1, none⟩ = some (.int .i64 t) ∧ w'.cell? ⟨bg, 2, none⟩ = some (.slice sa A.length sc)) (go_keep) (first
      | (go_at_call 19; (with_reducible refine (P2.out _).mono ?_); rintro e wz ⟨rfl, rfl⟩)
      | (go_at_call 14; (with_reducible refine (HX.out _ _ (HRa.out _ (Below.refl _ _).drew)).mono ?_); rintro e w3 ⟨r, rfl, hown, hb3⟩; obtain ⟨ya, yc, rfl⟩ := hown.shape; obtain ⟨x1, x2⟩ := same_block (hb3.block bg hzga))
      | (go_at_call 14; (with_reducible refine (HX.out _ _ (HRa.out _ (balloc _ _).drew)).mono ?_); rintro e w3 ⟨r, rfl, hown, hb3⟩; obtain ⟨ya, yc, rfl⟩ := hown.shape; obtain ⟨x1, x2⟩ := same_block (hb3.block bg hzaa); obtain ⟨x3, x4⟩ := same_block (hb3.block w4.heap.size hzba)))
    all_goals
      first
      | (obtain ⟨mxa, upa, hoa⟩ := boxA (w2 := w4) (b := b) (t := t) hown hb3 (by show A.length ≤ _; omega)
         clear x1 x2 hown hb3
         generalize w3.alloc (logO b t (.slice ya A.length yc)) = V3 at *
         generalize w3.heap.size = bxa at *)
      | (obtain ⟨mxa, upa, hoa⟩ := boxB (w2 := w4) (b := b) (t := t) rfl rfl hown hb3 (by show A.length ≤ _; omega)
         clear x1 x2 x3 x4 hown hb3
         generalize ((w3.setCell ⟨w4.heap.size, 0, none⟩ (.int .i64 b)).setCell ⟨w4.heap.size, 1, none⟩ (.int .i64 t)).setCell ⟨w4.heap.size, 2, none⟩ (.slice ya A.length yc) = V3 at *
         generalize w4.heap.size = bxa at mxa ⊢)
      have ng := (upa.block bg hzga).trans HN3.out
      have hB4 := bstep hB3 upa
      have HRb : Hid (∀ W, Below V3.heap.size V3 W → RowI W (.slice sa A.length sc) A) := fun W hW => (HRa.out _ upa).below hW
      have HXb : Hid (∀ W, Below V3.heap.size V3 W → RowI W (.slice ya A.length yc) A) := fun W hW => hoa.below hW
      have HNb : Hid (V3.heap[bg]? = some (logO b t (.slice sa A.length sc))) := ng
      have HNx : Hid (V3.heap[bxa]? = some (logO b t (.slice ya A.length yc))) := mxa
      have hzgb := lt_at ng
      have hzxb := lt_at mxa
      clear r0 r1 r2 f3 upa hoa HRa HX
      obtain ⟨c4, f4⟩ := cellsB ng
      obtain ⟨r0, r1, r2⟩ : V3.cell? ⟨bg, 0, none⟩ = some (.int .i64 b) ∧ V3.cell? ⟨bg, 1, none⟩ = some (.int .i64 t) ∧ V3.cell? ⟨bg, 2, none⟩ = some (.slice sa A.length sc) := ⟨c4 0, c4 1, c4 2⟩
      clear c4 ng mxa
      have hzab : bg < (V3.alloc (logO 0 0 (.slice none 0 0))).drew.heap.size := Nat.lt_of_lt_of_le hzgb (by simp [World.drew])
      have hzbb : V3.heap.size < (V3.alloc (logO 0 0 (.slice none 0 0))).drew.heap.size := by simp [World.drew]
      have hneb : ¬ bg = V3.heap.size := by omega
      have hnfb : ¬ V3.heap.size = bg := by omega
      go_wp2_with fail
      go_region_held3 (fun w' => w'.cell? ⟨bg, 0, none⟩ = some (.int .i64 b) ∧ w'.cell? ⟨bg, 1, none⟩ = some (.int .i64 t) ∧ w'.cell? ⟨bg, 2, none⟩ = some (.slice sa A.length sc)) (go_keep) (first
        | (go_at_call 19; (with_reducible refine (P2.out _).mono ?_); rintro e wz ⟨rfl, rfl⟩)
        | (go_at_call 14; (with_reducible refine (HY.out _ _ (HRb.out _ (Below.refl _ _).drew)).mono ?_); rintro e w3 ⟨r, rfl, hown, hb3⟩; obtain ⟨ya, yc, rfl⟩ := hown.shape; obtain ⟨x1, x2⟩ := same_block (hb3.block bg hzgb))
        | (go_at_call 14; (with_reducible refine (HY.out _ _ (HRb.out _ (balloc _ _).drew)).mono ?_); rintro e w3 ⟨r, rfl, hown, hb3⟩; obtain ⟨ya, yc, rfl⟩ := hown.shape; obtain ⟨x1, x2⟩ := same_block (hb3.block bg hzab); obtain ⟨x3, x4⟩ := same_block (hb3.block V3.heap.size hzbb)))
      all_goals
        first
        | (obtain ⟨mxb, upb, hob⟩ := boxA (w2 := V3) (b := b) (t := t) hown hb3 (by show A.length ≤ _; omega)
           clear x1 x2 hown hb3
           generalize w3.alloc (logO b t (.slice ya A.length yc)) = V4 at *
           generalize w3.heap.size = bxb at *)
        | (obtain ⟨mxb, upb, hob⟩ := boxB (w2 := V3) (b := b) (t := t) rfl rfl hown hb3 (by show A.length ≤ _; omega)
           clear x1 x2 x3 x4 hown hb3
           generalize ((w3.setCell ⟨V3.heap.size, 0, none⟩ (.int .i64 b)).setCell ⟨V3.heap.size, 1, none⟩ (.int .i64 t)).setCell ⟨V3.heap.size, 2, none⟩ (.slice ya A.length yc) = V4 at *
           generalize V3.heap.size = bxb at mxb ⊢)
        have ng := (upb.block bg hzgb).trans HNb.out
        have nx := (upb.block bxa hzxb).trans HNx.out
        have hB5 := bstep hB4 upb
        have hr5 := HRb.out _ upb
        have hx5 := HXb.out _ upb
        have hz1 := lt_at ng
        have hz2 := lt_at nx
        have hz3 := lt_at mxb
        obtain ⟨d1, g1⟩ := cellsB mxb
        obtain ⟨d2, g2⟩ := cellsB ng
        clear r0 r1 r2 f4 HY P2
        go_wp2_with fail
        refine (HS.out _ _ _ hob hr5).mono ?_
        rintro e w6 ⟨rfl, hb6⟩
        have hB6 := bstep hB5 hb6
        have n6 := (hb6.block _ hz1).trans ng
        have m6 := (hb6.block _ hz2).trans nx
        have hr6 := hr5.below hb6
        have hx6 := hx5.below hb6
        clear d1 g1 d2 g2 hb6 hr5 hx5 ng nx hB5 mxb hob upb
        obtain ⟨d1, g1⟩ := cellsB n6
        obtain ⟨d2, g2⟩ := cellsB m6
        go_wp2_with fail
        refine (HS.out _ _ _ hx6 hr6).mono ?_
        rintro e w7 ⟨rfl, hb7⟩
        have hB7 := bstep hB6 hb7
        go_wp2_with fail
        go_ret
        exact ⟨rfl, hB7⟩

theorem walk (v0 v1 v2 v3 : Value) (w : World) (h0 : IsDeeds w v0) (h1 : IsInt v1) (h2 : IsInt v2) (h3 : IsInt v3) :
    Calls Try.prog 6 #[v0, v1, v2, v3] w fun e w' => e = .returned (.bool true) ∧ Below w.heap.size w w' := by
  obtain ⟨l, hd⟩ := h0
  obtain ⟨x1, rfl, c1, c2⟩ := h1
  obtain ⟨x2, rfl, c3, c4⟩ := h2
  obtain ⟨x3, rfl, c5, c6⟩ := h3
  exact walk0 v0 l x1 x2 x3 w hd ⟨c1, c2⟩ ⟨c3, c4⟩ ⟨c5, c6⟩

theorem own : ownKnob Try.prog.godebug = none := by kernel_rfl
theorem laidOut : laidOutB Try.prog = true := by kernel_rfl

set_option maxRecDepth 100000 in
theorem lifted (os : Os) (started : os.Started) (H : Type) (enc : TypeId × Value → H) :
    ReturnsInHanded {} Try.checked os 6 .any (Rows.matchNotSpec.pre6 enc Try.prog Try.f6 Rows.matchNotRow.domain false) (Rows.matchNotSpec.post enc Try.prog Try.f6 false true false false) := by
  refine returnsInHanded_of_change (C := Try.checked) own started (by kernel_rfl) Try.func6
    (ChangeSpec.witness6 (enc := enc) (C := Try.checked) false ⟨#[], #[.slice none 0 0, .int .i64 0, .int .i64 0, .int .i64 0], []⟩ 8 (by kernel_rfl) (by kernel_rfl) (by kernel_rfl) (by kernel_rfl)) ?_
  intro W base args ds gs before hval0 hW hcnd _
  have hval : ∀ (j : Nat) t v, Try.f6.params[j]? = some t → args[j]? = some v → Value.okWide Try.prog W .any base t v := hval0
  have hW' := hW
  obtain ⟨p, q, hA0, hV, rfl, hfz, hnd⟩ := hW
  have hA : DataW.TrodAll enc Try.prog W 0 (fun _ => true) true Try.f6.params.toList args.toList ds p := hA0
  rw [Try.params6] at hA hval
  obtain ⟨v0, vs0, d0, ds0, p0, q0, hargs, rfl, rfl, h0, r0⟩ := trodAll_cons hA
  obtain ⟨v1, vs1, d1, ds1, p1, q1, rfl, rfl, rfl, h1, r1⟩ := trodAll_cons r0
  obtain ⟨v2, vs2, d2, ds2, p2, q2, rfl, rfl, rfl, h2, r2⟩ := trodAll_cons r1
  obtain ⟨v3, vs3, d3, ds3, p3, q3, rfl, rfl, rfl, h3, r3⟩ := trodAll_cons r2
  obtain ⟨rfl, rfl, rfl⟩ := trodAll_nil r3
  obtain rfl : args = #[v0, v1, v2, v3] := by cases args; simp_all
  obtain ⟨rfl, rfl⟩ := trodVars_none hV
  have lt0 : ∀ x ∈ p0, x.block < W.heap.size := by obtain ⟨m, hm⟩ := h0; exact DataW.trod_lt m _ _ _ hm
  have g0 := shape_deeds (hval 0 32 v0 rfl rfl) h0
  have lt1 : ∀ x ∈ p1, x.block < W.heap.size := by obtain ⟨m, hm⟩ := h1; exact DataW.trod_lt m _ _ _ hm
  have g1 := shape_int (hval 1 3 v1 rfl rfl) h1
  have lt2 : ∀ x ∈ p2, x.block < W.heap.size := by obtain ⟨m, hm⟩ := h2; exact DataW.trod_lt m _ _ _ hm
  have g2 := shape_int (hval 2 3 v2 rfl rfl) h2
  have lt3 : ∀ x ∈ p3, x.block < W.heap.size := by obtain ⟨m, hm⟩ := h3; exact DataW.trod_lt m _ _ _ hm
  have g3 := shape_int (hval 3 3 v3 rfl rfl) h3
  clear hA0 hval0
  refine (walk v0 v1 v2 v3 W g0 g1 g2 g3).mono fun e W' ⟨he, bel⟩ => ?_
  subst he
  exact ⟨_, rfl, _, _, _, [], _, [], hW', trodAll_mk1 (shut_bool Try.underlying4 _), (trodAll_cons_mk (Below.trod laidOut (by kernel_rfl) (of_decide_eq_true (by kernel_rfl)) h0 bel lt0) (trodAll_cons_mk (Below.trod laidOut (by kernel_rfl) (of_decide_eq_true (by kernel_rfl)) h1 bel lt1) (trodAll_cons_mk (Below.trod laidOut (by kernel_rfl) (of_decide_eq_true (by kernel_rfl)) h2 bel lt2) (trodAll_cons_mk (Below.trod laidOut (by kernel_rfl) (of_decide_eq_true (by kernel_rfl)) h3 bel lt3) trodAll_mk0)))), rfl, bel.frame _, fun h => by cases h⟩

theorem over : Rows.matchNotRow.holds Try.pinned (OpenSpec.ofChange Rows.matchNotSpec) :=
  OpenClaim.holds_of_wide 6 Try.f6 rfl rfl rfl rfl rfl rfl rfl ⟨rfl, rfl, rfl, rfl, rfl⟩ rfl rfl rfl rfl rfl (by kernel_rfl) Try.func6 (by kernel_rfl)
    (of_decide_eq_true (by kernel_rfl)) (by unfold Func.isWrapper; first | (rw [if_pos (by decide +kernel)]; kernel_rfl) | (rw [if_neg (by decide +kernel)]; exact ⟨rfl, rfl⟩))
    (fun os started H enc _ => lifted os started H enc)

end Go.Proofs.Yteghlkckccdlcaa.matchNotDone
namespace Go.Proofs.Yteghlkckccdlcaa
theorem MatchNot_holds : Rows.MatchNotSaid := matchNotDone.over
end Go.Proofs.Yteghlkckccdlcaa
