/- What is there already is not new: of a log of raw numbers any items behind any of its places fit, and leave the log as it was: for all raw numbers, every base, place and number the law returns true. No condition. -/
import Derived.Test.YteghlkckccdlcaaMa
import Derived.Test.YteghlkckccdlcaaHk
import Derived.Test.YteghlkckccdlcaaOj
import Derived.Test.YteghlkckccdlcaaBx
namespace Go.Proofs.Yteghlkckccdlcaa.matchSameDone
open Go.ChangeShapes Go.WideShapes Go.ChangeAt Go.RowKit
open Go.Proofs.Yteghlkckccdlcaa
set_option linter.unusedVariables false
set_option maxRecDepth 100000

theorem termR_at (g : Lg) (k : Nat) (hk : g.okB = true) (h : k ≤ g.items.length) : g.termR (g.base + k) = (g.termAt (g.base + k), 0) := by
  have hle := okB_le hk
  have hL : g.last = g.base + g.items.length := rfl
  have : placeI g.base g.last (g.base + k) = 0 := by unfold placeI heldI; rw [if_neg (by omega), if_neg (by omega), if_neg (by omega)]
  simp [Lg.termR, hk, this]

set_option maxHeartbeats 16000000 in
theorem walk0 (s : Value) (l : List Deed) (base at' num : Int) (w : World) (hd : DeedsAt w s l) (b1 : in64 base) (b2 : in64 at') (b3 : in64 num) :
    Calls Try.prog 4 #[s, .int .i64 base, .int .i64 at', .int .i64 num] w fun e w' => e = .returned (.bool true) ∧ Below w.heap.size w w' := by
  have hG := log_any s l base w hd b1.1 b1.2
  have hk := logFor_ok l base
  have hs := logFor_small l base
  generalize logFor l base = g at *
  have HG : Hid (Calls Try.prog 18 #[s, .int .i64 base] w fun e w' => ∃ r, e = .returned (logV g.base g.term r) ∧ OwnI w.heap.size w' r g.items ∧ Below w.heap.size w w') := hG
  clear hG
  have p1 := fun W => picked_any at' (g.items.length + 1) W b2.1 b2.2 (by omega) (by omega)
  have l1 := pickedN_lt at' (show 0 < g.items.length + 1 by omega)
  rw [show ((g.items.length + 1 : Nat) : Int) = (g.items.length : Int) + 1 by omega] at p1
  generalize pickedN at' (g.items.length + 1) = k at *
  have hkl : k ≤ g.items.length := by omega
  have p2 := fun W => picked_any num (g.items.length - k + 1) W b3.1 b3.2 (by omega) (by omega)
  have l2 := pickedN_lt num (show 0 < g.items.length - k + 1 by omega)
  rw [show ((g.items.length - k + 1 : Nat) : Int) = (g.items.length : Int) - k + 1 by omega] at p2
  generalize pickedN num (g.items.length - k + 1) = n at *
  have hT := fun (W : World) (r : Value) (h : RowI W r g.items) => term_any g r (g.base + k) W h
  rw [termR_at g k hk hkl] at hT
  have hM := fun (W : World) (r xs : Value) (h : RowI W r g.items) (hx : RowI W xs ((g.items.drop k).take n)) => match_any g r (g.base + k) (g.termAt (g.base + k)) xs _ W h hx
  rw [matchR_same g k n hk hkl] at hM
  have hS := fun (W : World) (r r' : Value) (h : RowI W r g.items) (h' : RowI W r' g.items) => sameLogK g.base g.term r r' g.items W h h'
  have hpl : ((g.items.drop k).take n).length = n := by simp; omega
  generalize g.termAt (g.base + k) = T at *
  obtain ⟨b, t, A⟩ := g
  simp only at *
  have P1 : Hid (∀ W, Calls Try.prog 19 #[.int .i64 at', .int .i64 ((A.length : Int) + 1)] W fun e w' => e = .returned (.int .i64 (k : Nat)) ∧ W = w') := p1
  have P2 : Hid (∀ W, Calls Try.prog 19 #[.int .i64 num, .int .i64 ((A.length : Int) - k + 1)] W fun e w' => e = .returned (.int .i64 (n : Nat)) ∧ W = w') := p2
  have HT : Hid (∀ (W : World) (r : Value), RowI W r A → Calls Try.prog 20 #[logV b t r, .int .i64 (b + k)] W fun e w' => e = .returned (.tuple #[.int .i64 T, .int .i64 0]) ∧ Below W.heap.size W w') := hT
  have HM : Hid (∀ (W : World) (r xs : Value), RowI W r A → RowI W xs ((A.drop k).take n) → Calls Try.prog 14 #[logV b t r, .int .i64 (b + k), .int .i64 T, xs] W (MatchOk W ⟨⟨b, t, A⟩, true, 0, 0⟩)) := hM
  have HS : Hid (∀ (W : World) (r r' : Value), RowI W r A → RowI W r' A → Calls Try.prog 21 #[logV b t r, logV b t r'] W fun e w' => e = .returned (.bool true) ∧ Below W.heap.size W w') := hS
  have HPL : Hid (((A.drop k).take n).length = n) := hpl
  have hAl : A.length ≤ 30 := hs.1
  have hb0 : 0 ≤ b := hs.2.1
  have hb9 : b ≤ 11 := hs.2.2
  clear hT hM hS p1 p2 hk hd b1 b2 b3 hs hpl
  have hwb : IntKind.i64.wrap (b + (k : Int)) = b + k := by rw [IntKind.wrap_i64]; omega
  have hyb : wrap64 (b + (k : Int)) = b + k := by unfold wrap64; omega
  go_enter Try.func4, Try.ntmps4
  go_wp2_with fail
  refine HG.out.mono ?_
  rintro e w1 ⟨r, rfl, hown, hb1⟩
  clear HG
  have hrow := hown.row (by omega)
  obtain ⟨sa, sc, rfl⟩ := hown.shape
  clear hown
  go_wp2_with fail
  have n1 := alloc_at w1 (logO b t (.slice sa A.length sc))
  have hB1 := hb1.alloc hb1.size (logO b t (.slice sa A.length sc))
  have hrow1 := hrow.below (balloc w1 (logO b t (.slice sa A.length sc)))
  clear hrow hb1
  generalize w1.alloc (logO b t (.slice sa A.length sc)) = V at n1 hB1 hrow1 ⊢
  generalize w1.heap.size = bg at n1 ⊢
  refine (P1.out _).mono ?_
  rintro e w2 ⟨rfl, rfl⟩
  obtain ⟨c1, f1⟩ := cellsB n1
  go_wp2_with fail
  refine (P2.out _).mono ?_
  rintro e w2 ⟨rfl, rfl⟩
  go_wp2_with fail
  refine (HT.out _ _ hrow1).mono ?_
  rintro e w2 ⟨rfl, hb2⟩
  have n2 := (hb2.block bg (lt_at n1)).trans n1
  have hB2 := bstep hB1 hb2
  have hrow2 := hrow1.below hb2
  clear hB1 hb2 hrow1 n1 HT c1 f1 P1 P2
  have hzg := lt_at n2
  obtain ⟨c2, f2⟩ := cellsB n2
  obtain ⟨r0, r1, r2⟩ : w2.cell? ⟨bg, 0, none⟩ = some (.int .i64 b) ∧ w2.cell? ⟨bg, 1, none⟩ = some (.int .i64 t) ∧ w2.cell? ⟨bg, 2, none⟩ = some (.slice sa A.length sc) := ⟨c2 0, c2 1, c2 2⟩
  clear c2
  have HRw : Hid (∀ W, Below w2.heap.size w2 W → RowI W (.slice sa A.length sc) A) := fun W hW => hrow2.below hW
  have HP : Hid (∀ W, Below w2.heap.size w2 W → ∀ a' m c, m = n → m ≤ c → c ≤ 9223372036854775807 → (n = 0 ∨ ∃ bk off, sa = some ⟨bk, off, none⟩ ∧ a' = some ⟨bk, off + k * 10, none⟩) → RowI W (.slice a' m c) ((A.drop k).take n)) := fun W hW a' m c q1 q2 q3 q4 =>
    piece_row (k := k) (m := n) hrow2 hW a' m c (by rw [HPL.out]; exact q1) q2 q3 (by rw [HPL.out]; exact q4)
  have hsc : A.length ≤ sc ∧ sc ≤ 9223372036854775807 := by
    obtain ⟨-, a', c', he, q1, q2, -⟩ := hrow2
    simp only [Value.slice.injEq, true_and] at he
    omega
  have hsa : n = 0 ∨ ∃ bk off, sa = some ⟨bk, off, none⟩ := by
    obtain ⟨-, a', c', he, q1, q2, k3⟩ := hrow2
    simp only [Value.slice.injEq, true_and] at he
    obtain ⟨rfl, rfl⟩ := he
    rcases k3 with h | ⟨bk, off, h, -⟩
    · left; rw [h] at l2 hkl; simp at l2 hkl; omega
    · exact .inr ⟨bk, off, h⟩
  have HN2 : Hid (w2.heap[bg]? = some (logO b t (.slice sa A.length sc))) := n2
  have HB2 : Hid (Below w.heap.size w w2) := hB2
  clear hrow2 n2
  have v1 : (0 : Int) ≤ (k : Int) := by omega
  have v2 : (k : Int) ≤ (k : Int) + (n : Int) := by omega
  have v3 : (k : Int) + (n : Int) ≤ (sc : Int) := by omega
  have v4 : (k : Int) ≤ (sc : Int) := by omega
  have v5 : ((k : Int) + (n : Int)).toNat = k + n := by omega
  have hza : bg < (w2.alloc (logO 0 0 (.slice none 0 0))).drew.heap.size := Nat.lt_of_lt_of_le hzg (by simp [World.drew])
  have hzb : w2.heap.size < (w2.alloc (logO 0 0 (.slice none 0 0))).drew.heap.size := by simp [World.drew]
  have hne : ¬ bg = w2.heap.size := by omega
  have hne' : ¬ w2.heap.size = bg := by omega
  by_cases hn0 : n = 0
  · subst hn0
    simp only [Int.natCast_zero, Int.add_zero] at v2 v3 v5 ⊢
    have HI0 : Hid (∀ x : Prop, (0 : Nat) = 0 ∨ x) := fun _ => .inl rfl
    cases sa with
    | none =>
      go_wp2_with fail
      go_region_held3 (fun w' => w'.cell? ⟨bg, 0, none⟩ = some (.int .i64 b) ∧ w'.cell? ⟨bg, 1, none⟩ = some (.int .i64 t) ∧ w'.cell? ⟨bg, 2, none⟩ = some (.slice none A.length sc)) (go_keep) (first
        | (go_at_call 14; (with_reducible refine (HM.out _ _ _ (HRw.out _ (Below.refl _ _).drew) (HP.out _ (Below.refl _ _).drew _ _ _ ?_ ?_ ?_ (HI0.out _))).mono ?_); (omega); (omega); (omega); rintro e w3 ⟨r, rfl, hown, hb3⟩; obtain ⟨ya, yc, rfl⟩ := hown.shape; obtain ⟨x1, x2⟩ := same_block (hb3.block bg hzg))
        | (go_at_call 14; (with_reducible refine (HM.out _ _ _ (HRw.out _ (balloc _ _).drew) (HP.out _ (balloc _ _).drew _ _ _ ?_ ?_ ?_ (HI0.out _))).mono ?_); (omega); (omega); (omega); rintro e w3 ⟨r, rfl, hown, hb3⟩; obtain ⟨ya, yc, rfl⟩ := hown.shape; obtain ⟨x1, x2⟩ := same_block (hb3.block bg hza); obtain ⟨x3, x4⟩ := same_block (hb3.block w2.heap.size hzb)))
      all_goals
        first
        | (obtain ⟨mx, up, ho4⟩ := boxA (w2 := w2) (b := b) (t := t) hown hb3 (by omega)
           clear x1 x2 hown hb3
           generalize w3.alloc (logO b t (.slice ya A.length yc)) = V3 at *
           generalize w3.heap.size = bx at *)
        | (obtain ⟨mx, up, ho4⟩ := boxB (w2 := w2) (b := b) (t := t) rfl rfl hown hb3 (by omega)
           clear x1 x2 x3 x4 hown hb3
           generalize ((w3.setCell ⟨w2.heap.size, 0, none⟩ (.int .i64 b)).setCell ⟨w2.heap.size, 1, none⟩ (.int .i64 t)).setCell ⟨w2.heap.size, 2, none⟩ (.slice ya A.length yc) = V3 at *
           generalize w2.heap.size = bx at mx ⊢)
        have ng := (up.block bg hzg).trans HN2.out
        have hB4 := bstep HB2.out up
        have hr4 := HRw.out _ up
        obtain ⟨d1, g1⟩ := cellsB mx
        obtain ⟨d2, g2⟩ := cellsB ng
        clear r0 r1 r2 mx ng up
        go_wp2_with fail
        refine (HS.out _ _ _ ho4 hr4).mono ?_
        rintro e w5 ⟨rfl, hb5⟩
        have hB5 := bstep hB4 hb5
        go_wp2_with fail
        go_ret
        exact ⟨rfl, hB5⟩
    | some ad =>
      go_wp2_with fail
      go_region_held3 (fun w' => w'.cell? ⟨bg, 0, none⟩ = some (.int .i64 b) ∧ w'.cell? ⟨bg, 1, none⟩ = some (.int .i64 t) ∧ w'.cell? ⟨bg, 2, none⟩ = some (.slice (some ad) A.length sc)) (go_keep) (first
        | (go_at_call 14; (with_reducible refine (HM.out _ _ _ (HRw.out _ (Below.refl _ _).drew) (HP.out _ (Below.refl _ _).drew _ _ _ ?_ ?_ ?_ (HI0.out _))).mono ?_); (omega); (omega); (omega); rintro e w3 ⟨r, rfl, hown, hb3⟩; obtain ⟨ya, yc, rfl⟩ := hown.shape; obtain ⟨x1, x2⟩ := same_block (hb3.block bg hzg))
        | (go_at_call 14; (with_reducible refine (HM.out _ _ _ (HRw.out _ (balloc _ _).drew) (HP.out _ (balloc _ _).drew _ _ _ ?_ ?_ ?_ (HI0.out _))).mono ?_); (omega); (omega); (omega); rintro e w3 ⟨r, rfl, hown, hb3⟩; obtain ⟨ya, yc, rfl⟩ := hown.shape; obtain ⟨x1, x2⟩ := same_block (hb3.block bg hza); obtain ⟨x3, x4⟩ := same_block (hb3.block w2.heap.size hzb)))
      all_goals
        first
        | (obtain ⟨mx, up, ho4⟩ := boxA (w2 := w2) (b := b) (t := t) hown hb3 (by omega)
           clear x1 x2 hown hb3
           generalize w3.alloc (logO b t (.slice ya A.length yc)) = V3 at *
           generalize w3.heap.size = bx at *)
        | (obtain ⟨mx, up, ho4⟩ := boxB (w2 := w2) (b := b) (t := t) rfl rfl hown hb3 (by omega)
           clear x1 x2 x3 x4 hown hb3
           generalize ((w3.setCell ⟨w2.heap.size, 0, none⟩ (.int .i64 b)).setCell ⟨w2.heap.size, 1, none⟩ (.int .i64 t)).setCell ⟨w2.heap.size, 2, none⟩ (.slice ya A.length yc) = V3 at *
           generalize w2.heap.size = bx at mx ⊢)
        have ng := (up.block bg hzg).trans HN2.out
        have hB4 := bstep HB2.out up
        have hr4 := HRw.out _ up
        obtain ⟨d1, g1⟩ := cellsB mx
        obtain ⟨d2, g2⟩ := cellsB ng
        clear r0 r1 r2 mx ng up
        go_wp2_with fail
        refine (HS.out _ _ _ ho4 hr4).mono ?_
        rintro e w5 ⟨rfl, hb5⟩
        have hB5 := bstep hB4 hb5
        go_wp2_with fail
        go_ret
        exact ⟨rfl, hB5⟩
  · obtain ⟨bb, off, rfl⟩ : ∃ bk off, sa = some ⟨bk, off, none⟩ := hsa.resolve_left hn0
    have hnn : ¬ (n : Int) = 0 := by omega
    go_wp2_with fail
    go_region_held3 (fun w' => w'.cell? ⟨bg, 0, none⟩ = some (.int .i64 b) ∧ w'.cell? ⟨bg, 1, none⟩ = some (.int .i64 t) ∧ w'.cell? ⟨bg, 2, none⟩ = some (.slice (some ⟨bb, off, none⟩) A.length sc)) (go_keep) (first
      | (go_at_call 14; (with_reducible refine (HM.out _ _ _ (HRw.out _ (Below.refl _ _).drew) (HP.out _ (Below.refl _ _).drew _ _ _ ?_ ?_ ?_ (.inr ⟨_, _, rfl, rfl⟩))).mono ?_); (omega); (omega); (omega); rintro e w3 ⟨r, rfl, hown, hb3⟩; obtain ⟨ya, yc, rfl⟩ := hown.shape; obtain ⟨x1, x2⟩ := same_block (hb3.block bg hzg))
      | (go_at_call 14; (with_reducible refine (HM.out _ _ _ (HRw.out _ (balloc _ _).drew) (HP.out _ (balloc _ _).drew _ _ _ ?_ ?_ ?_ (.inr ⟨_, _, rfl, rfl⟩))).mono ?_); (omega); (omega); (omega); rintro e w3 ⟨r, rfl, hown, hb3⟩; obtain ⟨ya, yc, rfl⟩ := hown.shape; obtain ⟨x1, x2⟩ := same_block (hb3.block bg hza); obtain ⟨x3, x4⟩ := same_block (hb3.block w2.heap.size hzb)))
    all_goals
      first
      | (obtain ⟨mx, up, ho4⟩ := boxA (w2 := w2) (b := b) (t := t) hown hb3 (by omega)
         clear x1 x2 hown hb3
         generalize w3.alloc (logO b t (.slice ya A.length yc)) = V3 at *
         generalize w3.heap.size = bx at *)
      | (obtain ⟨mx, up, ho4⟩ := boxB (w2 := w2) (b := b) (t := t) rfl rfl hown hb3 (by omega)
         clear x1 x2 x3 x4 hown hb3
         generalize ((w3.setCell ⟨w2.heap.size, 0, none⟩ (.int .i64 b)).setCell ⟨w2.heap.size, 1, none⟩ (.int .i64 t)).setCell ⟨w2.heap.size, 2, none⟩ (.slice ya A.length yc) = V3 at *
         generalize w2.heap.size = bx at mx ⊢)
      have ng := (up.block bg hzg).trans HN2.out
      have hB4 := bstep HB2.out up
      have hr4 := HRw.out _ up
      obtain ⟨d1, g1⟩ := cellsB mx
      obtain ⟨d2, g2⟩ := cellsB ng
      clear r0 r1 r2 mx ng up
      go_wp2_with fail
      refine (HS.out _ _ _ ho4 hr4).mono ?_
      rintro e w5 ⟨rfl, hb5⟩
      have hB5 := bstep hB4 hb5
      go_wp2_with fail
      go_ret
      exact ⟨rfl, hB5⟩

theorem walk (v0 v1 v2 v3 : Value) (w : World) (h0 : IsDeeds w v0) (h1 : IsInt v1) (h2 : IsInt v2) (h3 : IsInt v3) :
    Calls Try.prog 4 #[v0, v1, v2, v3] w fun e w' => e = .returned (.bool true) ∧ Below w.heap.size w w' := by
  obtain ⟨l, hd⟩ := h0
  obtain ⟨x1, rfl, c1, c2⟩ := h1
  obtain ⟨x2, rfl, c3, c4⟩ := h2
  obtain ⟨x3, rfl, c5, c6⟩ := h3
  exact walk0 v0 l x1 x2 x3 w hd ⟨c1, c2⟩ ⟨c3, c4⟩ ⟨c5, c6⟩

theorem own : ownKnob Try.prog.godebug = none := by kernel_rfl
theorem laidOut : laidOutB Try.prog = true := by kernel_rfl

set_option maxRecDepth 100000 in
theorem lifted (os : Os) (started : os.Started) (H : Type) (enc : TypeId × Value → H) :
    ReturnsInHanded {} Try.checked os 4 .any (Rows.matchSameSpec.pre6 enc Try.prog Try.f4 Rows.matchSameRow.domain false) (Rows.matchSameSpec.post enc Try.prog Try.f4 false true false false) := by
  refine returnsInHanded_of_change (C := Try.checked) own started (by kernel_rfl) Try.func4
    (ChangeSpec.witness6 (enc := enc) (C := Try.checked) false ⟨#[], #[.slice none 0 0, .int .i64 0, .int .i64 0, .int .i64 0], []⟩ 8 (by kernel_rfl) (by kernel_rfl) (by kernel_rfl) (by kernel_rfl)) ?_
  intro W base args ds gs before hval0 hW hcnd _
  have hval : ∀ (j : Nat) t v, Try.f4.params[j]? = some t → args[j]? = some v → Value.okWide Try.prog W .any base t v := hval0
  have hW' := hW
  obtain ⟨p, q, hA0, hV, rfl, hfz, hnd⟩ := hW
  have hA : DataW.TrodAll enc Try.prog W 0 (fun _ => true) true Try.f4.params.toList args.toList ds p := hA0
  rw [Try.params4] at hA hval
  obtain ⟨v0, vs0, d0, ds0, p0, q0, hargs, rfl, rfl, h0, r0⟩ := trodAll_cons hA
  obtain ⟨v1, vs1, d1, ds1, p1, q1, rfl, rfl, rfl, h1, r1⟩ := trodAll_cons r0
  obtain ⟨v2, vs2, d2, ds2, p2, q2, rfl, rfl, rfl, h2, r2⟩ := trodAll_cons r1
  obtain ⟨v3, vs3, d3, ds3, p3, q3, rfl, rfl, rfl, h3, r3⟩ := trodAll_cons r2
  obtain ⟨rfl, rfl, rfl⟩ := trodAll_nil r3
  obtain rfl : args = #[v0, v1, v2, v3] := by cases args; simp_all
  obtain ⟨rfl, rfl⟩ := trodVars_none hV
  have lt0 : ∀ x ∈ p0, x.block < W.heap.size := by obtain ⟨m, hm⟩ := h0; exact DataW.trod_lt m _ _ _ hm
  have g0 := shape_deeds (hval 0 32 v0 rfl rfl) h0
  have lt1 : ∀ x ∈ p1, x.block < W.heap.size := by obtain ⟨m, hm⟩ := h1; exact DataW.trod_lt m _ _ _ hm
  have g1 := shape_int (hval 1 3 v1 rfl rfl) h1
  have lt2 : ∀ x ∈ p2, x.block < W.heap.size := by obtain ⟨m, hm⟩ := h2; exact DataW.trod_lt m _ _ _ hm
  have g2 := shape_int (hval 2 3 v2 rfl rfl) h2
  have lt3 : ∀ x ∈ p3, x.block < W.heap.size := by obtain ⟨m, hm⟩ := h3; exact DataW.trod_lt m _ _ _ hm
  have g3 := shape_int (hval 3 3 v3 rfl rfl) h3
  clear hA0 hval0
  refine (walk v0 v1 v2 v3 W g0 g1 g2 g3).mono fun e W' ⟨he, bel⟩ => ?_
  subst he
  exact ⟨_, rfl, _, _, _, [], _, [], hW', trodAll_mk1 (shut_bool Try.underlying4 _), (trodAll_cons_mk (Below.trod laidOut (by kernel_rfl) (of_decide_eq_true (by kernel_rfl)) h0 bel lt0) (trodAll_cons_mk (Below.trod laidOut (by kernel_rfl) (of_decide_eq_true (by kernel_rfl)) h1 bel lt1) (trodAll_cons_mk (Below.trod laidOut (by kernel_rfl) (of_decide_eq_true (by kernel_rfl)) h2 bel lt2) (trodAll_cons_mk (Below.trod laidOut (by kernel_rfl) (of_decide_eq_true (by kernel_rfl)) h3 bel lt3) trodAll_mk0)))), rfl, bel.frame _, fun h => by cases h⟩

theorem over : Rows.matchSameRow.holds Try.pinned (OpenSpec.ofChange Rows.matchSameSpec) :=
  OpenClaim.holds_of_wide 4 Try.f4 rfl rfl rfl rfl rfl rfl rfl ⟨rfl, rfl, rfl, rfl, rfl⟩ rfl rfl rfl rfl rfl (by kernel_rfl) Try.func4 (by kernel_rfl)
    (of_decide_eq_true (by kernel_rfl)) (by unfold Func.isWrapper; first | (rw [if_pos (by decide +kernel)]; kernel_rfl) | (rw [if_neg (by decide +kernel)]; exact ⟨rfl, rfl⟩))
    (fun os started H enc _ => lifted os started H enc)

end Go.Proofs.Yteghlkckccdlcaa.matchSameDone
namespace Go.Proofs.Yteghlkckccdlcaa
theorem MatchSame_holds : Rows.MatchSameSaid := matchSameDone.over
end Go.Proofs.Yteghlkckccdlcaa
