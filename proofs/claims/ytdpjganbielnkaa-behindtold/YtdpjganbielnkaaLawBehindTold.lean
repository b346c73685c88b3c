/- What stands behind a place of a log of raw numbers is told in order, so many at most; a number below nought and a place behind the last one are refused: for all raw numbers, every base, every place and every number the law returns true. No condition. -/
import Derived.Test.YtdpjganbielnkaaHc
import Derived.Test.YtdpjganbielnkaaHg
import Derived.Test.YtdpjganbielnkaaHh
import Derived.Test.YtdpjganbielnkaaOj
namespace Go.Proofs.Ytdpjganbielnkaa.behindToldDone
open Go.ChangeShapes Go.WideShapes Go.ChangeAt Go.RowKit
open Go.Proofs.Ytdpjganbielnkaa
set_option linter.unusedVariables false
set_option maxRecDepth 100000

set_option maxHeartbeats 16000000 in
theorem walk0 (s : Value) (l : List Deed) (base at' most : Int) (w : World) (hd : DeedsAt w s l) (b1 : in64 base) (b2 : in64 at') (b3 : in64 most) :
    Calls Try.prog 12 #[s, .int .i64 base, .int .i64 at', .int .i64 most] w fun e w' => e = .returned (.bool true) ∧ Below w.heap.size w w' := by
  have hG := log_any s l base w hd b1.1 b1.2
  have hk := logFor_ok l base
  have hs := logFor_small l base
  generalize logFor l base = g at *
  have HG : Hid (Calls Try.prog 41 #[s, .int .i64 base] w fun e w' => ∃ r, e = .returned (logV g.base g.term r) ∧ OwnI w.heap.size w' r g.items ∧ Below w.heap.size w w') := hG
  clear hG
  have hle := okB_le hk
  have hL : g.last = g.base + g.items.length := rfl
  have p1 := fun W => picked_any at' (g.items.length + 1) W b2.1 b2.2 (by omega) (by omega)
  have p2 := fun W => picked_any most 12 W b3.1 b3.2 (by omega) (by omega)
  have l1 := pickedN_lt at' (show 0 < g.items.length + 1 by omega)
  have l2 := pickedN_lt most (show 0 < 12 by omega)
  rw [show ((g.items.length + 1 : Nat) : Int) = (g.items.length : Int) + 1 by omega] at p1
  generalize pickedN at' (g.items.length + 1) = k at *
  generalize pickedN most 12 = n at *
  have hA := fun (W : World) (r : Value) (h : RowI W r g.items) => behind_ok g r k (n : Int) W h hk (by omega) (by omega)
  have hB := fun (W : World) (r : Value) (h : RowI W r g.items) => behind_bad g r g.base (-1) 2 W h (by simp [hk]) (by decide)
  have hC := fun (W : World) (r : Value) (h : RowI W r g.items) => behind_bad g r (g.base + g.items.length + 1) 1 5 W h (by
    rw [if_pos hk, if_neg (by omega)]
    unfold placeI heldI
    rw [if_neg (by omega), if_neg (by omega), if_pos (by omega)]) (by decide)
  obtain ⟨b, t, A⟩ := g
  simp only [Int.toNat_natCast] at *
  have P1 : Hid (∀ W, Calls Try.prog 42 #[.int .i64 at', .int .i64 ((A.length : Int) + 1)] W fun e w' => e = .returned (.int .i64 (k : Nat)) ∧ W = w') := p1
  have P2 : Hid (∀ W, Calls Try.prog 42 #[.int .i64 most, .int .i64 12] W fun e w' => e = .returned (.int .i64 (n : Nat)) ∧ W = w') := p2
  have HA : Hid (∀ (W : World) (r : Value), RowI W r A → Calls Try.prog 30 #[logV b t r, .int .i64 (b + k), .int .i64 (n : Int)] W fun x w' => ∃ r, x = .returned (.tuple #[r, .int .i64 0]) ∧ OwnI W.heap.size w' r ((A.drop k).take n) ∧ Below W.heap.size W w') := hA
  have HB : Hid (∀ (W : World) (r : Value), RowI W r A → Calls Try.prog 30 #[logV b t r, .int .i64 b, .int .i64 (-1)] W fun x w' => x = .returned (.tuple #[.slice none 0 0, .int .i64 2]) ∧ Below W.heap.size W w') := hB
  have HC : Hid (∀ (W : World) (r : Value), RowI W r A → Calls Try.prog 30 #[logV b t r, .int .i64 (b + A.length + 1), .int .i64 1] W fun x w' => x = .returned (.tuple #[.slice none 0 0, .int .i64 5]) ∧ Below W.heap.size W w') := hC
  have HS : Hid (∀ (W : World) (r r' : Value), RowI W r ((A.drop k).take n) → RowI W r' ((A.drop k).take n) → Calls Try.prog 43 #[r, r'] W fun e w' => e = .returned (.bool true) ∧ Below W.heap.size W w') := fun W r r' h h' => sameItemsK r r' _ W h h'
  clear hA hB hC p1 p2 hk hd hL b1 b2 b3
  have hAl : A.length ≤ 30 := hs.1
  have hb0 : 0 ≤ b := hs.2.1
  have hb9 : b ≤ 11 := hs.2.2
  have hk9 : k ≤ A.length := by omega
  have hPl : ((A.drop k).take n).length = min n (A.length - k) := by simp
  have HPL : Hid (((A.drop k).take n).length = min n (A.length - k)) := hPl
  clear hs hPl hle
  go_enter Try.func12, Try.ntmps12
  go_wp2_with fail
  refine HG.out.mono ?_
  rintro e w1 ⟨r, rfl, hown, hb1⟩
  clear HG
  have hrow := hown.row (by omega)
  obtain ⟨sa, sc, rfl⟩ := hown.shape
  clear hown
  go_wp2_with fail
  have n1 := alloc_at w1 (logO b t (.slice sa A.length sc))
  have hB1 := hb1.alloc hb1.size (logO b t (.slice sa A.length sc))
  have hrow1 := hrow.below (balloc w1 (logO b t (.slice sa A.length sc)))
  clear hrow hb1
  generalize w1.alloc (logO b t (.slice sa A.length sc)) = V at n1 hB1 hrow1 ⊢
  generalize w1.heap.size = bk at n1 ⊢
  refine (P1.out _).mono ?_
  rintro e w2 ⟨rfl, rfl⟩
  obtain ⟨c1, f1⟩ := cellsB n1
  go_wp2_with fail
  refine (P2.out _).mono ?_
  rintro e w2 ⟨rfl, rfl⟩
  go_wp2_with fail
  refine (HA.out _ _ hrow1).mono ?_
  rintro e w2 ⟨r, rfl, hown2, hb2⟩
  have n2 := (hb2.block bk (lt_at n1)).trans n1
  have hB2 := bstep hB1 hb2
  have hrow2 := hrow1.below hb2
  have hx2 := hown2.row (by rw [HPL.out]; omega)
  obtain ⟨xa, xc, hxs⟩ := hown2.shape
  rw [HPL.out] at hxs
  subst hxs
  clear hB1 hb2 hrow1 n1 HA c1 f1 P1 P2 hown2
  obtain ⟨c2, f2⟩ := cellsB n2
  go_wp2_with fail
  refine (HB.out _ _ hrow2).mono ?_
  rintro e w3 ⟨rfl, hb3⟩
  have n3 := (hb3.block bk (lt_at n2)).trans n2
  have hB3 := bstep hB2 hb3
  have hrow3 := hrow2.below hb3
  have hx3 := hx2.below hb3
  clear hB2 hb3 hrow2 hx2 n2 HB c2 f2
  obtain ⟨c3, f3⟩ := cellsB n3
  go_wp2_with fail
  refine (HC.out _ _ hrow3).mono ?_
  rintro e w4 ⟨rfl, hb4⟩
  have n4 := (hb4.block bk (lt_at n3)).trans n3
  have hB4 := bstep hB3 hb4
  have hrow4 := hrow3.below hb4
  have hx4 := hx3.below hb4
  clear hB3 hb4 hrow3 hx3 n3 HC c3 f3
  obtain ⟨c4, f4⟩ := cellsB n4
  have HX : Hid (RowI w4 (.slice xa (min n (A.length - k)) xc) ((A.drop k).take n)) := hx4
  have HP : Hid (∀ a' m c, m = min n (A.length - k) → m ≤ c → c ≤ 9223372036854775807 → (min n (A.length - k) = 0 ∨ ∃ bk off, sa = some ⟨bk, off, none⟩ ∧ a' = some ⟨bk, off + k * 10, none⟩) → RowI w4 (.slice a' m c) ((A.drop k).take n)) := fun a' m c q1 q2 q3 q4 =>
    piece_row hrow4 (Below.refl _ _) a' m c (by rw [HPL.out]; exact q1) q2 q3 (by rw [HPL.out]; exact q4)
  obtain ⟨-, a1, cap1, hs1, k1, k2, k3⟩ := hrow4
  simp only [Value.slice.injEq, true_and] at hs1
  obtain ⟨rfl, rfl⟩ := hs1
  have hsa : A.length = 0 ∨ ∃ bk off, sa = some ⟨bk, off, none⟩ := by
    rcases k3 with h | ⟨bk, off, h, -⟩
    · exact .inl (by rw [h]; rfl)
    · exact .inr ⟨bk, off, h⟩
  clear k3 hx4 HPL
  generalize hq : min n (A.length - k) = q at *
  have HQ : Hid (min n (A.length - k) = q) := hq
  clear hq
  rcases hsa with hl0 | ⟨bb, off, rfl⟩
  · have hk00 : k = 0 := by omega
    subst hk00
    cases sa with
    | none =>
      go_wp2_with fail
      all_goals
        refine (HS.out _ _ _ HX.out (HP.out _ _ _ ?_ ?_ ?_ ?_)).mono ?_
        rotate_right
        · rintro e w5 ⟨rfl, hb5⟩
          have hB5 := bstep hB4 hb5
          go_wp2_with fail
          go_ret
          exact ⟨rfl, hB5⟩
        all_goals (have hq := HQ.out; first | omega | (left; omega) | exact .inr ⟨_, _, rfl, rfl⟩ | (simp; omega))
    | some ad =>
      go_wp2_with fail
      all_goals
        refine (HS.out _ _ _ HX.out (HP.out _ _ _ ?_ ?_ ?_ ?_)).mono ?_
        rotate_right
        · rintro e w5 ⟨rfl, hb5⟩
          have hB5 := bstep hB4 hb5
          go_wp2_with fail
          go_ret
          exact ⟨rfl, hB5⟩
        all_goals (have hq := HQ.out; first | omega | (left; omega) | exact .inr ⟨_, _, rfl, rfl⟩ | (simp; omega))
  · go_wp2_with fail
    all_goals
      refine (HS.out _ _ _ HX.out (HP.out _ _ _ ?_ ?_ ?_ ?_)).mono ?_
      rotate_right
      · rintro e w5 ⟨rfl, hb5⟩
        have hB5 := bstep hB4 hb5
        go_wp2_with fail
        go_ret
        exact ⟨rfl, hB5⟩
      all_goals (have hq := HQ.out; first | omega | (left; omega) | exact .inr ⟨_, _, rfl, rfl⟩ | (simp; omega))

theorem walk (v0 v1 v2 v3 : Value) (w : World) (h0 : IsDeeds w v0) (h1 : IsInt v1) (h2 : IsInt v2) (h3 : IsInt v3) :
    Calls Try.prog 12 #[v0, v1, v2, v3] w fun e w' => e = .returned (.bool true) ∧ Below w.heap.size w w' := by
  obtain ⟨l, hd⟩ := h0
  obtain ⟨x1, rfl, c1, c2⟩ := h1
  obtain ⟨x2, rfl, c3, c4⟩ := h2
  obtain ⟨x3, rfl, c5, c6⟩ := h3
  exact walk0 v0 l x1 x2 x3 w hd ⟨c1, c2⟩ ⟨c3, c4⟩ ⟨c5, c6⟩

theorem own : ownKnob Try.prog.godebug = none := by kernel_rfl
theorem laidOut : laidOutB Try.prog = true := by kernel_rfl

set_option maxRecDepth 100000 in
theorem lifted (os : Os) (started : os.Started) (H : Type) (enc : TypeId × Value → H) :
    ReturnsInHanded {} Try.checked os 12 .any (Rows.behindToldSpec.pre6 enc Try.prog Try.f12 Rows.behindToldRow.domain false) (Rows.behindToldSpec.post enc Try.prog Try.f12 false true false false) := by
  refine returnsInHanded_of_change (C := Try.checked) own started (by kernel_rfl) Try.func12
    (ChangeSpec.witness6 (enc := enc) (C := Try.checked) false ⟨#[], #[.slice none 0 0, .int .i64 0, .int .i64 0, .int .i64 0], []⟩ 8 (by kernel_rfl) (by kernel_rfl) (by kernel_rfl) (by kernel_rfl)) ?_
  intro W base args ds gs before hval0 hW hcnd _
  have hval : ∀ (j : Nat) t v, Try.f12.params[j]? = some t → args[j]? = some v → Value.okWide Try.prog W .any base t v := hval0
  have hW' := hW
  obtain ⟨p, q, hA0, hV, rfl, hfz, hnd⟩ := hW
  have hA : DataW.TrodAll enc Try.prog W 0 (fun _ => true) true Try.f12.params.toList args.toList ds p := hA0
  rw [Try.params12] at hA hval
  obtain ⟨v0, vs0, d0, ds0, p0, q0, hargs, rfl, rfl, h0, r0⟩ := trodAll_cons hA
  obtain ⟨v1, vs1, d1, ds1, p1, q1, rfl, rfl, rfl, h1, r1⟩ := trodAll_cons r0
  obtain ⟨v2, vs2, d2, ds2, p2, q2, rfl, rfl, rfl, h2, r2⟩ := trodAll_cons r1
  obtain ⟨v3, vs3, d3, ds3, p3, q3, rfl, rfl, rfl, h3, r3⟩ := trodAll_cons r2
  obtain ⟨rfl, rfl, rfl⟩ := trodAll_nil r3
  obtain rfl : args = #[v0, v1, v2, v3] := by cases args; simp_all
  obtain ⟨rfl, rfl⟩ := trodVars_none hV
  have lt0 : ∀ x ∈ p0, x.block < W.heap.size := by obtain ⟨m, hm⟩ := h0; exact DataW.trod_lt m _ _ _ hm
  have g0 := shape_deeds (hval 0 47 v0 rfl rfl) h0
  have lt1 : ∀ x ∈ p1, x.block < W.heap.size := by obtain ⟨m, hm⟩ := h1; exact DataW.trod_lt m _ _ _ hm
  have g1 := shape_int (hval 1 3 v1 rfl rfl) h1
  have lt2 : ∀ x ∈ p2, x.block < W.heap.size := by obtain ⟨m, hm⟩ := h2; exact DataW.trod_lt m _ _ _ hm
  have g2 := shape_int (hval 2 3 v2 rfl rfl) h2
  have lt3 : ∀ x ∈ p3, x.block < W.heap.size := by obtain ⟨m, hm⟩ := h3; exact DataW.trod_lt m _ _ _ hm
  have g3 := shape_int (hval 3 3 v3 rfl rfl) h3
  clear hA0 hval0
  refine (walk v0 v1 v2 v3 W g0 g1 g2 g3).mono fun e W' ⟨he, bel⟩ => ?_
  subst he
  exact ⟨_, rfl, _, _, _, [], _, [], hW', trodAll_mk1 (shut_bool Try.underlying4 _), (trodAll_cons_mk (Below.trod laidOut (by kernel_rfl) (of_decide_eq_true (by kernel_rfl)) h0 bel lt0) (trodAll_cons_mk (Below.trod laidOut (by kernel_rfl) (of_decide_eq_true (by kernel_rfl)) h1 bel lt1) (trodAll_cons_mk (Below.trod laidOut (by kernel_rfl) (of_decide_eq_true (by kernel_rfl)) h2 bel lt2) (trodAll_cons_mk (Below.trod laidOut (by kernel_rfl) (of_decide_eq_true (by kernel_rfl)) h3 bel lt3) trodAll_mk0)))), rfl, bel.frame _, fun h => by cases h⟩

theorem over : Rows.behindToldRow.holds Try.pinned (OpenSpec.ofChange Rows.behindToldSpec) :=
  OpenClaim.holds_of_wide 12 Try.f12 rfl rfl rfl rfl rfl rfl rfl ⟨rfl, rfl, rfl, rfl, rfl⟩ rfl rfl rfl rfl rfl (by kernel_rfl) Try.func12 (by kernel_rfl)
    (of_decide_eq_true (by kernel_rfl)) (by unfold Func.isWrapper; first | (rw [if_pos (by decide +kernel)]; kernel_rfl) | (rw [if_neg (by decide +kernel)]; exact ⟨rfl, rfl⟩))
    (fun os started H enc _ => lifted os started H enc)

end Go.Proofs.Ytdpjganbielnkaa.behindToldDone
namespace Go.Proofs.Ytdpjganbielnkaa
theorem BehindTold_holds : Rows.BehindToldSaid := behindToldDone.over
end Go.Proofs.Ytdpjganbielnkaa
