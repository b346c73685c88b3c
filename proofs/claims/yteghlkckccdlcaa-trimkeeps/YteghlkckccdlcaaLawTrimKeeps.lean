/- What is behind a place of a log of raw numbers stays where it is when the rest is trimmed; below the new base, and behind the last one, nothing is trimmed: for all raw numbers, every base and every place the law returns true. No condition. -/
import Derived.Test.YteghlkckccdlcaaHc
import Derived.Test.YteghlkckccdlcaaHi
import Derived.Test.YteghlkckccdlcaaHj
import Derived.Test.YteghlkckccdlcaaHh
import Derived.Test.YteghlkckccdlcaaOj
import Derived.Test.YteghlkckccdlcaaQt
namespace Go.Proofs.Yteghlkckccdlcaa.trimKeepsDone
open Go.ChangeShapes Go.WideShapes Go.ChangeAt Go.RowKit
open Go.Proofs.Yteghlkckccdlcaa
set_option linter.unusedVariables false
set_option maxRecDepth 100000

set_option maxHeartbeats 16000000 in
theorem walk0 (s : Value) (l : List Deed) (base at' : Int) (w : World) (hd : DeedsAt w s l) (b1 : in64 base) (b2 : in64 at') :
    Calls Try.prog 10 #[s, .int .i64 base, .int .i64 at'] w fun e w' => e = .returned (.bool true) ∧ Below w.heap.size w w' := by
  have hG := log_any s l base w hd b1.1 b1.2
  have hk := logFor_ok l base
  have hs := logFor_small l base
  generalize logFor l base = g at *
  have HG : Hid (Calls Try.prog 18 #[s, .int .i64 base] w fun e w' => ∃ r, e = .returned (logV g.base g.term r) ∧ OwnI w.heap.size w' r g.items ∧ Below w.heap.size w w') := hG
  clear hG
  have hle := okB_le hk
  have hL : g.last = g.base + g.items.length := rfl
  have p1 := fun W => picked_any at' (g.items.length + 1) W b2.1 b2.2 (by omega) (by omega)
  have l1 := pickedN_lt at' (show 0 < g.items.length + 1 by omega)
  rw [show ((g.items.length + 1 : Nat) : Int) = (g.items.length : Int) + 1 by omega] at p1
  generalize pickedN at' (g.items.length + 1) = k at *
  have hkl : k ≤ g.items.length := by omega
  have hA := fun (W : World) (r : Value) (h : RowI W r g.items) => trim_ok g r k W h hk hkl
  have hB := fun (W : World) (r : Value) (h : RowI W r g.items) => last_ok g r W h hk
  have hC := fun (W : World) (r : Value) (h : RowI W r (g.items.drop k)) => last_ok (g.trim k) r W h (trim_okB g k hk hkl)
  rw [trim_termAt g k hkl, trim_last g k hkl] at hC
  have hD := fun (W : World) (r : Value) (h : RowI W r (g.items.drop k)) => trim_bad (g.trim k) r (g.base + k - 1) W h (by
    unfold Lg.trimE; rw [if_pos (trim_okB g k hk hkl)]; unfold heldI; rw [if_pos (by show g.base + (k : Int) - 1 < g.base + k; omega)]; decide)
  rw [show (g.trim k).trimE (g.base + k - 1) = 11 by
    unfold Lg.trimE; rw [if_pos (trim_okB g k hk hkl)]; unfold heldI; rw [if_pos (by show g.base + (k : Int) - 1 < g.base + k; omega)]] at hD
  have hE := fun (W : World) (r : Value) (h : RowI W r g.items) => trim_bad g r (g.last + 1) W h (by
    unfold Lg.trimE; rw [if_pos hk]; unfold heldI; rw [if_neg (by omega), if_pos (by omega)]; decide)
  rw [show g.trimE (g.last + 1) = 5 by unfold Lg.trimE; rw [if_pos hk]; unfold heldI; rw [if_neg (by omega), if_pos (by omega)]] at hE
  have hL9 : 0 ≤ g.last ∧ g.last ≤ 41 := by omega
  generalize g.termAt g.last = T at *
  have eb : (g.trim k).base = g.base + k := rfl
  have et : (g.trim k).term = g.termAt (g.base + k) := rfl
  rw [eb, et] at hC hD
  generalize g.termAt (g.base + k) = U at *
  generalize g.last = L at *
  obtain ⟨b, t, A⟩ := g
  simp only at *
  have P1 : Hid (∀ W, Calls Try.prog 19 #[.int .i64 at', .int .i64 ((A.length : Int) + 1)] W fun e w' => e = .returned (.int .i64 (k : Nat)) ∧ W = w') := p1
  have HA : Hid (∀ (W : World) (r : Value), RowI W r A → Calls Try.prog 26 #[logV b t r, .int .i64 (b + k)] W fun x w' => ∃ r, x = .returned (.tuple #[logV (b + k) U r, .int .i64 0]) ∧ OwnI W.heap.size w' r (A.drop k) ∧ Below W.heap.size W w') := hA
  have HB : Hid (∀ (W : World) (r : Value), RowI W r A → Calls Try.prog 22 #[logV b t r] W fun x w' => x = .returned (.tuple #[.int .i64 L, .int .i64 T, .int .i64 0]) ∧ Below W.heap.size W w') := hB
  have HC : Hid (∀ (W : World) (r : Value), RowI W r (A.drop k) → Calls Try.prog 22 #[logV (b + k) U r] W fun x w' => x = .returned (.tuple #[.int .i64 L, .int .i64 T, .int .i64 0]) ∧ Below W.heap.size W w') := hC
  have HD : Hid (∀ (W : World) (r : Value), RowI W r (A.drop k) → Calls Try.prog 26 #[logV (b + k) U r, .int .i64 (b + k - 1)] W fun x w' => x = .returned (.tuple #[logV 0 0 (.slice none 0 0), .int .i64 11]) ∧ Below W.heap.size W w') := hD
  have HE : Hid (∀ (W : World) (r : Value), RowI W r A → Calls Try.prog 26 #[logV b t r, .int .i64 (L + 1)] W fun x w' => x = .returned (.tuple #[logV 0 0 (.slice none 0 0), .int .i64 5]) ∧ Below W.heap.size W w') := hE
  have HS : Hid (∀ (W : World) (r r' : Value), RowI W r (A.drop k) → RowI W r' (A.drop k) → Calls Try.prog 24 #[r, r'] W fun e w' => e = .returned (.bool true) ∧ Below W.heap.size W w') := fun W r r' h h' => sameItemsK r r' _ W h h'
  have hAl : A.length ≤ 30 := hs.1
  have hb0 : 0 ≤ b := hs.2.1
  have hb9 : b ≤ 11 := hs.2.2
  have hPl : (A.drop k).length = A.length - k := by simp
  have HPL : Hid ((A.drop k).length = A.length - k) := hPl
  have HPT : Hid ((A.drop k).take A.length = A.drop k) := List.take_of_length_le (by simp)
  clear hA hB hC hD hE p1 hk hd b1 b2 hs hle hL eb et hPl
  go_enter Try.func10, Try.ntmps10
  go_wp2_with fail
  refine HG.out.mono ?_
  rintro e w1 ⟨r, rfl, hown, hb1⟩
  clear HG
  have hrow := hown.row (by omega)
  obtain ⟨sa, sc, rfl⟩ := hown.shape
  clear hown
  go_wp2_with fail
  have n1 := alloc_at w1 (logO b t (.slice sa A.length sc))
  have hB1 := hb1.alloc hb1.size (logO b t (.slice sa A.length sc))
  have hrow1 := hrow.below (balloc w1 (logO b t (.slice sa A.length sc)))
  clear hrow hb1
  generalize w1.alloc (logO b t (.slice sa A.length sc)) = V at n1 hB1 hrow1 ⊢
  generalize w1.heap.size = bg at n1 ⊢
  refine (P1.out _).mono ?_
  rintro e w2 ⟨rfl, rfl⟩
  obtain ⟨c1, f1⟩ := cellsB n1
  go_wp2_with fail
  refine (HA.out _ _ hrow1).mono ?_
  rintro e w2 ⟨r, rfl, hown2, hb2⟩
  have n2 := (hb2.block bg (lt_at n1)).trans n1
  have hB2 := bstep hB1 hb2
  have hrow2 := hrow1.below hb2
  have hx2 := hown2.row (by rw [HPL.out]; omega)
  obtain ⟨xa, xc, hxs⟩ := hown2.shape
  rw [HPL.out] at hxs
  subst hxs
  clear hB1 hb2 hrow1 n1 HA c1 f1 P1 hown2
  have hzg := lt_at n2
  obtain ⟨c2, f2⟩ := cellsB n2
  go_wp2_with fail
  have m3 := alloc_at w2 (logO (b + k) U (.slice xa (A.length - k) xc))
  have n3 := ((balloc w2 (logO (b + k) U (.slice xa (A.length - k) xc))).block bg hzg).trans n2
  have hB3 := hB2.alloc hB2.size (logO (b + k) U (.slice xa (A.length - k) xc))
  have hrow3 := hrow2.below (balloc w2 (logO (b + k) U (.slice xa (A.length - k) xc)))
  have hx3 := hx2.below (balloc w2 (logO (b + k) U (.slice xa (A.length - k) xc)))
  clear hB2 hrow2 hx2 n2 c2 f2 hzg
  generalize w2.alloc (logO (b + k) U (.slice xa (A.length - k) xc)) = V3 at m3 n3 hB3 hrow3 hx3 ⊢
  generalize w2.heap.size = bx at m3 ⊢
  refine (HB.out _ _ hrow3).mono ?_
  rintro e w4 ⟨rfl, hb4⟩
  have m4 := (hb4.block bx (lt_at m3)).trans m3
  have n4 := (hb4.block bg (lt_at n3)).trans n3
  have hB4 := bstep hB3 hb4
  have hrow4 := hrow3.below hb4
  have hx4 := hx3.below hb4
  clear m3 n3 hB3 hrow3 hx3 hb4
  clear HB
  obtain ⟨c4, f4⟩ := cellsB m4
  go_wp2_with fail
  refine (HC.out _ _ hx4).mono ?_
  rintro e w5 ⟨rfl, hb5⟩
  have m5 := (hb5.block bx (lt_at m4)).trans m4
  have n5 := (hb5.block bg (lt_at n4)).trans n4
  have hB5 := bstep hB4 hb5
  have hrow5 := hrow4.below hb5
  have hx5 := hx4.below hb5
  clear m4 n4 hB4 hrow4 hx4 hb5
  clear HC c4 f4
  obtain ⟨c5, f5⟩ := cellsB m5
  go_wp2_with fail
  refine (HD.out _ _ hx5).mono ?_
  rintro e w6 ⟨rfl, hb6⟩
  have m6 := (hb6.block bx (lt_at m5)).trans m5
  have n6 := (hb6.block bg (lt_at n5)).trans n5
  have hB6 := bstep hB5 hb6
  have hrow6 := hrow5.below hb6
  have hx6 := hx5.below hb6
  clear m5 n5 hB5 hrow5 hx5 hb6
  clear HD c5 f5
  have hzg := lt_at n6
  obtain ⟨c6, f6⟩ := cellsB n6
  go_wp2_with fail
  have hB7a := hB6.alloc hB6.size (logO 0 0 (.slice none 0 0))
  have m7a := ((balloc w6 (logO 0 0 (.slice none 0 0))).block bx (lt_at m6)).trans m6
  have n7a := ((balloc w6 (logO 0 0 (.slice none 0 0))).block bg (lt_at n6)).trans n6
  have hrow7a := hrow6.below (balloc w6 (logO 0 0 (.slice none 0 0)))
  have hx7a := hx6.below (balloc w6 (logO 0 0 (.slice none 0 0)))
  clear hB6 m6 n6 hrow6 hx6 hzg c6 f6
  generalize w6.alloc (logO 0 0 (.slice none 0 0)) = V7 at hB7a m7a n7a hrow7a hx7a ⊢
  generalize w6.heap.size = b7
  refine (HE.out _ _ hrow7a).mono ?_
  rintro e w8 ⟨rfl, hb8⟩
  have m8 := (hb8.block bx (lt_at m7a)).trans m7a
  have n8 := (hb8.block bg (lt_at n7a)).trans n7a
  have hB8 := bstep hB7a hb8
  have hrow8 := hrow7a.below hb8
  have hx8 := hx7a.below hb8
  clear hB7a m7a n7a hrow7a hx7a hb8 HE
  have hzg8 := lt_at n8
  have hzx8 := lt_at m8
  go_upto_region 8 with fail
  have hB8a := hB8.alloc hB8.size (logO 0 0 (.slice none 0 0))
  have m8a := ((balloc w8 (logO 0 0 (.slice none 0 0))).block bx hzx8).trans m8
  have n8a := ((balloc w8 (logO 0 0 (.slice none 0 0))).block bg hzg8).trans n8
  have hrow8a := hrow8.below (balloc w8 (logO 0 0 (.slice none 0 0)))
  have hx8a := hx8.below (balloc w8 (logO 0 0 (.slice none 0 0)))
  clear hB8 m8 n8 hrow8 hx8 hzg8 hzx8
  generalize w8.alloc (logO 0 0 (.slice none 0 0)) = V8 at hB8a m8a n8a hrow8a hx8a ⊢
  generalize w8.heap.size = b8
  have hB8 := hB8a
  have hzg := lt_at n8a
  have hzx := lt_at m8a
  have HX : Hid (∀ W, Below V8.heap.size V8 W → RowI W (.slice xa (A.length - k) xc) (A.drop k)) := fun W hW => hx8a.below hW
  have HP : Hid (∀ W, Below V8.heap.size V8 W → ∀ a' m c, m = A.length - k → m ≤ c → c ≤ 9223372036854775807 → (A.length - k = 0 ∨ ∃ bk off, sa = some ⟨bk, off, none⟩ ∧ a' = some ⟨bk, off + k * 10, none⟩) → RowI W (.slice a' m c) (A.drop k)) := fun W hW a' m c q1 q2 q3 q4 => by
    have h := piece_row (k := k) (m := A.length) hrow8a hW a' m c (by rw [HPT.out, HPL.out]; exact q1) q2 q3 (by rw [HPT.out, HPL.out]; exact q4)
    rw [HPT.out] at h; exact h
  obtain ⟨-, a1, cap1, hs1, k1, k2, k3⟩ := hrow8a
  simp only [Value.slice.injEq, true_and] at hs1
  obtain ⟨rfl, rfl⟩ := hs1
  have hsa : A.length = 0 ∨ ∃ bk off, sa = some ⟨bk, off, none⟩ := by
    rcases k3 with h | ⟨bk, off, h, -⟩
    · exact .inl (by rw [h]; rfl)
    · exact .inr ⟨bk, off, h⟩
  have inst := Grown.isThere V8
  obtain ⟨u1, u2⟩ := Grown.cells n8a
  obtain ⟨u3, u4⟩ := Grown.cells m8a
  have hwb : IntKind.i64.wrap (b + (k : Int)) = b + k := by rw [IntKind.wrap_i64]; omega
  have hyb : wrap64 (b + (k : Int)) = b + k := by unfold wrap64; omega
  have hki : (k : Int) ≤ (A.length : Int) := by omega
  clear k3 hx8a hB8a HPT HPL n8a m8a hzg hzx
  go_wp2_with fail
  rcases hsa with hl0 | ⟨bb, off, rfl⟩
  · have hk00 : k = 0 := by omega
    subst hk00
    have HL0 : Hid (A.length = 0) := hl0
    clear hl0
    simp only [Nat.sub_zero, List.drop_zero, Int.natCast_zero, Int.add_zero] at *
    cases sa with
    | none =>
      refine wp_region_grown (by kernel_rfl) (by kernel_rfl) ?_
      repeat (first | go_big_quiet_skip | (go_big_quiet_want; go_big_quiet_op; first | go_big_quiet_on | (apply Exists.intro; refine ⟨fun _ => ?_, ?_⟩; (· (go_at_call 24; refine Calls.grown _ (fun W hW => HS.out W _ _ (HX.out W hW) (HP.out W hW _ _ _ ?_ ?_ ?_ ?_)) <;> (have h0 := HL0.out; first | omega | (left; omega)))); go_big_quiet_on)))
      refine wpQuiet_nil ?_
      rintro _ ⟨⟨w9, hb9⟩, rfl⟩
      go_wp2_with fail
      go_ret
      exact ⟨rfl, bstep hB8 hb9⟩
    | some ad =>
      refine wp_region_grown (by kernel_rfl) (by kernel_rfl) ?_
      repeat (first | go_big_quiet_skip | (go_big_quiet_want; go_big_quiet_op; first | go_big_quiet_on | (apply Exists.intro; refine ⟨fun _ => ?_, ?_⟩; (· (go_at_call 24; refine Calls.grown _ (fun W hW => HS.out W _ _ (HX.out W hW) (HP.out W hW _ _ _ ?_ ?_ ?_ ?_)) <;> (have h0 := HL0.out; first | omega | (left; omega)))); go_big_quiet_on)))
      refine wpQuiet_nil ?_
      rintro _ ⟨⟨w9, hb9⟩, rfl⟩
      go_wp2_with fail
      go_ret
      exact ⟨rfl, bstep hB8 hb9⟩
  · by_cases hkc : sc = k
    · refine wp_region_grown (by kernel_rfl) (by kernel_rfl) ?_
      repeat (first | go_big_quiet_skip | (go_big_quiet_want; go_big_quiet_op; first | go_big_quiet_on | (apply Exists.intro; refine ⟨fun _ => ?_, ?_⟩; (· (go_at_call 24; refine Calls.grown _ (fun W hW => HS.out W _ _ (HX.out W hW) (HP.out W hW _ _ _ ?_ ?_ ?_ ?_)) <;> (first | omega | (left; omega)))); go_big_quiet_on)))
      refine wpQuiet_nil ?_
      rintro _ ⟨⟨w9, hb9⟩, rfl⟩
      go_wp2_with fail
      go_ret
      exact ⟨rfl, bstep hB8 hb9⟩
    · refine wp_region_grown (by kernel_rfl) (by kernel_rfl) ?_
      repeat (first | go_big_quiet_skip | (go_big_quiet_want; go_big_quiet_op; first | go_big_quiet_on | (apply Exists.intro; refine ⟨fun _ => ?_, ?_⟩; (· (go_at_call 24; refine Calls.grown _ (fun W hW => HS.out W _ _ (HX.out W hW) (HP.out W hW _ _ _ ?_ ?_ ?_ ?_)) <;> (first | omega | exact .inr ⟨_, _, rfl, rfl⟩))); go_big_quiet_on)))
      refine wpQuiet_nil ?_
      rintro _ ⟨⟨w9, hb9⟩, rfl⟩
      go_wp2_with fail
      go_ret
      exact ⟨rfl, bstep hB8 hb9⟩

theorem walk (v0 v1 v2 : Value) (w : World) (h0 : IsDeeds w v0) (h1 : IsInt v1) (h2 : IsInt v2) :
    Calls Try.prog 10 #[v0, v1, v2] w fun e w' => e = .returned (.bool true) ∧ Below w.heap.size w w' := by
  obtain ⟨l, hd⟩ := h0
  obtain ⟨x1, rfl, c1, c2⟩ := h1
  obtain ⟨x2, rfl, c3, c4⟩ := h2
  exact walk0 v0 l x1 x2 w hd ⟨c1, c2⟩ ⟨c3, c4⟩

theorem own : ownKnob Try.prog.godebug = none := by kernel_rfl
theorem laidOut : laidOutB Try.prog = true := by kernel_rfl

set_option maxRecDepth 100000 in
theorem lifted (os : Os) (started : os.Started) (H : Type) (enc : TypeId × Value → H) :
    ReturnsInHanded {} Try.checked os 10 .any (Rows.trimKeepsSpec.pre6 enc Try.prog Try.f10 Rows.trimKeepsRow.domain false) (Rows.trimKeepsSpec.post enc Try.prog Try.f10 false true false false) := by
  refine returnsInHanded_of_change (C := Try.checked) own started (by kernel_rfl) Try.func10
    (ChangeSpec.witness6 (enc := enc) (C := Try.checked) false ⟨#[], #[.slice none 0 0, .int .i64 0, .int .i64 0], []⟩ 8 (by kernel_rfl) (by kernel_rfl) (by kernel_rfl) (by kernel_rfl)) ?_
  intro W base args ds gs before hval0 hW hcnd _
  have hval : ∀ (j : Nat) t v, Try.f10.params[j]? = some t → args[j]? = some v → Value.okWide Try.prog W .any base t v := hval0
  have hW' := hW
  obtain ⟨p, q, hA0, hV, rfl, hfz, hnd⟩ := hW
  have hA : DataW.TrodAll enc Try.prog W 0 (fun _ => true) true Try.f10.params.toList args.toList ds p := hA0
  rw [Try.params10] at hA hval
  obtain ⟨v0, vs0, d0, ds0, p0, q0, hargs, rfl, rfl, h0, r0⟩ := trodAll_cons hA
  obtain ⟨v1, vs1, d1, ds1, p1, q1, rfl, rfl, rfl, h1, r1⟩ := trodAll_cons r0
  obtain ⟨v2, vs2, d2, ds2, p2, q2, rfl, rfl, rfl, h2, r2⟩ := trodAll_cons r1
  obtain ⟨rfl, rfl, rfl⟩ := trodAll_nil r2
  obtain rfl : args = #[v0, v1, v2] := by cases args; simp_all
  obtain ⟨rfl, rfl⟩ := trodVars_none hV
  have lt0 : ∀ x ∈ p0, x.block < W.heap.size := by obtain ⟨m, hm⟩ := h0; exact DataW.trod_lt m _ _ _ hm
  have g0 := shape_deeds (hval 0 32 v0 rfl rfl) h0
  have lt1 : ∀ x ∈ p1, x.block < W.heap.size := by obtain ⟨m, hm⟩ := h1; exact DataW.trod_lt m _ _ _ hm
  have g1 := shape_int (hval 1 3 v1 rfl rfl) h1
  have lt2 : ∀ x ∈ p2, x.block < W.heap.size := by obtain ⟨m, hm⟩ := h2; exact DataW.trod_lt m _ _ _ hm
  have g2 := shape_int (hval 2 3 v2 rfl rfl) h2
  clear hA0 hval0
  refine (walk v0 v1 v2 W g0 g1 g2).mono fun e W' ⟨he, bel⟩ => ?_
  subst he
  exact ⟨_, rfl, _, _, _, [], _, [], hW', trodAll_mk1 (shut_bool Try.underlying4 _), (trodAll_cons_mk (Below.trod laidOut (by kernel_rfl) (of_decide_eq_true (by kernel_rfl)) h0 bel lt0) (trodAll_cons_mk (Below.trod laidOut (by kernel_rfl) (of_decide_eq_true (by kernel_rfl)) h1 bel lt1) (trodAll_cons_mk (Below.trod laidOut (by kernel_rfl) (of_decide_eq_true (by kernel_rfl)) h2 bel lt2) trodAll_mk0))), rfl, bel.frame _, fun h => by cases h⟩

theorem over : Rows.trimKeepsRow.holds Try.pinned (OpenSpec.ofChange Rows.trimKeepsSpec) :=
  OpenClaim.holds_of_wide 10 Try.f10 rfl rfl rfl rfl rfl rfl rfl ⟨rfl, rfl, rfl, rfl, rfl⟩ rfl rfl rfl rfl rfl (by kernel_rfl) Try.func10 (by kernel_rfl)
    (of_decide_eq_true (by kernel_rfl)) (by unfold Func.isWrapper; first | (rw [if_pos (by decide +kernel)]; kernel_rfl) | (rw [if_neg (by decide +kernel)]; exact ⟨rfl, rfl⟩))
    (fun os started H enc _ => lifted os started H enc)

end Go.Proofs.Yteghlkckccdlcaa.trimKeepsDone
namespace Go.Proofs.Yteghlkckccdlcaa
theorem TrimKeeps_holds : Rows.TrimKeepsSaid := trimKeepsDone.over
end Go.Proofs.Yteghlkckccdlcaa
