/- What stands below the base is right as it is: items that do nothing below a log's base, and the log's own behind them, fit, and leave the log as it was: for all raw numbers, every base and every place the law returns true. No condition. -/
import Derived.Test.YteghlkckccdlcaaMb
import Derived.Test.YteghlkckccdlcaaHk
import Derived.Test.YteghlkckccdlcaaOj
import Derived.Test.YteghlkckccdlcaaBx
namespace Go.Proofs.Yteghlkckccdlcaa.matchBelowDone
open Go.ChangeShapes Go.WideShapes Go.ChangeAt Go.RowKit
open Go.Proofs.Yteghlkckccdlcaa
set_option linter.unusedVariables false
set_option maxRecDepth 100000

abbrev nopO2 : Obj := .cells #[.int .i64 2, .int .i64 0, .bool true, .int .i64 0, .int .i64 0, .int .i64 0, .string ⟨#[]⟩, .string ⟨#[]⟩, .string ⟨#[]⟩, .int .i64 0] 46
theorem row_nop (w : World) : RowI (w.alloc nopO2) (.slice (some ⟨w.heap.size, 0, none⟩) 1 1) [nopAt 2 0] := by
  refine ⟨by simp, _, 1, rfl, by simp, by omega, .inr ⟨w.heap.size, 0, rfl, by simp, fun i hi c hc => ?_⟩⟩
  obtain rfl : i = 0 := by simpa using hi
  have h := (cellsB (alloc_at w nopO2)).1 (0 + 0 * 10 + c)
  rw [h]
  simp [encIt, nopAt, noCmd]

set_option maxHeartbeats 8000000 in
theorem walk0 (s : Value) (l : List Deed) (base at' : Int) (w : World) (hd : DeedsAt w s l) (b1 : in64 base) (b2 : in64 at') :
    Calls Try.prog 8 #[s, .int .i64 base, .int .i64 at'] w fun e w' => e = .returned (.bool true) ∧ Below w.heap.size w w' := by
  have p1 := fun W => picked_any base 11 W b1.1 b1.2 (by omega) (by omega)
  have l1 := pickedN_lt base (show 0 < 11 by omega)
  generalize pickedN base 11 = q at *
  have hG := fun W (hW : Below w.heap.size w W) => log_any s l (1 + (q : Int)) W (hd.below hW) (by omega) (by omega)
  have hk := logFor_ok l (1 + (q : Int))
  have hs := logFor_small l (1 + (q : Int))
  have hf := logFor_from l q l1
  generalize logFor l (1 + (q : Int)) = g at *
  obtain ⟨hb1, ht⟩ := hf
  have p2 := fun W => picked_any at' (1 + q) W b2.1 b2.2 (by omega) (by omega)
  have l2 := pickedN_lt at' (show 0 < 1 + q by omega)
  rw [show ((1 + q : Nat) : Int) = 1 + (q : Int) by omega] at p2
  generalize pickedN at' (1 + q) = k at *
  have hM := fun (W : World) (r xs : Value) (h : RowI W r g.items) (hx : RowI W xs (List.replicate (g.base.toNat - k) (nopAt 2 0) ++ g.items)) => match_any g r k (if k = 0 then 0 else 1) xs _ W h hx
  rw [matchR_below g k _ hk ht (by omega) (by omega) hs.1 rfl, show g.base.toNat - k = 1 + q - k by omega] at hM
  have hS := fun (W : World) (r r' : Value) (h : RowI W r g.items) (h' : RowI W r' g.items) => sameLogK g.base g.term r r' g.items W h h'
  obtain ⟨b, t, A⟩ := g
  simp only at *
  subst hb1 ht
  have P1 : Hid (∀ W, Calls Try.prog 19 #[.int .i64 base, .int .i64 11] W fun e w' => e = .returned (.int .i64 (q : Nat)) ∧ W = w') := p1
  have P2 : Hid (∀ W, Calls Try.prog 19 #[.int .i64 at', .int .i64 (1 + (q : Int))] W fun e w' => e = .returned (.int .i64 (k : Nat)) ∧ W = w') := p2
  have HG : Hid (∀ W, Below w.heap.size w W → Calls Try.prog 18 #[s, .int .i64 (1 + (q : Int))] W fun e w' => ∃ r, e = .returned (logV (1 + (q : Int)) 2 r) ∧ OwnI W.heap.size w' r A ∧ Below W.heap.size W w') := hG
  have HM : Hid (∀ (W : World) (r xs : Value), RowI W r A → RowI W xs (List.replicate (1 + q - k) (nopAt 2 0) ++ A) → Calls Try.prog 14 #[logV (1 + (q : Int)) 2 r, .int .i64 (k : Int), .int .i64 (if k = 0 then 0 else 1), xs] W (MatchOk W ⟨⟨1 + (q : Int), 2, A⟩, true, 0, 0⟩)) := hM
  have HS : Hid (∀ (W : World) (r r' : Value), RowI W r A → RowI W r' A → Calls Try.prog 21 #[logV (1 + (q : Int)) 2 r, logV (1 + (q : Int)) 2 r'] W fun e w' => e = .returned (.bool true) ∧ Below W.heap.size W w') := hS
  have hAl : A.length ≤ 30 := hs.1
  clear hM hS hG p1 p2 hk hd b1 b2 hs
  go_enter Try.func8, Try.ntmps8
  go_wp2_with fail
  refine (P1.out _).mono ?_
  rintro e w1 ⟨rfl, rfl⟩
  go_wp2_with fail
  refine (HG.out _ (Below.refl _ _)).mono ?_
  rintro e w1 ⟨r, rfl, hown, hb1⟩
  clear HG P1
  have hrow := hown.row (by omega)
  obtain ⟨sa, sc, rfl⟩ := hown.shape
  clear hown
  go_wp2_with fail
  have n1 := alloc_at w1 (logO (1 + (q : Int)) 2 (.slice sa A.length sc))
  have hB1 := hb1.alloc hb1.size (logO (1 + (q : Int)) 2 (.slice sa A.length sc))
  have hrow1 := hrow.below (balloc w1 (logO (1 + (q : Int)) 2 (.slice sa A.length sc)))
  clear hrow hb1
  generalize w1.alloc (logO (1 + (q : Int)) 2 (.slice sa A.length sc)) = V at n1 hB1 hrow1 ⊢
  generalize w1.heap.size = bg at n1 ⊢
  refine (P2.out _).mono ?_
  rintro e w2 ⟨rfl, rfl⟩
  clear P2
  go_wp2_with fail
  have HR1 : Hid (RowI V (.slice sa A.length sc) A) := hrow1
  have HN1 : Hid (V.heap[bg]? = some (logO (1 + (q : Int)) 2 (.slice sa A.length sc))) := n1
  have hzg := lt_at n1
  clear hrow1 n1
  go_loopw [9, 10] (fun sv c wr => ∃ m : Nat, c = .int .i64 ((k : Int) + m) ∧ k + m ≤ 1 + q ∧ OwnI V.heap.size wr sv (List.replicate m (nopAt 2 0)) ∧ Below V.heap.size V wr) (fun _ c _ => 1 + q - (intOf c).toNat)
  case atStart => exact ⟨0, by simp, by omega, OwnI.nil _ _, Below.refl _ _⟩
  case round =>
    obtain ⟨m, rfl, hm, hown, hb⟩ := hrel
    obtain ⟨va, vc, rfl⟩ := hown.shape
    have HO : Hid (OwnI V.heap.size wr (.slice va (List.replicate m (nopAt 2 0)).length vc) (List.replicate m (nopAt 2 0))) := hown
    have n2 := (hb.block bg hzg).trans HN1.out
    obtain ⟨c2, f2⟩ := cellsB n2
    have hsz := hb.size
    simp only [List.length_replicate] at HO ⊢
    clear hown
    by_cases hlt : k + m < 1 + q
    · have hlt' : (k : Int) + (m : Int) < 1 + (q : Int) := by omega
      have HRN : Hid (RowI (wr.alloc nopO2) (.slice (some ⟨wr.heap.size, 0, none⟩) 1 1) [nopAt 2 0]) := row_nop wr
      go_wp2_with (at_builtin; refine wpList_append_items _ rfl _ _ rfl V.heap.size _ (List.replicate m (nopAt 2 0)) rfl (World.ownsRow.alloc HO.out nopO2) _ [nopAt 2 0] rfl HRN.out ?_ ?_ ?_)
      · simp; omega
      · have := hsz; simp; omega
      intro v1 w2 hown1 hg1
      have hB2 : Below V.heap.size V w2 := (hb.alloc hb.size nopO2).trans (OwnI.below (World.ownsRow.alloc HO.out nopO2) (by simp; omega) hg1)
      obtain ⟨ya, yc, rfl⟩ := hown1.shape
      rw [show List.replicate m (nopAt 2 0) ++ [nopAt 2 0] = List.replicate (m + 1) (nopAt 2 0) from List.replicate_succ'.symm] at hown1 ⊢
      have HO1 : Hid (OwnI V.heap.size w2 (.slice ya (List.replicate (m + 1) (nopAt 2 0)).length yc) (List.replicate (m + 1) (nopAt 2 0))) := hown1
      simp only [List.length_replicate] at HO1 ⊢
      clear hown1 hg1 HO HRN c2 f2 n2
      go_wp2_with fail
      refine ⟨⟨m + 1, by go_num, by omega, ?_, hB2⟩, by simp [intOf]; omega⟩
      exact HO1.out
    · have hge : ¬ ((k : Int) + (m : Int) < 1 + (q : Int)) := by omega
      obtain rfl : m = 1 + q - k := by omega
      have HRr : Hid (RowI wr (.slice sa A.length sc) A) := HR1.out.below hb
      go_wp2_with (at_builtin; refine wpList_append_items _ rfl _ _ rfl V.heap.size _ (List.replicate (1 + q - k) (nopAt 2 0)) rfl HO.out _ A rfl HRr.out ?_ ?_ ?_)
      · omega
      intro v1 w2 hown1 hg1
      have hup : Below V.heap.size V w2 := hb.trans (OwnI.below HO.out hsz hg1)
      have hx2 := hown1.row (by simp; omega)
      obtain ⟨ya, yc, rfl⟩ := hown1.shape
      have n3 := (hup.block bg hzg).trans HN1.out
      have hB3 := bstep hB1 hup
      have hr3 := HR1.out.below hup
      generalize hL : List.replicate (1 + q - k) (nopAt 2 0) ++ A = L at *
      clear hown1 hg1 HO HRr c2 f2 n2 hL hup hb
      obtain ⟨c3, f3⟩ := cellsB n3
      by_cases hk0 : k = 0
      · subst hk0
        simp only [if_true] at HM
        go_wp2_with fail
        refine (HM.out _ _ _ hr3 hx2).mono ?_
        rintro e w3 ⟨r, rfl, hown, hb3⟩
        obtain ⟨za, zc, rfl⟩ := hown.shape
        have ho3 := hown.row (by show A.length ≤ _; omega)
        have n4 := (hb3.block bg (lt_at n3)).trans n3
        have hB4 := bstep hB3 hb3
        have hr4 := hr3.below hb3
        clear hown hb3 n3 hB3 hr3 hx2 HM c3 f3
        simp only at ho3 ⊢
        have hz4 := lt_at n4
        obtain ⟨c4, f4⟩ := cellsB n4
        go_wp2_with fail
        have mx := alloc_at w3 (logO (1 + (q : Int)) 2 (.slice za A.length zc))
        have hB5 := hB4.alloc hB4.size (logO (1 + (q : Int)) 2 (.slice za A.length zc))
        have ho5 := ho3.below (balloc w3 (logO (1 + (q : Int)) 2 (.slice za A.length zc)))
        have hr5 := hr4.below (balloc w3 (logO (1 + (q : Int)) 2 (.slice za A.length zc)))
        refine (HS.out _ _ _ ho5 hr5).mono ?_
        rintro e w5 ⟨rfl, hb5⟩
        have hB6 := bstep hB5 hb5
        clear mx hB5 ho5 hr5 hb5 HS ho3 hr4 hB4 n4 c4 f4
        go_wp2_with fail
        go_ret
        exact ⟨rfl, hB6⟩
      · have hk1 : ¬ (k : Int) = 0 := by omega
        simp only [hk0, if_false] at HM
        go_wp2_with fail
        refine (HM.out _ _ _ hr3 hx2).mono ?_
        rintro e w3 ⟨r, rfl, hown, hb3⟩
        obtain ⟨za, zc, rfl⟩ := hown.shape
        have ho3 := hown.row (by show A.length ≤ _; omega)
        have n4 := (hb3.block bg (lt_at n3)).trans n3
        have hB4 := bstep hB3 hb3
        have hr4 := hr3.below hb3
        clear hown hb3 n3 hB3 hr3 hx2 HM c3 f3
        simp only at ho3 ⊢
        have hz4 := lt_at n4
        obtain ⟨c4, f4⟩ := cellsB n4
        go_wp2_with fail
        have mx := alloc_at w3 (logO (1 + (q : Int)) 2 (.slice za A.length zc))
        have hB5 := hB4.alloc hB4.size (logO (1 + (q : Int)) 2 (.slice za A.length zc))
        have ho5 := ho3.below (balloc w3 (logO (1 + (q : Int)) 2 (.slice za A.length zc)))
        have hr5 := hr4.below (balloc w3 (logO (1 + (q : Int)) 2 (.slice za A.length zc)))
        refine (HS.out _ _ _ ho5 hr5).mono ?_
        rintro e w5 ⟨rfl, hb5⟩
        have hB6 := bstep hB5 hb5
        clear mx hB5 ho5 hr5 hb5 HS ho3 hr4 hB4 n4 c4 f4
        go_wp2_with fail
        go_ret
        exact ⟨rfl, hB6⟩

theorem walk (v0 v1 v2 : Value) (w : World) (h0 : IsDeeds w v0) (h1 : IsInt v1) (h2 : IsInt v2) :
    Calls Try.prog 8 #[v0, v1, v2] w fun e w' => e = .returned (.bool true) ∧ Below w.heap.size w w' := by
  obtain ⟨l, hd⟩ := h0
  obtain ⟨x1, rfl, c1, c2⟩ := h1
  obtain ⟨x2, rfl, c3, c4⟩ := h2
  exact walk0 v0 l x1 x2 w hd ⟨c1, c2⟩ ⟨c3, c4⟩

theorem own : ownKnob Try.prog.godebug = none := by kernel_rfl
theorem laidOut : laidOutB Try.prog = true := by kernel_rfl

set_option maxRecDepth 100000 in
theorem lifted (os : Os) (started : os.Started) (H : Type) (enc : TypeId × Value → H) :
    ReturnsInHanded {} Try.checked os 8 .any (Rows.matchBelowSpec.pre6 enc Try.prog Try.f8 Rows.matchBelowRow.domain false) (Rows.matchBelowSpec.post enc Try.prog Try.f8 false true false false) := by
  refine returnsInHanded_of_change (C := Try.checked) own started (by kernel_rfl) Try.func8
    (ChangeSpec.witness6 (enc := enc) (C := Try.checked) false ⟨#[], #[.slice none 0 0, .int .i64 0, .int .i64 0], []⟩ 8 (by kernel_rfl) (by kernel_rfl) (by kernel_rfl) (by kernel_rfl)) ?_
  intro W base args ds gs before hval0 hW hcnd _
  have hval : ∀ (j : Nat) t v, Try.f8.params[j]? = some t → args[j]? = some v → Value.okWide Try.prog W .any base t v := hval0
  have hW' := hW
  obtain ⟨p, q, hA0, hV, rfl, hfz, hnd⟩ := hW
  have hA : DataW.TrodAll enc Try.prog W 0 (fun _ => true) true Try.f8.params.toList args.toList ds p := hA0
  rw [Try.params8] at hA hval
  obtain ⟨v0, vs0, d0, ds0, p0, q0, hargs, rfl, rfl, h0, r0⟩ := trodAll_cons hA
  obtain ⟨v1, vs1, d1, ds1, p1, q1, rfl, rfl, rfl, h1, r1⟩ := trodAll_cons r0
  obtain ⟨v2, vs2, d2, ds2, p2, q2, rfl, rfl, rfl, h2, r2⟩ := trodAll_cons r1
  obtain ⟨rfl, rfl, rfl⟩ := trodAll_nil r2
  obtain rfl : args = #[v0, v1, v2] := by cases args; simp_all
  obtain ⟨rfl, rfl⟩ := trodVars_none hV
  have lt0 : ∀ x ∈ p0, x.block < W.heap.size := by obtain ⟨m, hm⟩ := h0; exact DataW.trod_lt m _ _ _ hm
  have g0 := shape_deeds (hval 0 32 v0 rfl rfl) h0
  have lt1 : ∀ x ∈ p1, x.block < W.heap.size := by obtain ⟨m, hm⟩ := h1; exact DataW.trod_lt m _ _ _ hm
  have g1 := shape_int (hval 1 3 v1 rfl rfl) h1
  have lt2 : ∀ x ∈ p2, x.block < W.heap.size := by obtain ⟨m, hm⟩ := h2; exact DataW.trod_lt m _ _ _ hm
  have g2 := shape_int (hval 2 3 v2 rfl rfl) h2
  clear hA0 hval0
  refine (walk v0 v1 v2 W g0 g1 g2).mono fun e W' ⟨he, bel⟩ => ?_
  subst he
  exact ⟨_, rfl, _, _, _, [], _, [], hW', trodAll_mk1 (shut_bool Try.underlying4 _), (trodAll_cons_mk (Below.trod laidOut (by kernel_rfl) (of_decide_eq_true (by kernel_rfl)) h0 bel lt0) (trodAll_cons_mk (Below.trod laidOut (by kernel_rfl) (of_decide_eq_true (by kernel_rfl)) h1 bel lt1) (trodAll_cons_mk (Below.trod laidOut (by kernel_rfl) (of_decide_eq_true (by kernel_rfl)) h2 bel lt2) trodAll_mk0))), rfl, bel.frame _, fun h => by cases h⟩

theorem over : Rows.matchBelowRow.holds Try.pinned (OpenSpec.ofChange Rows.matchBelowSpec) :=
  OpenClaim.holds_of_wide 8 Try.f8 rfl rfl rfl rfl rfl rfl rfl ⟨rfl, rfl, rfl, rfl, rfl⟩ rfl rfl rfl rfl rfl (by kernel_rfl) Try.func8 (by kernel_rfl)
    (of_decide_eq_true (by kernel_rfl)) (by unfold Func.isWrapper; first | (rw [if_pos (by decide +kernel)]; kernel_rfl) | (rw [if_neg (by decide +kernel)]; exact ⟨rfl, rfl⟩))
    (fun os started H enc _ => lifted os started H enc)

end Go.Proofs.Yteghlkckccdlcaa.matchBelowDone
namespace Go.Proofs.Yteghlkckccdlcaa
theorem MatchBelow_holds : Rows.MatchBelowSaid := matchBelowDone.over
end Go.Proofs.Yteghlkckccdlcaa
