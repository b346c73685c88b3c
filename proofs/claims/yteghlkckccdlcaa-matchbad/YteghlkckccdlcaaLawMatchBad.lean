/- Items whose terms or times fall are no log: Match refuses them behind a log of raw numbers, and Check refuses a log of them, and a log with a base and no term: for all raw numbers, every base and either pair the law returns true. No condition. -/
import Derived.Test.YteghlkckccdlcaaMa
import Derived.Test.YteghlkckccdlcaaOj
import Derived.Test.YteghlkckccdlcaaOb
namespace Go.Proofs.Yteghlkckccdlcaa.matchBadDone
open Go.ChangeShapes Go.WideShapes Go.ChangeAt Go.RowKit
open Go.Proofs.Yteghlkckccdlcaa
set_option linter.unusedVariables false
set_option maxRecDepth 100000

abbrev nopI (t u : Int) : Itm := ⟨t, u, true, 0, 0, noCmd⟩
abbrev nopC (t u : Int) : List Value := [.int .i64 t, .int .i64 u, .bool true, .int .i64 0, .int .i64 0, .int .i64 0, .string ⟨#[]⟩, .string ⟨#[]⟩, .string ⟨#[]⟩, .int .i64 0]
/-- Two items that lie in a new row. -/
theorem row_two (w : World) (x y : Itm) : RowI (w.alloc (.cells (encIt x ++ encIt y).toArray 46)) (.slice (some ⟨w.heap.size, 0, none⟩) 2 2) [x, y] := by
  refine ⟨by simp, _, 2, rfl, by simp, by omega, .inr ⟨w.heap.size, 0, rfl, by simp, fun i hi c hc => ?_⟩⟩
  have h := (cellsB (alloc_at w (.cells (encIt x ++ encIt y).toArray 46))).1 (0 + i * 10 + c)
  rw [h]
  have : i = 0 ∨ i = 1 := by simp at hi; omega
  rcases this with rfl | rfl
  · simp only [List.getElem?_toArray]
    rw [List.getElem?_append_left (by rw [lenIt]; omega)]; simp
  · simp only [List.getElem?_toArray]
    rw [List.getElem?_append_right (by rw [lenIt]; omega)]; simp [lenIt]

abbrev nopO (t u : Int) : Obj := .cells #[.int .i64 t, .int .i64 u, .bool true, .int .i64 0, .int .i64 0, .int .i64 0, .string ⟨#[]⟩, .string ⟨#[]⟩, .string ⟨#[]⟩, .int .i64 0] 46
abbrev nop2O (t u t' u' : Int) : Obj := .cells #[.int .i64 t, .int .i64 u, .bool true, .int .i64 0, .int .i64 0, .int .i64 0, .string ⟨#[]⟩, .string ⟨#[]⟩, .string ⟨#[]⟩, .int .i64 0, .int .i64 t', .int .i64 u', .bool true, .int .i64 0, .int .i64 0, .int .i64 0, .string ⟨#[]⟩, .string ⟨#[]⟩, .string ⟨#[]⟩, .int .i64 0] 46
theorem row_nops (w : World) (t u t' u' : Int) : RowI (w.alloc (nop2O t u t' u')) (.slice (some ⟨w.heap.size, 0, none⟩) 2 2) [nopI t u, nopI t' u'] := row_two w (nopI t u) (nopI t' u')

set_option maxHeartbeats 8000000 in
theorem walk0 (s : Value) (l : List Deed) (base : Int) (which : Bool) (w : World) (hd : DeedsAt w s l) (b1 : in64 base) :
    Calls Try.prog 9 #[s, .int .i64 base, .bool which] w fun e w' => e = .returned (.bool true) ∧ Below w.heap.size w w' := by
  have hG := log_any s l base w hd b1.1 b1.2
  have hk := logFor_ok l base
  have hs := logFor_small l base
  generalize logFor l base = g at *
  have HG : Hid (Calls Try.prog 18 #[s, .int .i64 base] w fun e w' => ∃ r, e = .returned (logV g.base g.term r) ∧ OwnI w.heap.size w' r g.items ∧ Below w.heap.size w w') := hG
  clear hG
  obtain ⟨t2, u2, hf, hT⟩ : ∃ t2 u2 : Int, (t2 < 9 ∨ u2 < 9) ∧ ((which = true ∧ t2 = 9 ∧ u2 = 8) ∨ (which = false ∧ t2 = 8 ∧ u2 = 9)) := by
    cases which
    · exact ⟨8, 9, by omega, .inr ⟨rfl, rfl, rfl⟩⟩
    · exact ⟨9, 8, by omega, .inl ⟨rfl, rfl, rfl⟩⟩
  have hM := fun (W W' : World) (r xs : Value) (h : RowI W r g.items) (hx : RowI W xs [nopI 9 9, nopI t2 u2]) => match_any g r g.base g.term xs _ W h hx
  rw [matchR_bad g _ _ _ hk (okB_falls hf)] at hM
  have hC := fun (W : World) (xs : Value) (hx : RowI W xs [nopI 9 9, nopI t2 u2]) => check_any ⟨0, 0, [nopI 9 9, nopI t2 u2]⟩ xs W hx
  rw [fault_not (okB_falls hf)] at hC
  have hD := fun (W : World) => check_any ⟨1, 0, []⟩ (.slice none 0 0) W (RowAt.nil 10 encIt W).toI
  rw [show Lg.fault ⟨1, 0, []⟩ = 13 by decide] at hD
  obtain ⟨b, t, A⟩ := g
  simp only at *
  have HM : Hid (∀ (W : World) (r xs : Value), RowI W r A → RowI W xs [nopI 9 9, nopI t2 u2] → Calls Try.prog 14 #[logV b t r, .int .i64 b, .int .i64 t, xs] W (MatchOk W ⟨nilLg, false, 0, 10⟩)) := fun W r xs h hx => hM W W r xs h hx
  have HC : Hid (∀ (W : World) (xs : Value), RowI W xs [nopI 9 9, nopI t2 u2] → Calls Try.prog 25 #[logV 0 0 xs] W fun e w' => e = .returned (.int .i64 13) ∧ Below W.heap.size W w') := hC
  have HD : Hid (∀ (W : World), Calls Try.prog 25 #[logV 1 0 (.slice none 0 0)] W fun e w' => e = .returned (.int .i64 13) ∧ Below W.heap.size W w') := hD
  clear hM hC hD hk hd b1 hf
  have hAl : A.length ≤ 30 := hs.1
  go_enter Try.func9, Try.ntmps9
  go_wp2_with fail
  refine HG.out.mono ?_
  rintro e w1 ⟨r, rfl, hown, hb1⟩
  clear HG
  have hrow := hown.row (by omega)
  obtain ⟨sa, sc, rfl⟩ := hown.shape
  clear hown
  rcases hT with ⟨rfl, rfl, rfl⟩ | ⟨rfl, rfl, rfl⟩
  · go_wp2_with fail
    obtain ⟨n0, n1, n2, hB0, hs0⟩ := three_at w1 (logO b t (.slice sa A.length sc)) (nopO 9 9) (nopO 9 8)
    generalize ((w1.alloc (logO b t (.slice sa A.length sc))).alloc (nopO 9 9)).alloc (nopO 9 8) = V at n0 n1 n2 hB0 hs0 ⊢
    rw [show w1.heap.size + 1 + 1 + 1 = V.heap.size from hs0.symm]
    have hx1 := row_nops V 9 9 9 8
    have hB1 := balloc V (nop2O 9 9 9 8)
    have hr1 := hrow.below (hB0.alloc hB0.size (nop2O 9 9 9 8))
    have m0 := (hB1.block _ (lt_at n0)).trans n0
    have m1 := (hB1.block _ (lt_at n1)).trans n1
    have m2 := (hB1.block _ (lt_at n2)).trans n2
    have hB2 := bstep hb1 (bstep hB0 hB1)
    clear n0 n1 n2 hB0 hB1 hs0 hb1 hrow
    generalize V.alloc (nop2O 9 9 9 8) = V1 at *
    refine (HM.out _ _ _ hr1 hx1).mono ?_
    rintro e w2 ⟨r, rfl, hown, hb2⟩
    obtain ⟨ra, rc, rfl⟩ := hown.shape
    have k0 := (hb2.block _ (lt_at m0)).trans m0
    have k1 := (hb2.block _ (lt_at m1)).trans m1
    have k2 := (hb2.block _ (lt_at m2)).trans m2
    have hB3 := bstep hB2 hb2
    clear m0 m1 m2 hb2 hB2 hown hx1 hr1 HM
    have z1 := lt_at k1
    have z2 := lt_at k2
    obtain ⟨c1, f1⟩ := cellsB k1
    obtain ⟨c2, f2⟩ := cellsB k2
    clear k0 k1 k2
    generalize w1.heap.size + 1 + 1 = b2 at *
    generalize w1.heap.size + 1 = b1 at *
    simp only [List.length_nil]
    go_wp2_with fail
    have nx := alloc_at w2 (logO 0 0 (.slice ra 0 rc))
    have hB4 := hB3.alloc hB3.size (logO 0 0 (.slice ra 0 rc))
    have hs4 : (w2.alloc (logO 0 0 (.slice ra 0 rc))).heap.size = w2.heap.size + 1 := by simp
    clear hB3 c1 c2 f1 f2 z1 z2
    generalize w2.alloc (logO 0 0 (.slice ra 0 rc)) = V2 at *
    rw [show w2.heap.size + 1 = V2.heap.size from hs4.symm]
    have hx2 := row_nops V2 9 9 9 8
    have hB5 := hB4.alloc hB4.size (nop2O 9 9 9 8)
    have mx := ((balloc V2 (nop2O 9 9 9 8)).block _ (lt_at nx)).trans nx
    clear hB4 nx hs4
    generalize V2.alloc (nop2O 9 9 9 8) = V3 at *
    refine (HC.out _ _ hx2).mono ?_
    rintro e w3 ⟨rfl, hb3⟩
    have kx := (hb3.block _ (lt_at mx)).trans mx
    have hB6 := bstep hB5 hb3
    clear mx hb3 hB5 hx2 HC
    go_wp2_with fail
    refine (HD.out _).mono ?_
    rintro e w4 ⟨rfl, hb4⟩
    have lx := (hb4.block _ (lt_at kx)).trans kx
    have hB7 := bstep hB6 hb4
    obtain ⟨c4, f4⟩ := cellsB lx
    clear kx hb4 hB6 HD lx
    go_wp2_with fail
    go_ret
    exact ⟨rfl, hB7⟩
  · go_wp2_with fail
    obtain ⟨n0, n1, n2, hB0, hs0⟩ := three_at w1 (logO b t (.slice sa A.length sc)) (nopO 9 9) (nopO 8 9)
    generalize ((w1.alloc (logO b t (.slice sa A.length sc))).alloc (nopO 9 9)).alloc (nopO 8 9) = V at n0 n1 n2 hB0 hs0 ⊢
    rw [show w1.heap.size + 1 + 1 + 1 = V.heap.size from hs0.symm]
    have hx1 := row_nops V 9 9 8 9
    have hB1 := balloc V (nop2O 9 9 8 9)
    have hr1 := hrow.below (hB0.alloc hB0.size (nop2O 9 9 8 9))
    have m0 := (hB1.block _ (lt_at n0)).trans n0
    have m1 := (hB1.block _ (lt_at n1)).trans n1
    have m2 := (hB1.block _ (lt_at n2)).trans n2
    have hB2 := bstep hb1 (bstep hB0 hB1)
    clear n0 n1 n2 hB0 hB1 hs0 hb1 hrow
    generalize V.alloc (nop2O 9 9 8 9) = V1 at *
    refine (HM.out _ _ _ hr1 hx1).mono ?_
    rintro e w2 ⟨r, rfl, hown, hb2⟩
    obtain ⟨ra, rc, rfl⟩ := hown.shape
    have k0 := (hb2.block _ (lt_at m0)).trans m0
    have k1 := (hb2.block _ (lt_at m1)).trans m1
    have k2 := (hb2.block _ (lt_at m2)).trans m2
    have hB3 := bstep hB2 hb2
    clear m0 m1 m2 hb2 hB2 hown hx1 hr1 HM
    have z1 := lt_at k1
    have z2 := lt_at k2
    obtain ⟨c1, f1⟩ := cellsB k1
    obtain ⟨c2, f2⟩ := cellsB k2
    clear k0 k1 k2
    generalize w1.heap.size + 1 + 1 = b2 at *
    generalize w1.heap.size + 1 = b1 at *
    simp only [List.length_nil]
    go_wp2_with fail
    have nx := alloc_at w2 (logO 0 0 (.slice ra 0 rc))
    have hB4 := hB3.alloc hB3.size (logO 0 0 (.slice ra 0 rc))
    have hs4 : (w2.alloc (logO 0 0 (.slice ra 0 rc))).heap.size = w2.heap.size + 1 := by simp
    clear hB3 c1 c2 f1 f2 z1 z2
    generalize w2.alloc (logO 0 0 (.slice ra 0 rc)) = V2 at *
    rw [show w2.heap.size + 1 = V2.heap.size from hs4.symm]
    have hx2 := row_nops V2 9 9 8 9
    have hB5 := hB4.alloc hB4.size (nop2O 9 9 8 9)
    have mx := ((balloc V2 (nop2O 9 9 8 9)).block _ (lt_at nx)).trans nx
    clear hB4 nx hs4
    generalize V2.alloc (nop2O 9 9 8 9) = V3 at *
    refine (HC.out _ _ hx2).mono ?_
    rintro e w3 ⟨rfl, hb3⟩
    have kx := (hb3.block _ (lt_at mx)).trans mx
    have hB6 := bstep hB5 hb3
    clear mx hb3 hB5 hx2 HC
    go_wp2_with fail
    refine (HD.out _).mono ?_
    rintro e w4 ⟨rfl, hb4⟩
    have lx := (hb4.block _ (lt_at kx)).trans kx
    have hB7 := bstep hB6 hb4
    obtain ⟨c4, f4⟩ := cellsB lx
    clear kx hb4 hB6 HD lx
    go_wp2_with fail
    go_ret
    exact ⟨rfl, hB7⟩
theorem walk (v0 v1 v2 : Value) (w : World) (h0 : IsDeeds w v0) (h1 : IsInt v1) (h2 : IsBool v2) :
    Calls Try.prog 9 #[v0, v1, v2] w fun e w' => e = .returned (.bool true) ∧ Below w.heap.size w w' := by
  obtain ⟨l, hd⟩ := h0
  obtain ⟨x1, rfl, c1, c2⟩ := h1
  obtain ⟨x2, rfl⟩ := h2
  exact walk0 v0 l x1 x2 w hd ⟨c1, c2⟩

theorem own : ownKnob Try.prog.godebug = none := by kernel_rfl
theorem laidOut : laidOutB Try.prog = true := by kernel_rfl

set_option maxRecDepth 100000 in
theorem lifted (os : Os) (started : os.Started) (H : Type) (enc : TypeId × Value → H) :
    ReturnsInHanded {} Try.checked os 9 .any (Rows.matchBadSpec.pre6 enc Try.prog Try.f9 Rows.matchBadRow.domain false) (Rows.matchBadSpec.post enc Try.prog Try.f9 false true false false) := by
  refine returnsInHanded_of_change (C := Try.checked) own started (by kernel_rfl) Try.func9
    (ChangeSpec.witness6 (enc := enc) (C := Try.checked) false ⟨#[], #[.slice none 0 0, .int .i64 0, .bool false], []⟩ 8 (by kernel_rfl) (by kernel_rfl) (by kernel_rfl) (by kernel_rfl)) ?_
  intro W base args ds gs before hval0 hW hcnd _
  have hval : ∀ (j : Nat) t v, Try.f9.params[j]? = some t → args[j]? = some v → Value.okWide Try.prog W .any base t v := hval0
  have hW' := hW
  obtain ⟨p, q, hA0, hV, rfl, hfz, hnd⟩ := hW
  have hA : DataW.TrodAll enc Try.prog W 0 (fun _ => true) true Try.f9.params.toList args.toList ds p := hA0
  rw [Try.params9] at hA hval
  obtain ⟨v0, vs0, d0, ds0, p0, q0, hargs, rfl, rfl, h0, r0⟩ := trodAll_cons hA
  obtain ⟨v1, vs1, d1, ds1, p1, q1, rfl, rfl, rfl, h1, r1⟩ := trodAll_cons r0
  obtain ⟨v2, vs2, d2, ds2, p2, q2, rfl, rfl, rfl, h2, r2⟩ := trodAll_cons r1
  obtain ⟨rfl, rfl, rfl⟩ := trodAll_nil r2
  obtain rfl : args = #[v0, v1, v2] := by cases args; simp_all
  obtain ⟨rfl, rfl⟩ := trodVars_none hV
  have lt0 : ∀ x ∈ p0, x.block < W.heap.size := by obtain ⟨m, hm⟩ := h0; exact DataW.trod_lt m _ _ _ hm
  have g0 := shape_deeds (hval 0 32 v0 rfl rfl) h0
  have lt1 : ∀ x ∈ p1, x.block < W.heap.size := by obtain ⟨m, hm⟩ := h1; exact DataW.trod_lt m _ _ _ hm
  have g1 := shape_int (hval 1 3 v1 rfl rfl) h1
  have lt2 : ∀ x ∈ p2, x.block < W.heap.size := by obtain ⟨m, hm⟩ := h2; exact DataW.trod_lt m _ _ _ hm
  have g2 := shape_bool (hval 2 4 v2 rfl rfl) h2
  clear hA0 hval0
  refine (walk v0 v1 v2 W g0 g1 g2).mono fun e W' ⟨he, bel⟩ => ?_
  subst he
  exact ⟨_, rfl, _, _, _, [], _, [], hW', trodAll_mk1 (shut_bool Try.underlying4 _), (trodAll_cons_mk (Below.trod laidOut (by kernel_rfl) (of_decide_eq_true (by kernel_rfl)) h0 bel lt0) (trodAll_cons_mk (Below.trod laidOut (by kernel_rfl) (of_decide_eq_true (by kernel_rfl)) h1 bel lt1) (trodAll_cons_mk (Below.trod laidOut (by kernel_rfl) (of_decide_eq_true (by kernel_rfl)) h2 bel lt2) trodAll_mk0))), rfl, bel.frame _, fun h => by cases h⟩

theorem over : Rows.matchBadRow.holds Try.pinned (OpenSpec.ofChange Rows.matchBadSpec) :=
  OpenClaim.holds_of_wide 9 Try.f9 rfl rfl rfl rfl rfl rfl rfl ⟨rfl, rfl, rfl, rfl, rfl⟩ rfl rfl rfl rfl rfl (by kernel_rfl) Try.func9 (by kernel_rfl)
    (of_decide_eq_true (by kernel_rfl)) (by unfold Func.isWrapper; first | (rw [if_pos (by decide +kernel)]; kernel_rfl) | (rw [if_neg (by decide +kernel)]; exact ⟨rfl, rfl⟩))
    (fun os started H enc _ => lifted os started H enc)

end Go.Proofs.Yteghlkckccdlcaa.matchBadDone
namespace Go.Proofs.Yteghlkckccdlcaa
theorem MatchBad_holds : Rows.MatchBadSaid := matchBadDone.over
end Go.Proofs.Yteghlkckccdlcaa
