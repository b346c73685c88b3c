/- What is added and taken away again leaves the count as it was, which is there, be it nought: for all two numbers the law returns true. No condition. -/
import Derived.Test.YtlfmpgemanbpeaaGreatKb
import Derived.Test.YtlfmpgemanbpeaaGreatKa
import Derived.Test.YtlfmpgemanbpeaaGreatOp
namespace Go.Proofs.YtlfmpgemanbpeaaGreat.countRestDone
open Go.ChangeShapes Go.WideShapes Go.ChangeAt Go.RowKit
open Go.Proofs.YtlfmpgemanbpeaaGreat
set_option linter.unusedVariables false
set_option maxRecDepth 100000

/-- What a call of Do with an adding command comes to, its command written out. -/
def Adds (x y : Val) (n m : Int) : Prop := ∀ (W : World) (v : Value), Reps W v x → Calls Tryz.prog 20 #[v, cmdV 3 ⟨#[107]⟩ ⟨#[]⟩ ⟨#[]⟩ n] W fun e w' =>
  ∃ pa pc ia ic sa sc la lc, e = .returned (.tuple #[valV 2 ⟨#[]⟩ m (.slice pa 0 pc) (.slice ia 0 ic) (.slice sa 0 sc), repV 0 ⟨#[]⟩ m (.slice la 0 lc), .int .i64 0]) ∧
    Reps w' (valV 2 ⟨#[]⟩ m (.slice pa 0 pc) (.slice ia 0 ic) (.slice sa 0 sc)) y ∧ Below W.heap.size W w'

theorem adds_of {x : Val} {n m : Int} (h : DoOk x (cmdAdd n) (cnt m) { n := m } 0) : Adds x (cnt m) n m := by
  intro W v hr
  refine (h W v hr).mono ?_
  rintro e w' ⟨v', u, rfl, hr', hu', hb⟩
  obtain ⟨pa, pc, ia, ic, sa, sc, rfl⟩ := hr'.reps.shapes
  obtain ⟨la, lc, rfl⟩ := hu'.rep.shapes
  exact ⟨pa, pc, ia, ic, sa, sc, la, lc, rfl, hr'.reps, hb⟩

theorem reps_none (W : World) : Reps W (valV 0 ⟨#[]⟩ 0 (.slice none 0 0) (.slice none 0 0) (.slice none 0 0)) (emptyVal 0) := ⟨_, _, _, rfl, Lists.empty W 0⟩

/-- A value that has just been laid in a local, beside its reply. -/
theorem laid_two {W w : World} {o1 o2 : Obj} (hb : Below W.heap.size W w) : Below W.heap.size W ((w.alloc o1).alloc o2) ∧ Below w.heap.size w ((w.alloc o1).alloc o2) ∧ ((w.alloc o1).alloc o2).heap.size = w.heap.size + 2 :=
  ⟨(hb.alloc hb.size _).alloc (Nat.le_trans hb.size (by simp)) _, (balloc _ _).alloc (by simp) _, by simp⟩

set_option maxHeartbeats 4000000 in
theorem walk0 (a0 a1 : Int) (b0 : -9223372036854775808 ≤ a0 ∧ a0 ≤ 9223372036854775807) (b1 : -9223372036854775808 ≤ a1 ∧ a1 ≤ 9223372036854775807) (w : World) :
    Calls Tryz.prog 16 #[.int .i64 a0, .int .i64 a1] w fun e w' => e = .returned (.bool true) ∧ Below w.heap.size w w' := by
  have p0 := fun W => picked_any a0 1073741824 W b0.1 b0.2 (by omega) (by omega)
  have p1 := fun W => picked_any a1 1073741824 W b1.1 b1.2 (by omega) (by omega)
  have l0 := pickedN_lt a0 (show 0 < 1073741824 by omega)
  have l1 := pickedN_lt a1 (show 0 < 1073741824 by omega)
  generalize pickedN a0 1073741824 = a at p0 l0
  generalize pickedN a1 1073741824 = b at p1 l1
  have P0 : Hid (∀ W, Calls Tryz.prog 24 #[.int .i64 a0, .int .i64 1073741824] W fun e w' => e = .returned (.int .i64 (a : Nat)) ∧ W = w') := p0
  have P1 : Hid (∀ W, Calls Tryz.prog 24 #[.int .i64 a1, .int .i64 1073741824] W fun e w' => e = .returned (.int .i64 (b : Nat)) ∧ W = w') := p1
  clear p0 p1 b0 b1
  have ca : isCountB (a : Int) = true := by simp [isCountB]; omega
  have cb : isCountB (b : Int) = true := by simp [isCountB]; omega
  have cab : isCountB ((a : Int) + b) = true := by simp [isCountB]; omega
  have cnb : isCountB (-(b : Int)) = true := by simp [isCountB]; omega
  have cna : isCountB (-(a : Int)) = true := by simp [isCountB]; omega
  have e1 : (a : Int) + b + -(b : Int) = a := by omega
  have e2 : (a : Int) + -(a : Int) = 0 := by omega
  have D1 := adds_of (do_add_none a ca)
  have D2 := adds_of (do_add_cnt a b ca cb cab)
  have D3 := do_add_cnt (a + b) (-b) cab cnb (by rw [e1]; exact ca)
  rw [e1] at D3
  have D3 := adds_of D3
  have D4 := do_add_cnt a (-a) ca cna (by rw [e2]; decide)
  rw [e2] at D4
  have D4 := adds_of D4
  have hchk := fun W v (h : Reps W v (cnt 0)) => check_any v (cnt 0) W h
  rw [cnt_fault 0 (by decide)] at hchk
  have HK : Hid (∀ W v, Reps W v (cnt 0) → Calls Tryz.prog 18 #[v] W fun e w' => e = .returned (.int .i64 0) ∧ Below W.heap.size W w') := hchk
  clear hchk ca cb cab cnb cna e1 e2
  go_enter Tryz.func16, Tryz.ntmps16
  go_wp2_with fail
  refine (P0.out _).mono ?_
  rintro e w' ⟨rfl, rfl⟩
  go_wp2_with fail
  refine (P1.out _).mono ?_
  rintro e w' ⟨rfl, rfl⟩
  go_wp2_with fail
  refine (D1 _ _ (reps_none _)).mono ?_
  rintro e w1 ⟨pa1, pc1, ia1, ic1, sa1, sc1, la1, lc1, rfl, hr1, hb1⟩
  have BB1 := hb1
  go_wp2_with fail
  obtain ⟨n1, m1⟩ := two_new w1 (valO 2 ⟨#[]⟩ ((a : Int)) (.slice pa1 0 pc1) (.slice ia1 0 ic1) (.slice sa1 0 sc1)) (repO 0 ⟨#[]⟩ ((a : Int)) (.slice la1 0 lc1))
  obtain ⟨hB1, hl1, hz1⟩ := laid_two (o1 := valO 2 ⟨#[]⟩ ((a : Int)) (.slice pa1 0 pc1) (.slice ia1 0 ic1) (.slice sa1 0 sc1)) (o2 := repO 0 ⟨#[]⟩ ((a : Int)) (.slice la1 0 lc1)) BB1
  generalize (w1.alloc (valO 2 ⟨#[]⟩ ((a : Int)) (.slice pa1 0 pc1) (.slice ia1 0 ic1) (.slice sa1 0 sc1))).alloc (repO 0 ⟨#[]⟩ ((a : Int)) (.slice la1 0 lc1)) = W1 at n1 m1 hB1 hl1 hz1 ⊢
  have hr1 := hr1.below hl1
  refine (D2 _ _ hr1).mono ?_
  rintro e w2 ⟨pa2, pc2, ia2, ic2, sa2, sc2, la2, lc2, rfl, hr2, hb2⟩
  have BB2 := bstep hB1 hb2
  have sz2 := hb2.size
  have n1 := (hb2.block _ (by omega)).trans n1
  have m1 := (hb2.block _ (by omega)).trans m1
  have hr1 := hr1.below hb2
  go_wp2_with fail
  obtain ⟨n2, m2⟩ := two_new w2 (valO 2 ⟨#[]⟩ ((a : Int) + b) (.slice pa2 0 pc2) (.slice ia2 0 ic2) (.slice sa2 0 sc2)) (repO 0 ⟨#[]⟩ ((a : Int) + b) (.slice la2 0 lc2))
  obtain ⟨hB2, hl2, hz2⟩ := laid_two (o1 := valO 2 ⟨#[]⟩ ((a : Int) + b) (.slice pa2 0 pc2) (.slice ia2 0 ic2) (.slice sa2 0 sc2)) (o2 := repO 0 ⟨#[]⟩ ((a : Int) + b) (.slice la2 0 lc2)) BB2
  generalize (w2.alloc (valO 2 ⟨#[]⟩ ((a : Int) + b) (.slice pa2 0 pc2) (.slice ia2 0 ic2) (.slice sa2 0 sc2))).alloc (repO 0 ⟨#[]⟩ ((a : Int) + b) (.slice la2 0 lc2)) = W2 at n2 m2 hB2 hl2 hz2 ⊢
  have hr2 := hr2.below hl2
  have n1 := (hl2.block _ (by omega)).trans n1
  have m1 := (hl2.block _ (by omega)).trans m1
  have hr1 := hr1.below hl2
  refine (D3 _ _ hr2).mono ?_
  rintro e w3 ⟨pa3, pc3, ia3, ic3, sa3, sc3, la3, lc3, rfl, hr3, hb3⟩
  have BB3 := bstep hB2 hb3
  have sz3 := hb3.size
  have n1 := (hb3.block _ (by omega)).trans n1
  have m1 := (hb3.block _ (by omega)).trans m1
  have hr1 := hr1.below hb3
  have n2 := (hb3.block _ (by omega)).trans n2
  have m2 := (hb3.block _ (by omega)).trans m2
  have hr2 := hr2.below hb3
  go_wp2_with fail
  obtain ⟨n3, m3⟩ := two_new w3 (valO 2 ⟨#[]⟩ ((a : Int)) (.slice pa3 0 pc3) (.slice ia3 0 ic3) (.slice sa3 0 sc3)) (repO 0 ⟨#[]⟩ ((a : Int)) (.slice la3 0 lc3))
  obtain ⟨hB3, hl3, hz3⟩ := laid_two (o1 := valO 2 ⟨#[]⟩ ((a : Int)) (.slice pa3 0 pc3) (.slice ia3 0 ic3) (.slice sa3 0 sc3)) (o2 := repO 0 ⟨#[]⟩ ((a : Int)) (.slice la3 0 lc3)) BB3
  generalize (w3.alloc (valO 2 ⟨#[]⟩ ((a : Int)) (.slice pa3 0 pc3) (.slice ia3 0 ic3) (.slice sa3 0 sc3))).alloc (repO 0 ⟨#[]⟩ ((a : Int)) (.slice la3 0 lc3)) = W3 at n3 m3 hB3 hl3 hz3 ⊢
  have hr3 := hr3.below hl3
  have n1 := (hl3.block _ (by omega)).trans n1
  have m1 := (hl3.block _ (by omega)).trans m1
  have hr1 := hr1.below hl3
  have n2 := (hl3.block _ (by omega)).trans n2
  have m2 := (hl3.block _ (by omega)).trans m2
  have hr2 := hr2.below hl3
  refine (D4 _ _ hr3).mono ?_
  rintro e w4 ⟨pa4, pc4, ia4, ic4, sa4, sc4, la4, lc4, rfl, hr4, hb4⟩
  have BB4 := bstep hB3 hb4
  have sz4 := hb4.size
  have n1 := (hb4.block _ (by omega)).trans n1
  have m1 := (hb4.block _ (by omega)).trans m1
  have hr1 := hr1.below hb4
  have n2 := (hb4.block _ (by omega)).trans n2
  have m2 := (hb4.block _ (by omega)).trans m2
  have hr2 := hr2.below hb4
  have n3 := (hb4.block _ (by omega)).trans n3
  have m3 := (hb4.block _ (by omega)).trans m3
  have hr3 := hr3.below hb4
  go_upto_region 7 with fail
  obtain ⟨n4, m4⟩ := two_new w4 (valO 2 ⟨#[]⟩ (0) (.slice pa4 0 pc4) (.slice ia4 0 ic4) (.slice sa4 0 sc4)) (repO 0 ⟨#[]⟩ (0) (.slice la4 0 lc4))
  obtain ⟨hB4, hl4, hz4⟩ := laid_two (o1 := valO 2 ⟨#[]⟩ (0) (.slice pa4 0 pc4) (.slice ia4 0 ic4) (.slice sa4 0 sc4)) (o2 := repO 0 ⟨#[]⟩ (0) (.slice la4 0 lc4)) BB4
  generalize (w4.alloc (valO 2 ⟨#[]⟩ (0) (.slice pa4 0 pc4) (.slice ia4 0 ic4) (.slice sa4 0 sc4))).alloc (repO 0 ⟨#[]⟩ (0) (.slice la4 0 lc4)) = W4 at n4 m4 hB4 hl4 hz4 ⊢
  have hr4 := hr4.below hl4
  have n1 := (hl4.block _ (by omega)).trans n1
  have m1 := (hl4.block _ (by omega)).trans m1
  have hr1 := hr1.below hl4
  have n2 := (hl4.block _ (by omega)).trans n2
  have m2 := (hl4.block _ (by omega)).trans m2
  have hr2 := hr2.below hl4
  have n3 := (hl4.block _ (by omega)).trans n3
  have m3 := (hl4.block _ (by omega)).trans m3
  have hr3 := hr3.below hl4
  obtain ⟨c1, f1⟩ := block_cells n1
  obtain ⟨c3, f3⟩ := block_cells n3
  obtain ⟨d3, g3⟩ := block_cells m3
  obtain ⟨c4, f4⟩ := block_cells n4
  obtain ⟨d4, g4⟩ := block_cells m4
  have hsv := sameValue_eq _ _ _ _ hr1 hr3
  clear n1 n2 n3 n4 m1 m2 m3 m4 D1 D2 D3 D4
  go_wp2_with fail
  refine hsv.mono ?_
  rintro e w5 ⟨rfl, hb5⟩
  have hB5 := bstep hB4 hb5
  have c4' := fun o => (hb5.cell (p := ⟨w4.heap.size, o, none⟩) (show w4.heap.size < _ by omega)).trans (c4 o)
  go_wp2_with fail
  refine (HK.out _ _ (hr4.below hb5)).mono ?_
  rintro e w6 ⟨rfl, hb6⟩
  go_wp2_with fail
  go_ret
  exact ⟨rfl, bstep hB5 hb6⟩

theorem walk (v0 v1 : Value) (w : World) (h0 : IsInt v0) (h1 : IsInt v1) :
    Calls Tryz.prog 16 #[v0, v1] w fun e w' => e = .returned (.bool true) ∧ Below w.heap.size w w' := by
  obtain ⟨a, rfl, a1, a2⟩ := h0
  obtain ⟨b, rfl, b1, b2⟩ := h1
  exact walk0 a b ⟨a1, a2⟩ ⟨b1, b2⟩ w

theorem own : ownKnob Tryz.prog.godebug = none := by kernel_rfl
theorem laidOut : laidOutB Tryz.prog = true := by kernel_rfl

set_option maxRecDepth 100000 in
theorem lifted (os : Os) (started : os.Started) (H : Type) (enc : TypeId × Value → H) :
    ReturnsInHanded {} Tryz.checked os 16 .any (Rows.countRestSpec.pre6 enc Tryz.prog Tryz.f16 Rows.countRestRow.domain false) (Rows.countRestSpec.post enc Tryz.prog Tryz.f16 false true false false) := by
  refine returnsInHanded_of_change (C := Tryz.checked) own started (by kernel_rfl) Tryz.func16
    (ChangeSpec.witness6 (enc := enc) (C := Tryz.checked) false ⟨#[], #[.int .i64 0, .int .i64 0], []⟩ 8 (by kernel_rfl) (by kernel_rfl) (by kernel_rfl) (by kernel_rfl)) ?_
  intro W base args ds gs before hval0 hW hcnd _
  have hval : ∀ (j : Nat) t v, Tryz.f16.params[j]? = some t → args[j]? = some v → Value.okWide Tryz.prog W .any base t v := hval0
  have hW' := hW
  obtain ⟨p, q, hA0, hV, rfl, hfz, hnd⟩ := hW
  have hA : DataW.TrodAll enc Tryz.prog W 0 (fun _ => true) true Tryz.f16.params.toList args.toList ds p := hA0
  rw [Tryz.params16] at hA hval
  obtain ⟨v0, vs0, d0, ds0, p0, q0, hargs, rfl, rfl, h0, r0⟩ := trodAll_cons hA
  obtain ⟨v1, vs1, d1, ds1, p1, q1, rfl, rfl, rfl, h1, r1⟩ := trodAll_cons r0
  obtain ⟨rfl, rfl, rfl⟩ := trodAll_nil r1
  obtain rfl : args = #[v0, v1] := by cases args; simp_all
  obtain ⟨rfl, rfl⟩ := trodVars_none hV
  have lt0 : ∀ x ∈ p0, x.block < W.heap.size := by obtain ⟨m, hm⟩ := h0; exact DataW.trod_lt m _ _ _ hm
  have g0 := shape_int (hval 0 3 v0 rfl rfl) h0
  have lt1 : ∀ x ∈ p1, x.block < W.heap.size := by obtain ⟨m, hm⟩ := h1; exact DataW.trod_lt m _ _ _ hm
  have g1 := shape_int (hval 1 3 v1 rfl rfl) h1
  clear hA0 hval0
  refine (walk v0 v1 W g0 g1).mono fun e W' ⟨he, bel⟩ => ?_
  subst he
  exact ⟨_, rfl, _, _, _, [], _, [], hW', trodAll_mk1 (shut_bool Tryz.underlying4 _), (trodAll_cons_mk (Below.trod laidOut (by kernel_rfl) (of_decide_eq_true (by kernel_rfl)) h0 bel lt0) (trodAll_cons_mk (Below.trod laidOut (by kernel_rfl) (of_decide_eq_true (by kernel_rfl)) h1 bel lt1) trodAll_mk0)), rfl, bel.frame _, fun h => by cases h⟩

end Go.Proofs.YtlfmpgemanbpeaaGreat.countRestDone
