/- The last word on how long a key is there counts: for all two numbers the law returns true. No condition. -/
import Derived.Test.YtfnephnecighaaaGreatSmJ
import Derived.Test.YtfnephnecighaaaGreatCaJ
import Derived.Test.YtfnephnecighaaaGreatOp
namespace Go.Proofs.YtfnephnecighaaaGreat.expireAgainDone
open Go.ChangeShapes Go.WideShapes Go.ChangeAt Go.RowKit
open Go.Proofs.YtfnephnecighaaaGreat
set_option linter.unusedVariables false
set_option maxRecDepth 100000

set_option maxHeartbeats 8000000 in
theorem walk0 (n m : Int) (w : World) (bn : -9223372036854775808 ≤ n ∧ n ≤ 9223372036854775807) (bm : -9223372036854775808 ≤ m ∧ m ≤ 9223372036854775807) :
    Calls Tryz.prog 9 #[.int .i64 n, .int .i64 m] w fun e w' => e = .returned (.bool true) ∧ Below w.heap.size w w' := by
  have p0 := fun W => picked_any n 90 W bn.1 bn.2 (by omega) (by omega)
  have p1 := fun W => picked_any m 90 W bm.1 bm.2 (by omega) (by omega)
  have l0 := pickedN_lt n (show 0 < 90 by omega)
  have l1 := pickedN_lt m (show 0 < 90 by omega)
  generalize pickedN n 90 = k0 at p0 l0
  generalize pickedN m 90 = k1 at p1 l1
  have P0 : Hid (∀ W, Calls Tryz.prog 21 #[.int .i64 n, .int .i64 90] W fun e w' => e = .returned (.int .i64 (k0 : Nat)) ∧ W = w') := p0
  have P1 : Hid (∀ W, Calls Tryz.prog 21 #[.int .i64 m, .int .i64 90] W fun e w' => e = .returned (.int .i64 (k1 : Nat)) ∧ W = w') := p1
  obtain ⟨K, hK⟩ : ∃ K : Int, 1 + (k0 : Int) = K := ⟨_, rfl⟩
  obtain ⟨J, hJ⟩ : ∃ J : Int, 1 + (k1 : Int) = J := ⟨_, rfl⟩
  have hk1 : 1 ≤ K := by omega
  have hk2 : K ≤ 90 := by omega
  have hj1 : 1 ≤ J := by omega
  have hj2 : J ≤ 90 := by omega
  have hw0 : IntKind.i64.wrap (1 + (k0 : Int)) = K := by rw [IntKind.wrap_i64]; omega
  have hw1 : IntKind.i64.wrap (1 + (k1 : Int)) = J := by rw [IntKind.wrap_i64]; omega
  have hw4 : IntKind.i64.wrap (4 + J) = 4 + J := by rw [IntKind.wrap_i64]; omega
  have hw5 : IntKind.i64.wrap (5 + J) = 5 + J := by rw [IntKind.wrap_i64]; omega
  have hv : OkVal (lisV [⟨#[120]⟩]) := ok_list (by simp) (by simp) (fun a ha => by simp at ha; subst ha; decide +kernel)
  have hx : (⟨#[120]⟩ : ByteArray).size ≤ 20 := by decide +kernel
  have o1 := sto_nil (now := 0) (by omega) (by omega)
  have oS : ∀ t : Int, (t = 0 ∨ (5 < t ∧ t ≤ 1073741824)) → OkSto ⟨5, [⟨keyA, lisV [⟨#[120]⟩], t⟩]⟩ := fun t ht => sto_keyA (by omega) (by omega) hv ht
  have r1 : refS ⟨0, []⟩ 5 (pushA ⟨#[120]⟩) = 0 := refS_ok.2 ⟨o1, by omega, fault_pushA hx⟩
  have rL : ∀ t : Int, (t = 0 ∨ (5 < t ∧ t ≤ 1073741824)) → refS ⟨5, [⟨keyA, lisV [⟨#[120]⟩], t⟩]⟩ 5 lifeA = 0 := fun t ht => refS_ok.2 ⟨oS t ht, by omega, fault_lifeA⟩
  have rE : ∀ t d : Int, (t = 0 ∨ (5 < t ∧ t ≤ 1073741824)) → 1 ≤ d → d ≤ 90 → refS ⟨5, [⟨keyA, lisV [⟨#[120]⟩], t⟩]⟩ 5 (expA d) = 0 := fun t d ht h1 h2 => refS_ok.2 ⟨oS t ht, by omega, fault_expA (countK h1 h2)⟩
  have rK : ∀ u : Int, 0 ≤ u → u ≤ 200 → refS ⟨5, [⟨keyA, lisV [⟨#[120]⟩], 5 + J⟩]⟩ u keysC = 0 := fun u h1 h2 => refS_ok.2 ⟨oS _ (.inr ⟨by omega, by omega⟩), ⟨h1, by omega⟩, fault_keysC⟩
  have A1 : Hid (ActsW 0 [] 5 7 ⟨#[97]⟩ ⟨#[]⟩ ⟨#[120]⟩ 0 5 [⟨keyA, lisV [⟨#[120]⟩], 0⟩] 1 0 ⟨#[]⟩ 1 [] 0 0) := acts_w (acts_of r1 (ap_new (c := pushA ⟨#[120]⟩) (y := lisV [⟨#[120]⟩]) (r := { n := 1 }) r1 (by omega) rfl (do_pushA_new hx).1 (do_pushA_new hx).2 rfl (by decide))) rfl rfl
  have A2 : Hid (ActsW 5 [⟨keyA, lisV [⟨#[120]⟩], 0⟩] 5 21 ⟨#[97]⟩ ⟨#[]⟩ ⟨#[]⟩ 0 5 [⟨keyA, lisV [⟨#[120]⟩], 0⟩] 1 0 ⟨#[]⟩ 0 [] 0 0) := by
    have h := ap_life (c := lifeA) (x := lisV [⟨#[120]⟩]) (til := 0) (M := 5) (rL 0 (.inl rfl)) (by omega) (gone_zero _ _ _) rfl
    rw [if_pos rfl] at h
    exact acts_w (acts_of (rL 0 (.inl rfl)) h) rfl rfl
  have A3 : Hid (ActsW 5 [⟨keyA, lisV [⟨#[120]⟩], 0⟩] 5 20 ⟨#[97]⟩ ⟨#[]⟩ ⟨#[]⟩ K 5 [⟨keyA, lisV [⟨#[120]⟩], 5 + K⟩] 1 0 ⟨#[]⟩ 0 [] 0 0) :=
    acts_w (acts_of (rE 0 K (.inl rfl) hk1 hk2) (ap_expire (c := expA K) (x := lisV [⟨#[120]⟩]) (til := 0) (M := 5) (rE 0 K (.inl rfl) hk1 hk2) (by omega) (gone_zero _ _ _) rfl hk1 (by simp only; omega))) rfl rfl
  have A4 : Hid (ActsW 5 [⟨keyA, lisV [⟨#[120]⟩], 5 + K⟩] 5 20 ⟨#[97]⟩ ⟨#[]⟩ ⟨#[]⟩ J 5 [⟨keyA, lisV [⟨#[120]⟩], 5 + J⟩] 1 0 ⟨#[]⟩ 0 [] 0 0) :=
    acts_w (acts_of (rE (5 + K) J (.inr ⟨by omega, by omega⟩) hj1 hj2) (ap_expire (c := expA J) (x := lisV [⟨#[120]⟩]) (til := 5 + K) (M := 5) (rE (5 + K) J (.inr ⟨by omega, by omega⟩) hj1 hj2) (by omega) (gone_late _ _ (by omega)) rfl hj1 (by simp only; omega))) rfl rfl
  have A5 : Hid (ActsW 5 [⟨keyA, lisV [⟨#[120]⟩], 5 + J⟩] 5 21 ⟨#[97]⟩ ⟨#[]⟩ ⟨#[]⟩ 0 5 [⟨keyA, lisV [⟨#[120]⟩], 5 + J⟩] 1 0 ⟨#[]⟩ J [] 0 0) := by
    have h := ap_life (c := lifeA) (x := lisV [⟨#[120]⟩]) (til := 5 + J) (M := 5) (rL (5 + J) (.inr ⟨by omega, by omega⟩)) (by omega) (gone_late _ _ (by omega)) rfl
    rw [if_neg (by omega), show (5 : Int) + J - 5 = J by omega] at h
    exact acts_w (acts_of (rL (5 + J) (.inr ⟨by omega, by omega⟩)) h) rfl rfl
  have A6 : Hid (ActsW 5 [⟨keyA, lisV [⟨#[120]⟩], 5 + J⟩] (4 + J) 22 ⟨#[]⟩ ⟨#[]⟩ ⟨#[]⟩ 0 (4 + J) [⟨keyA, lisV [⟨#[120]⟩], 5 + J⟩] 1 0 ⟨#[]⟩ 0 [keyA] 1 0) := by
    have h := ap_keys (c := keysC) (M := 4 + J) (rK (4 + J) (by omega) (by omega)) (by simp only; omega) rfl
    simp only at h
    rw [kept_one (gone_late _ _ (by omega))] at h
    exact acts_w (acts_of (rK (4 + J) (by omega) (by omega)) h) rfl rfl
  have A7 : Hid (ActsW 5 [⟨keyA, lisV [⟨#[120]⟩], 5 + J⟩] (5 + J) 22 ⟨#[]⟩ ⟨#[]⟩ ⟨#[]⟩ 0 (5 + J) [] 0 0 ⟨#[]⟩ 0 [] 0 0) := by
    have h := ap_keys (c := keysC) (M := 5 + J) (rK (5 + J) (by omega) (by omega)) (by simp only; omega) rfl
    simp only at h
    rw [kept_gone (gone_past _ _ (by omega) (by omega))] at h
    exact acts_w (acts_of (rK (5 + J) (by omega) (by omega)) h) rfl rfl
  clear p0 p1 bn bm o1 oS r1 rL rE rK hv hx
  go_enter Tryz.func9, Tryz.ntmps9
  go_wp2_with fail
  refine (P0.out _).mono ?_
  rintro e w0 ⟨rfl, rfl⟩
  go_wp2_with fail
  refine (P1.out _).mono ?_
  rintro e w0 ⟨rfl, rfl⟩
  go_wp2_with fail
  refine (A1.out _ _ _ _ (StL.nil _ _)).mono ?_
  rintro e w1 ⟨ea1, ec1, la1, lc1, rfl, hs, -, -, hB⟩
  go_upto_region 4 with fail
  have ge_b7 := hB.size
  obtain ⟨n7, n8⟩ := two_new w1 (stoO 5 (.slice ea1 1 ec1)) (repO 0 ⟨#[]⟩ 1 (.slice la1 0 lc1))
  have hbx : Below w1.heap.size w1 ((w1.alloc (stoO 5 (.slice ea1 1 ec1))).alloc (repO 0 ⟨#[]⟩ 1 (.slice la1 0 lc1))) := (balloc _ _).alloc (by simp) _
  replace hs := hs.below hbx
  replace hB := bstep hB hbx
  clear hbx
  generalize (w1.alloc (stoO 5 (.slice ea1 1 ec1))).alloc (repO 0 ⟨#[]⟩ 1 (.slice la1 0 lc1)) = V1 at n7 n8 hs hB ⊢
  generalize w1.heap.size = b7 at n7 n8 ge_b7 ⊢
  clear n8
  obtain ⟨c7, f7⟩ := cellsB n7
  go_wp2_with fail
  clear c7 f7
  refine (A2.out _ _ _ _ hs).mono ?_
  rintro e w2 ⟨ea2, ec2, la2, lc2, rfl, hs2, -, -, hb2⟩
  replace n7 := (hb2.block _ (lt_at n7)).trans n7
  replace hs := hs.below hb2
  replace hB := bstep hB hb2
  clear hb2
  go_upto_region 5 with fail
  have ge_b10 := hB.size
  obtain ⟨n10, n11⟩ := two_new w2 (stoO 5 (.slice ea2 1 ec2)) (repO 0 ⟨#[]⟩ 0 (.slice la2 0 lc2))
  have hbx : Below w2.heap.size w2 ((w2.alloc (stoO 5 (.slice ea2 1 ec2))).alloc (repO 0 ⟨#[]⟩ 0 (.slice la2 0 lc2))) := (balloc _ _).alloc (by simp) _
  replace n7 := (hbx.block _ (lt_at n7)).trans n7
  replace hs := hs.below hbx
  replace hs2 := hs2.below hbx
  replace hB := bstep hB hbx
  clear hbx
  generalize (w2.alloc (stoO 5 (.slice ea2 1 ec2))).alloc (repO 0 ⟨#[]⟩ 0 (.slice la2 0 lc2)) = V2 at n10 n11 n7 hs hs2 hB ⊢
  generalize w2.heap.size = b10 at n10 n11 ge_b10 ⊢
  clear n10 hs2
  obtain ⟨c7, f7⟩ := cellsB n7
  go_wp2_with fail
  clear c7 f7
  refine (A3.out _ _ _ _ hs).mono ?_
  rintro e w3 ⟨ea3, ec3, la3, lc3, rfl, -, hs2, -, hb3⟩
  have lt7 := lt_at n7
  replace n7 := (hb3.block _ (lt_at n7)).trans n7
  replace n11 := (hb3.block _ (lt_at n11)).trans n11
  replace hB := bstep hB hb3
  clear hb3
  obtain ⟨c7, f7⟩ := cellsB n7
  have l7 := lt_at n7
  obtain ⟨q1, q2, q3, q4, q5⟩ := restored n7 hs2 lt7 hB ge_b7
  replace n11 := (q5 _ (other_box n11 n7 (by decide))).trans n11
  have HQ : Hid _ := And.intro q1 (And.intro q2 (And.intro q3 q4))
  have Hn11 := hideE n11
  clear q1 q2 q3 q4 q5 hs hs2 n7 hB lt7 n11
  go_upto_region 6 with fail
  obtain ⟨n7, hs, hB, hz⟩ := HQ.out
  have n11 := Hn11.out
  clear HQ c7 f7 l7 Hn11
  generalize (w3.setCell ⟨b7, 0, none⟩ (.int .i64 5)).setCell ⟨b7, 1, none⟩ (.slice ea3 1 ec3) = Z3 at n7 hs hB hz n11 ⊢
  rw [← hz]
  clear hz
  have ge_b13 := hB.size
  have nb13 := alloc_at Z3 (repO 0 ⟨#[]⟩ 0 (.slice la3 0 lc3))
  have hbx := balloc Z3 (repO 0 ⟨#[]⟩ 0 (.slice la3 0 lc3))
  replace n7 := (hbx.block _ (lt_at n7)).trans n7
  replace n11 := (hbx.block _ (lt_at n11)).trans n11
  replace hs := hs.below hbx
  replace hB := hB.alloc hB.size (repO 0 ⟨#[]⟩ 0 (.slice la3 0 lc3))
  clear hbx
  generalize Z3.alloc (repO 0 ⟨#[]⟩ 0 (.slice la3 0 lc3)) = V3 at nb13 n7 n11 hs hB ⊢
  generalize Z3.heap.size = b13 at nb13 ge_b13 ⊢
  clear nb13
  obtain ⟨c7, f7⟩ := cellsB n7
  go_wp2_with fail
  clear c7 f7
  refine (A4.out _ _ _ _ hs).mono ?_
  rintro e w4 ⟨ea4, ec4, la4, lc4, rfl, -, hs2, -, hb4⟩
  have lt7 := lt_at n7
  replace n7 := (hb4.block _ (lt_at n7)).trans n7
  replace n11 := (hb4.block _ (lt_at n11)).trans n11
  replace hB := bstep hB hb4
  clear hb4
  obtain ⟨c7, f7⟩ := cellsB n7
  have l7 := lt_at n7
  obtain ⟨q1, q2, q3, q4, q5⟩ := restored n7 hs2 lt7 hB ge_b7
  replace n11 := (q5 _ (other_box n11 n7 (by decide))).trans n11
  have HQ : Hid _ := And.intro q1 (And.intro q2 (And.intro q3 q4))
  have Hn11 := hideE n11
  clear q1 q2 q3 q4 q5 hs hs2 n7 hB lt7 n11
  go_upto_region 7 with fail
  obtain ⟨n7, hs, hB, hz⟩ := HQ.out
  have n11 := Hn11.out
  clear HQ c7 f7 l7 Hn11
  generalize (w4.setCell ⟨b7, 0, none⟩ (.int .i64 5)).setCell ⟨b7, 1, none⟩ (.slice ea4 1 ec4) = Z4 at n7 hs hB hz n11 ⊢
  rw [← hz]
  clear hz
  have ge_b15 := hB.size
  have nb15 := alloc_at Z4 (repO 0 ⟨#[]⟩ 0 (.slice la4 0 lc4))
  have hbx := balloc Z4 (repO 0 ⟨#[]⟩ 0 (.slice la4 0 lc4))
  replace n7 := (hbx.block _ (lt_at n7)).trans n7
  replace n11 := (hbx.block _ (lt_at n11)).trans n11
  replace hs := hs.below hbx
  replace hB := hB.alloc hB.size (repO 0 ⟨#[]⟩ 0 (.slice la4 0 lc4))
  clear hbx
  generalize Z4.alloc (repO 0 ⟨#[]⟩ 0 (.slice la4 0 lc4)) = V4 at nb15 n7 n11 hs hB ⊢
  generalize Z4.heap.size = b15 at nb15 ge_b15 ⊢
  clear nb15
  obtain ⟨c7, f7⟩ := cellsB n7
  go_wp2_with fail
  clear c7 f7
  refine (A5.out _ _ _ _ hs).mono ?_
  rintro e w5 ⟨ea5, ec5, la5, lc5, rfl, hs5, -, -, hb5⟩
  replace n7 := (hb5.block _ (lt_at n7)).trans n7
  replace n11 := (hb5.block _ (lt_at n11)).trans n11
  replace hs := hs.below hb5
  replace hB := bstep hB hb5
  clear hb5
  go_upto_region 8 with fail
  have ge_b17 := hB.size
  obtain ⟨n17, n18⟩ := two_new w5 (stoO 5 (.slice ea5 1 ec5)) (repO 0 ⟨#[]⟩ J (.slice la5 0 lc5))
  have hbx : Below w5.heap.size w5 ((w5.alloc (stoO 5 (.slice ea5 1 ec5))).alloc (repO 0 ⟨#[]⟩ J (.slice la5 0 lc5))) := (balloc _ _).alloc (by simp) _
  replace n7 := (hbx.block _ (lt_at n7)).trans n7
  replace n11 := (hbx.block _ (lt_at n11)).trans n11
  replace hs := hs.below hbx
  replace hs5 := hs5.below hbx
  replace hB := bstep hB hbx
  clear hbx
  generalize (w5.alloc (stoO 5 (.slice ea5 1 ec5))).alloc (repO 0 ⟨#[]⟩ J (.slice la5 0 lc5)) = V5 at n17 n18 n7 n11 hs hs5 hB ⊢
  generalize w5.heap.size = b17 at n17 n18 ge_b17 ⊢
  clear n17 hs5
  obtain ⟨c7, f7⟩ := cellsB n7
  go_wp2_with fail
  clear c7 f7
  refine (A6.out _ _ _ _ hs).mono ?_
  rintro e w6 ⟨ea6, ec6, la6, lc6, rfl, hs6, -, -, hb6⟩
  replace n7 := (hb6.block _ (lt_at n7)).trans n7
  replace n11 := (hb6.block _ (lt_at n11)).trans n11
  replace n18 := (hb6.block _ (lt_at n18)).trans n18
  replace hs := hs.below hb6
  replace hB := bstep hB hb6
  clear hb6
  go_upto_region 9 with fail
  have ge_b20 := hB.size
  obtain ⟨n20, n21⟩ := two_new w6 (stoO (4 + J) (.slice ea6 1 ec6)) (repO 0 ⟨#[]⟩ 0 (.slice la6 1 lc6))
  have hbx : Below w6.heap.size w6 ((w6.alloc (stoO (4 + J) (.slice ea6 1 ec6))).alloc (repO 0 ⟨#[]⟩ 0 (.slice la6 1 lc6))) := (balloc _ _).alloc (by simp) _
  replace n7 := (hbx.block _ (lt_at n7)).trans n7
  replace n11 := (hbx.block _ (lt_at n11)).trans n11
  replace n18 := (hbx.block _ (lt_at n18)).trans n18
  replace hs := hs.below hbx
  replace hs6 := hs6.below hbx
  replace hB := bstep hB hbx
  clear hbx
  generalize (w6.alloc (stoO (4 + J) (.slice ea6 1 ec6))).alloc (repO 0 ⟨#[]⟩ 0 (.slice la6 1 lc6)) = V6 at n20 n21 n7 n11 n18 hs hs6 hB ⊢
  generalize w6.heap.size = b20 at n20 n21 ge_b20 ⊢
  clear n21 hs6
  obtain ⟨c7, f7⟩ := cellsB n7
  go_wp2_with fail
  clear c7 f7
  refine (A7.out _ _ _ _ hs).mono ?_
  rintro e w7 ⟨ea7, ec7, la7, lc7, rfl, hs7, -, -, hb7⟩
  replace n7 := (hb7.block _ (lt_at n7)).trans n7
  replace n11 := (hb7.block _ (lt_at n11)).trans n11
  replace n18 := (hb7.block _ (lt_at n18)).trans n18
  replace n20 := (hb7.block _ (lt_at n20)).trans n20
  replace hs := hs.below hb7
  replace hB := bstep hB hb7
  clear hb7
  go_upto_region 10 with fail
  have ge_b23 := hB.size
  obtain ⟨n23, n24⟩ := two_new w7 (stoO (5 + J) (.slice ea7 0 ec7)) (repO 0 ⟨#[]⟩ 0 (.slice la7 0 lc7))
  have hbx : Below w7.heap.size w7 ((w7.alloc (stoO (5 + J) (.slice ea7 0 ec7))).alloc (repO 0 ⟨#[]⟩ 0 (.slice la7 0 lc7))) := (balloc _ _).alloc (by simp) _
  replace n7 := (hbx.block _ (lt_at n7)).trans n7
  replace n11 := (hbx.block _ (lt_at n11)).trans n11
  replace n18 := (hbx.block _ (lt_at n18)).trans n18
  replace n20 := (hbx.block _ (lt_at n20)).trans n20
  replace hs := hs.below hbx
  replace hs7 := hs7.below hbx
  replace hB := bstep hB hbx
  clear hbx
  generalize (w7.alloc (stoO (5 + J) (.slice ea7 0 ec7))).alloc (repO 0 ⟨#[]⟩ 0 (.slice la7 0 lc7)) = V7 at n23 n24 n7 n11 n18 n20 hs hs7 hB ⊢
  generalize w7.heap.size = b23 at n23 n24 ge_b23 ⊢
  clear n24 hs7
  obtain ⟨c11, f11⟩ := cellsB n11
  obtain ⟨c18, f18⟩ := cellsB n18
  obtain ⟨c20, f20⟩ := cellsB n20
  obtain ⟨c23, f23⟩ := cellsB n23
  have HB := hideE hB
  clear n7 n11 n18 n20 n23 hs hB
  go_wp2_with fail
  go_ret
  exact ⟨rfl, HB.out⟩

theorem walk (v0 v1 : Value) (w : World) (h0 : IsInt v0) (h1 : IsInt v1) :
    Calls Tryz.prog 9 #[v0, v1] w fun e w' => e = .returned (.bool true) ∧ Below w.heap.size w w' := by
  obtain ⟨k, rfl, c1, c2⟩ := h0
  obtain ⟨j, rfl, d1, d2⟩ := h1
  exact walk0 k j w ⟨c1, c2⟩ ⟨d1, d2⟩

theorem own : ownKnob Tryz.prog.godebug = none := by kernel_rfl
theorem laidOut : laidOutB Tryz.prog = true := by kernel_rfl

set_option maxRecDepth 100000 in
theorem lifted (os : Os) (started : os.Started) (H : Type) (enc : TypeId × Value → H) :
    ReturnsInHanded {} Tryz.checked os 9 .any (Rows.expireAgainSpec.pre6 enc Tryz.prog Tryz.f9 Rows.expireAgainRow.domain false) (Rows.expireAgainSpec.post enc Tryz.prog Tryz.f9 false true false false) := by
  refine returnsInHanded_of_change (C := Tryz.checked) own started (by kernel_rfl) Tryz.func9
    (ChangeSpec.witness6 (enc := enc) (C := Tryz.checked) false ⟨#[], #[.int .i64 0, .int .i64 0], []⟩ 8 (by kernel_rfl) (by kernel_rfl) (by kernel_rfl) (by kernel_rfl)) ?_
  intro W base args ds gs before hval0 hW hcnd _
  have hval : ∀ (j : Nat) t v, Tryz.f9.params[j]? = some t → args[j]? = some v → Value.okWide Tryz.prog W .any base t v := hval0
  have hW' := hW
  obtain ⟨p, q, hA0, hV, rfl, hfz, hnd⟩ := hW
  have hA : DataW.TrodAll enc Tryz.prog W 0 (fun _ => true) true Tryz.f9.params.toList args.toList ds p := hA0
  rw [Tryz.params9] at hA hval
  obtain ⟨v0, vs0, d0, ds0, p0, q0, hargs, rfl, rfl, h0, r0⟩ := trodAll_cons hA
  obtain ⟨v1, vs1, d1, ds1, p1, q1, rfl, rfl, rfl, h1, r1⟩ := trodAll_cons r0
  obtain ⟨rfl, rfl, rfl⟩ := trodAll_nil r1
  obtain rfl : args = #[v0, v1] := by cases args; simp_all
  obtain ⟨rfl, rfl⟩ := trodVars_none hV
  have lt0 : ∀ x ∈ p0, x.block < W.heap.size := by obtain ⟨m, hm⟩ := h0; exact DataW.trod_lt m _ _ _ hm
  have g0 := shape_int (hval 0 3 v0 rfl rfl) h0
  have lt1 : ∀ x ∈ p1, x.block < W.heap.size := by obtain ⟨m, hm⟩ := h1; exact DataW.trod_lt m _ _ _ hm
  have g1 := shape_int (hval 1 3 v1 rfl rfl) h1
  clear hA0 hval0
  refine (walk v0 v1 W g0 g1).mono fun e W' ⟨he, bel⟩ => ?_
  subst he
  exact ⟨_, rfl, _, _, _, [], _, [], hW', trodAll_mk1 (shut_bool Tryz.underlying4 _), (trodAll_cons_mk (Below.trod laidOut (by kernel_rfl) (of_decide_eq_true (by kernel_rfl)) h0 bel lt0) (trodAll_cons_mk (Below.trod laidOut (by kernel_rfl) (of_decide_eq_true (by kernel_rfl)) h1 bel lt1) trodAll_mk0)), rfl, bel.frame _, fun h => by cases h⟩

theorem over : Rows.expireAgainRow.holds Tryz.pinned (OpenSpec.ofChange Rows.expireAgainSpec) :=
  OpenClaim.holds_of_wide 9 Tryz.f9 rfl rfl rfl rfl rfl rfl rfl ⟨rfl, rfl, rfl, rfl, rfl⟩ rfl rfl rfl rfl rfl (by kernel_rfl) Tryz.func9 (by kernel_rfl)
    (of_decide_eq_true (by kernel_rfl)) (by unfold Func.isWrapper; first | (rw [if_pos (by decide +kernel)]; kernel_rfl) | (rw [if_neg (by decide +kernel)]; exact ⟨rfl, rfl⟩))
    (fun os started H enc _ => lifted os started H enc)

end Go.Proofs.YtfnephnecighaaaGreat.expireAgainDone
namespace Go.Proofs.YtfnephnecighaaaGreat
theorem ExpireAgain_holds : Rows.ExpireAgainSaid := expireAgainDone.over
end Go.Proofs.YtfnephnecighaaaGreat
