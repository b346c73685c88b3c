/- What is put anew stays for ever; what is changed runs out all the same: for every number and either choice the law returns true. No condition. -/
import Derived.Test.YtfnephnecighaaaGreatSmJ
import Derived.Test.YtfnephnecighaaaGreatOpJ
import Derived.Test.YtfnephnecighaaaGreatCaJ
namespace Go.Proofs.YtfnephnecighaaaGreat.putStaysDone
open Go.ChangeShapes Go.WideShapes Go.ChangeAt Go.RowKit
open Go.Proofs.YtfnephnecighaaaGreat
set_option linter.unusedVariables false
set_option maxRecDepth 100000

set_option maxHeartbeats 4000000 in
theorem walk_false (n : Int) (w : World) (bn : -9223372036854775808 ≤ n ∧ n ≤ 9223372036854775807) :
    Calls Tryz.prog 6 #[.int .i64 n, .bool false] w fun e w' => e = .returned (.bool true) ∧ Below w.heap.size w w' := by
  have p0 := fun W => picked_any n 90 W bn.1 bn.2 (by omega) (by omega)
  have l0 := pickedN_lt n (show 0 < 90 by omega)
  generalize pickedN n 90 = k0 at p0 l0
  have P0 : Hid (∀ W, Calls Tryz.prog 21 #[.int .i64 n, .int .i64 90] W fun e w' => e = .returned (.int .i64 (k0 : Nat)) ∧ W = w') := p0
  obtain ⟨K, hK⟩ : ∃ K : Int, 1 + (k0 : Int) = K := ⟨_, rfl⟩
  have hk1 : 1 ≤ K := by omega
  have hk2 : K ≤ 90 := by omega
  have hw : IntKind.i64.wrap (1 + (k0 : Int)) = K := by rw [IntKind.wrap_i64]; omega
  have o1 := sto_nil (now := 0) (by omega) (by omega)
  have o2 : OkSto ⟨0, [⟨keyA, cntV 1, 0⟩]⟩ := sto_keyA (by omega) (by omega) (ok_count count1) (.inl rfl)
  have o3 : OkSto ⟨0, [⟨keyA, cntV 1, K⟩]⟩ := sto_keyA (by omega) (by omega) (ok_count count1) (.inr ⟨by omega, by omega⟩)
  have o4 : OkSto ⟨0, [⟨keyA, cntV 2, K⟩]⟩ := sto_keyA (by omega) (by omega) (by first | exact ok_count count2 | exact ok_text (by decide)) (by first | exact .inl rfl | exact .inr ⟨by omega, by omega⟩)
  have r1 : refS ⟨0, []⟩ 0 (addA 1) = 0 := refS_ok.2 ⟨o1, by omega, fault_addA count1⟩
  have r2 : refS ⟨0, [⟨keyA, cntV 1, 0⟩]⟩ 0 (expA K) = 0 := refS_ok.2 ⟨o2, by omega, fault_expA (countK hk1 hk2)⟩
  have r3 : refS ⟨0, [⟨keyA, cntV 1, K⟩]⟩ 0 ⟨3, keyA, ⟨#[]⟩, ⟨#[]⟩, 1⟩ = 0 := refS_ok.2 ⟨o3, by omega, by first | exact fault_addA count1 | exact fault_putA (by decide)⟩
  have r4 : refS ⟨0, [⟨keyA, cntV 2, K⟩]⟩ K keysC = 0 := refS_ok.2 ⟨o4, ⟨by omega, by omega⟩, fault_keysC⟩
  have A1 : Hid (ActsW 0 [] 0 3 ⟨#[97]⟩ ⟨#[]⟩ ⟨#[]⟩ 1 0 [⟨keyA, cntV 1, 0⟩] 1 0 ⟨#[]⟩ 1 [] 0 0) := acts_w (acts_of r1 (ap_new (c := addA 1) (y := cntV 1) (r := { n := 1 }) r1 (by omega) rfl (do_addA_new count1).1 (do_addA_new count1).2 rfl (by decide))) rfl rfl
  have A2 : Hid (ActsW 0 [⟨keyA, cntV 1, 0⟩] 0 20 ⟨#[97]⟩ ⟨#[]⟩ ⟨#[]⟩ K 0 [⟨keyA, cntV 1, K⟩] 1 0 ⟨#[]⟩ 0 [] 0 0) := by
    have h := ap_expire (c := expA K) (x := cntV 1) (til := 0) (M := 0) r2 (by omega) (gone_zero _ _ _) rfl hk1 (by simp only; omega)
    rw [show (0 : Int) + (expA K).n = K by simp] at h
    exact acts_w (acts_of r2 h) rfl rfl
  have A3 : Hid (ActsW 0 [⟨keyA, cntV 1, K⟩] 0 3 ⟨#[97]⟩ ⟨#[]⟩ ⟨#[]⟩ 1 0 [⟨keyA, cntV 2, K⟩] 1 0 ⟨#[]⟩ 2 [] 0 0) := by
    have h := ap_old (c := ⟨3, keyA, ⟨#[]⟩, ⟨#[]⟩, 1⟩) (x := cntV 1) (y := cntV 2) (r := { n := 2 }) (til := K) (M := 0) r3 (by omega) (gone_late _ _ (by omega)) rfl (by first | exact (do_addA_old count1 count1 count2).1 | exact (do_putA (ok_count count1) (by decide)).1) (by first | exact (do_addA_old count1 count1 count2).2 | exact (do_putA (ok_count count1) (by decide)).2) rfl (by decide)
    rw [show tilK ⟨3, keyA, ⟨#[]⟩, ⟨#[]⟩, 1⟩ K = K by simp [tilK]] at h
    exact acts_w (acts_of r3 h) rfl rfl
  have hkept : keptK K [⟨keyA, cntV 2, K⟩] = [] := by
    first
      | exact kept_one (gone_zero _ _ _)
      | exact kept_gone (gone_past _ _ (by omega) (by omega))
  have A4 : Hid (ActsW 0 [⟨keyA, cntV 2, K⟩] K 22 ⟨#[]⟩ ⟨#[]⟩ ⟨#[]⟩ 0 K [] 0 0 ⟨#[]⟩ 0 [] 0 0) := by
    have h := ap_keys (c := keysC) (M := K) r4 (by simp only; omega) rfl
    simp only at h
    rw [hkept] at h
    exact acts_w (acts_of r4 h) rfl rfl
  have HTH : Hid (thereB ⟨#[97]⟩ [] = false) := by
    show thereB _ _ = _
    first | rfl | simp [thereB, isKey]
  clear p0 bn o1 o2 o3 o4 r1 r2 r3 r4 hkept
  go_enter Tryz.func6, Tryz.ntmps6
  go_wp2_with fail
  refine (P0.out _).mono ?_
  rintro e w0 ⟨rfl, rfl⟩
  go_wp2_with fail
  refine (A1.out _ _ _ _ (StL.nil _ _)).mono ?_
  rintro e w1 ⟨ea1, ec1, la1, lc1, rfl, hs, -, -, hB⟩
  go_wp2_with fail
  have ge_b6 := hB.size
  obtain ⟨n6, n7⟩ := two_new w1 (stoO 0 (.slice ea1 1 ec1)) (repO 0 ⟨#[]⟩ 1 (.slice la1 0 lc1))
  have hbx : Below w1.heap.size w1 ((w1.alloc (stoO 0 (.slice ea1 1 ec1))).alloc (repO 0 ⟨#[]⟩ 1 (.slice la1 0 lc1))) := (balloc _ _).alloc (by simp) _
  replace hs := hs.below hbx
  replace hB := bstep hB hbx
  clear hbx
  generalize (w1.alloc (stoO 0 (.slice ea1 1 ec1))).alloc (repO 0 ⟨#[]⟩ 1 (.slice la1 0 lc1)) = V1 at n6 n7 hs hB ⊢
  generalize w1.heap.size = b6 at n6 n7 ge_b6 ⊢
  refine (A2.out _ _ _ _ hs).mono ?_
  rintro e w2 ⟨ea2, ec2, la2, lc2, rfl, -, hs2, -, hb2⟩
  have lt6 := lt_at n6
  replace n6 := (hb2.block _ (lt_at n6)).trans n6
  replace hB := bstep hB hb2
  clear hb2
  obtain ⟨c6, f6⟩ := cellsB n6
  have l6 := lt_at n6
  obtain ⟨q1, q2, q3, q4, -⟩ := restored n6 hs2 lt6 hB ge_b6
  have HQ : Hid _ := And.intro q1 (And.intro q2 (And.intro q3 q4))
  clear q1 q2 q3 q4 hs hs2 n6 hB lt6 n7
  go_upto_region 7 with fail
  obtain ⟨n6, hs, hB, hz⟩ := HQ.out
  clear HQ c6 f6 l6
  generalize (w2.setCell ⟨b6, 0, none⟩ (.int .i64 0)).setCell ⟨b6, 1, none⟩ (.slice ea2 1 ec2) = Z2 at n6 hs hB hz ⊢
  rw [← hz]
  clear hz
  have ge_b9 := hB.size
  obtain ⟨n9, n11⟩ := two_new Z2 (repO 0 ⟨#[]⟩ 0 (.slice la2 0 lc2)) (.cells #[.int .i64 3, .string ⟨#[97]⟩, .string ⟨#[]⟩, .string ⟨#[]⟩, .int .i64 1] 28)
  have hbx : Below Z2.heap.size Z2 ((Z2.alloc (repO 0 ⟨#[]⟩ 0 (.slice la2 0 lc2))).alloc (.cells #[.int .i64 3, .string ⟨#[97]⟩, .string ⟨#[]⟩, .string ⟨#[]⟩, .int .i64 1] 28)) := (balloc _ _).alloc (by simp) _
  replace n6 := (hbx.block _ (lt_at n6)).trans n6
  replace hs := hs.below hbx
  replace hB := bstep hB hbx
  clear hbx
  generalize (Z2.alloc (repO 0 ⟨#[]⟩ 0 (.slice la2 0 lc2))).alloc (.cells #[.int .i64 3, .string ⟨#[97]⟩, .string ⟨#[]⟩, .string ⟨#[]⟩, .int .i64 1] 28) = V2 at n9 n11 n6 hs hB ⊢
  generalize Z2.heap.size = b9 at n9 n11 ge_b9 ⊢
  obtain ⟨c6, f6⟩ := cellsB n6
  obtain ⟨c11, f11⟩ := cellsB n11
  go_wp2_with fail
  clear c6 f6 c11 f11
  refine (A3.out _ _ _ _ hs).mono ?_
  rintro e w3 ⟨ea3, ec3, la3, lc3, rfl, -, hs2, -, hb3⟩
  have lt6 := lt_at n6
  replace n6 := (hb3.block _ (lt_at n6)).trans n6
  replace hB := bstep hB hb3
  clear hb3
  obtain ⟨c6, f6⟩ := cellsB n6
  have l6 := lt_at n6
  obtain ⟨q1, q2, q3, q4, -⟩ := restored n6 hs2 lt6 hB ge_b6
  have HQ : Hid _ := And.intro q1 (And.intro q2 (And.intro q3 q4))
  clear q1 q2 q3 q4 hs hs2 n6 hB lt6 n9 n11
  go_upto_region 8 with fail
  obtain ⟨n6, hs, hB, hz⟩ := HQ.out
  clear HQ c6 f6 l6
  generalize (w3.setCell ⟨b6, 0, none⟩ (.int .i64 0)).setCell ⟨b6, 1, none⟩ (.slice ea3 1 ec3) = Z3 at n6 hs hB hz ⊢
  rw [← hz]
  clear hz
  have ge_b12 := hB.size
  have n12 := alloc_at Z3 (repO 0 ⟨#[]⟩ 2 (.slice la3 0 lc3))
  have hbx := balloc Z3 (repO 0 ⟨#[]⟩ 2 (.slice la3 0 lc3))
  replace n6 := (hbx.block _ (lt_at n6)).trans n6
  replace hs := hs.below hbx
  replace hB := hB.alloc hB.size (repO 0 ⟨#[]⟩ 2 (.slice la3 0 lc3))
  clear hbx
  generalize Z3.alloc (repO 0 ⟨#[]⟩ 2 (.slice la3 0 lc3)) = V3 at n12 n6 hs hB ⊢
  generalize Z3.heap.size = b12 at n12 ge_b12 ⊢
  obtain ⟨c6, f6⟩ := cellsB n6
  go_wp2_with fail
  clear c6 f6 n12
  refine (A4.out _ _ _ _ hs).mono ?_
  rintro e w4 ⟨ea4, ec4, la4, lc4, rfl, hs4, -, -, hb4⟩
  clear hs
  replace n6 := (hb4.block _ (lt_at n6)).trans n6
  replace hB := bstep hB hb4
  clear hb4
  have l6 := lt_at n6
  go_upto_region 9 with fail
  have ge_b14 := hB.size
  obtain ⟨n14, n15⟩ := two_new w4 (stoO K (.slice ea4 0 ec4)) (repO 0 ⟨#[]⟩ 0 (.slice la4 0 lc4))
  have hbx : Below w4.heap.size w4 ((w4.alloc (stoO K (.slice ea4 0 ec4))).alloc (repO 0 ⟨#[]⟩ 0 (.slice la4 0 lc4))) := (balloc _ _).alloc (by simp) _
  replace n6 := (hbx.block _ (lt_at n6)).trans n6
  replace hs4 := hs4.below hbx
  replace hB := bstep hB hbx
  clear hbx
  generalize (w4.alloc (stoO K (.slice ea4 0 ec4))).alloc (repO 0 ⟨#[]⟩ 0 (.slice la4 0 lc4)) = V4 at n14 n15 n6 hs4 hB ⊢
  generalize w4.heap.size = b14 at n14 n15 ge_b14 ⊢
  obtain ⟨c14, f14⟩ := cellsB n14
  have hen := entry_w ⟨#[97]⟩ hs4
  rw [HTH.out] at hen
  generalize findE ⟨#[97]⟩ [] = fe at hen
  obtain ⟨fk, ⟨f1, f2, f3, fp, fi, fs⟩, ft⟩ := fe
  simp only at hen
  have HEN : Hid (Calls Tryz.prog 24 #[stoV K (.slice ea4 0 ec4), .string ⟨#[97]⟩] V4 fun e w' => ∃ ps is ss, e = .returned (.tuple #[entV fk f1 f2 f3 ps is ss ft, .bool false]) ∧ Lists w' ps is ss ⟨f1, f2, f3, fp, fi, fs⟩ ∧ Below V4.heap.size V4 w') := hen
  clear hen l6
  go_wp2_with fail
  clear c14 f14
  refine HEN.out.mono ?_
  rintro e w5 ⟨ps, is, ss, rfl, hl5, hb5⟩
  obtain ⟨pa, pc, ia, ic, sa, sc, rfl, rfl, rfl, -⟩ := hl5.lens
  replace n6 := (hb5.block _ (lt_at n6)).trans n6
  replace hB := bstep hB hb5
  clear hb5
  obtain ⟨c6, f6⟩ := cellsB n6
  have l6 := lt_at n6
  have HB5 := hideE hB
  clear hl5 hB n6 n14 n15 HEN
  go_wp2_with fail
  go_ret
  exact ⟨rfl, HB5.out.alloc HB5.out.size _⟩
set_option maxHeartbeats 4000000 in
theorem walk_true (n : Int) (w : World) (bn : -9223372036854775808 ≤ n ∧ n ≤ 9223372036854775807) :
    Calls Tryz.prog 6 #[.int .i64 n, .bool true] w fun e w' => e = .returned (.bool true) ∧ Below w.heap.size w w' := by
  have p0 := fun W => picked_any n 90 W bn.1 bn.2 (by omega) (by omega)
  have l0 := pickedN_lt n (show 0 < 90 by omega)
  generalize pickedN n 90 = k0 at p0 l0
  have P0 : Hid (∀ W, Calls Tryz.prog 21 #[.int .i64 n, .int .i64 90] W fun e w' => e = .returned (.int .i64 (k0 : Nat)) ∧ W = w') := p0
  obtain ⟨K, hK⟩ : ∃ K : Int, 1 + (k0 : Int) = K := ⟨_, rfl⟩
  have hk1 : 1 ≤ K := by omega
  have hk2 : K ≤ 90 := by omega
  have hw : IntKind.i64.wrap (1 + (k0 : Int)) = K := by rw [IntKind.wrap_i64]; omega
  have o1 := sto_nil (now := 0) (by omega) (by omega)
  have o2 : OkSto ⟨0, [⟨keyA, cntV 1, 0⟩]⟩ := sto_keyA (by omega) (by omega) (ok_count count1) (.inl rfl)
  have o3 : OkSto ⟨0, [⟨keyA, cntV 1, K⟩]⟩ := sto_keyA (by omega) (by omega) (ok_count count1) (.inr ⟨by omega, by omega⟩)
  have o4 : OkSto ⟨0, [⟨keyA, txtV ⟨#[]⟩, 0⟩]⟩ := sto_keyA (by omega) (by omega) (by first | exact ok_count count2 | exact ok_text (by decide)) (by first | exact .inl rfl | exact .inr ⟨by omega, by omega⟩)
  have r1 : refS ⟨0, []⟩ 0 (addA 1) = 0 := refS_ok.2 ⟨o1, by omega, fault_addA count1⟩
  have r2 : refS ⟨0, [⟨keyA, cntV 1, 0⟩]⟩ 0 (expA K) = 0 := refS_ok.2 ⟨o2, by omega, fault_expA (countK hk1 hk2)⟩
  have r3 : refS ⟨0, [⟨keyA, cntV 1, K⟩]⟩ 0 ⟨1, keyA, ⟨#[]⟩, ⟨#[]⟩, 0⟩ = 0 := refS_ok.2 ⟨o3, by omega, by first | exact fault_addA count1 | exact fault_putA (by decide)⟩
  have r4 : refS ⟨0, [⟨keyA, txtV ⟨#[]⟩, 0⟩]⟩ K keysC = 0 := refS_ok.2 ⟨o4, ⟨by omega, by omega⟩, fault_keysC⟩
  have A1 : Hid (ActsW 0 [] 0 3 ⟨#[97]⟩ ⟨#[]⟩ ⟨#[]⟩ 1 0 [⟨keyA, cntV 1, 0⟩] 1 0 ⟨#[]⟩ 1 [] 0 0) := acts_w (acts_of r1 (ap_new (c := addA 1) (y := cntV 1) (r := { n := 1 }) r1 (by omega) rfl (do_addA_new count1).1 (do_addA_new count1).2 rfl (by decide))) rfl rfl
  have A2 : Hid (ActsW 0 [⟨keyA, cntV 1, 0⟩] 0 20 ⟨#[97]⟩ ⟨#[]⟩ ⟨#[]⟩ K 0 [⟨keyA, cntV 1, K⟩] 1 0 ⟨#[]⟩ 0 [] 0 0) := by
    have h := ap_expire (c := expA K) (x := cntV 1) (til := 0) (M := 0) r2 (by omega) (gone_zero _ _ _) rfl hk1 (by simp only; omega)
    rw [show (0 : Int) + (expA K).n = K by simp] at h
    exact acts_w (acts_of r2 h) rfl rfl
  have A3 : Hid (ActsW 0 [⟨keyA, cntV 1, K⟩] 0 1 ⟨#[97]⟩ ⟨#[]⟩ ⟨#[]⟩ 0 0 [⟨keyA, txtV ⟨#[]⟩, 0⟩] 1 0 ⟨#[]⟩ 0 [] 0 0) := by
    have h := ap_old (c := ⟨1, keyA, ⟨#[]⟩, ⟨#[]⟩, 0⟩) (x := cntV 1) (y := txtV ⟨#[]⟩) (r := { n := 0 }) (til := K) (M := 0) r3 (by omega) (gone_late _ _ (by omega)) rfl (by first | exact (do_addA_old count1 count1 count2).1 | exact (do_putA (ok_count count1) (by decide)).1) (by first | exact (do_addA_old count1 count1 count2).2 | exact (do_putA (ok_count count1) (by decide)).2) rfl (by decide)
    rw [show tilK ⟨1, keyA, ⟨#[]⟩, ⟨#[]⟩, 0⟩ K = 0 by simp [tilK]] at h
    exact acts_w (acts_of r3 h) rfl rfl
  have hkept : keptK K [⟨keyA, txtV ⟨#[]⟩, 0⟩] = [⟨keyA, txtV ⟨#[]⟩, 0⟩] := by
    first
      | exact kept_one (gone_zero _ _ _)
      | exact kept_gone (gone_past _ _ (by omega) (by omega))
  have A4 : Hid (ActsW 0 [⟨keyA, txtV ⟨#[]⟩, 0⟩] K 22 ⟨#[]⟩ ⟨#[]⟩ ⟨#[]⟩ 0 K [⟨keyA, txtV ⟨#[]⟩, 0⟩] 1 0 ⟨#[]⟩ 0 [keyA] 1 0) := by
    have h := ap_keys (c := keysC) (M := K) r4 (by simp only; omega) rfl
    simp only at h
    rw [hkept] at h
    exact acts_w (acts_of r4 h) rfl rfl
  have HTH : Hid (thereB ⟨#[97]⟩ [⟨keyA, txtV ⟨#[]⟩, 0⟩] = true) := by
    show thereB _ _ = _
    first | rfl | simp [thereB, isKey]
  clear p0 bn o1 o2 o3 o4 r1 r2 r3 r4 hkept
  go_enter Tryz.func6, Tryz.ntmps6
  go_wp2_with fail
  refine (P0.out _).mono ?_
  rintro e w0 ⟨rfl, rfl⟩
  go_wp2_with fail
  refine (A1.out _ _ _ _ (StL.nil _ _)).mono ?_
  rintro e w1 ⟨ea1, ec1, la1, lc1, rfl, hs, -, -, hB⟩
  go_wp2_with fail
  have ge_b6 := hB.size
  obtain ⟨n6, n7⟩ := two_new w1 (stoO 0 (.slice ea1 1 ec1)) (repO 0 ⟨#[]⟩ 1 (.slice la1 0 lc1))
  have hbx : Below w1.heap.size w1 ((w1.alloc (stoO 0 (.slice ea1 1 ec1))).alloc (repO 0 ⟨#[]⟩ 1 (.slice la1 0 lc1))) := (balloc _ _).alloc (by simp) _
  replace hs := hs.below hbx
  replace hB := bstep hB hbx
  clear hbx
  generalize (w1.alloc (stoO 0 (.slice ea1 1 ec1))).alloc (repO 0 ⟨#[]⟩ 1 (.slice la1 0 lc1)) = V1 at n6 n7 hs hB ⊢
  generalize w1.heap.size = b6 at n6 n7 ge_b6 ⊢
  refine (A2.out _ _ _ _ hs).mono ?_
  rintro e w2 ⟨ea2, ec2, la2, lc2, rfl, -, hs2, -, hb2⟩
  have lt6 := lt_at n6
  replace n6 := (hb2.block _ (lt_at n6)).trans n6
  replace hB := bstep hB hb2
  clear hb2
  obtain ⟨c6, f6⟩ := cellsB n6
  have l6 := lt_at n6
  obtain ⟨q1, q2, q3, q4, -⟩ := restored n6 hs2 lt6 hB ge_b6
  have HQ : Hid _ := And.intro q1 (And.intro q2 (And.intro q3 q4))
  clear q1 q2 q3 q4 hs hs2 n6 hB lt6 n7
  go_upto_region 7 with fail
  obtain ⟨n6, hs, hB, hz⟩ := HQ.out
  clear HQ c6 f6 l6
  generalize (w2.setCell ⟨b6, 0, none⟩ (.int .i64 0)).setCell ⟨b6, 1, none⟩ (.slice ea2 1 ec2) = Z2 at n6 hs hB hz ⊢
  rw [← hz]
  clear hz
  have ge_b9 := hB.size
  obtain ⟨n9, n11⟩ := two_new Z2 (repO 0 ⟨#[]⟩ 0 (.slice la2 0 lc2)) (.cells #[.int .i64 1, .string ⟨#[97]⟩, .string ⟨#[]⟩, .string ⟨#[]⟩, .int .i64 0] 28)
  have hbx : Below Z2.heap.size Z2 ((Z2.alloc (repO 0 ⟨#[]⟩ 0 (.slice la2 0 lc2))).alloc (.cells #[.int .i64 1, .string ⟨#[97]⟩, .string ⟨#[]⟩, .string ⟨#[]⟩, .int .i64 0] 28)) := (balloc _ _).alloc (by simp) _
  replace n6 := (hbx.block _ (lt_at n6)).trans n6
  replace hs := hs.below hbx
  replace hB := bstep hB hbx
  clear hbx
  generalize (Z2.alloc (repO 0 ⟨#[]⟩ 0 (.slice la2 0 lc2))).alloc (.cells #[.int .i64 1, .string ⟨#[97]⟩, .string ⟨#[]⟩, .string ⟨#[]⟩, .int .i64 0] 28) = V2 at n9 n11 n6 hs hB ⊢
  generalize Z2.heap.size = b9 at n9 n11 ge_b9 ⊢
  obtain ⟨c6, f6⟩ := cellsB n6
  obtain ⟨c11, f11⟩ := cellsB n11
  go_wp2_with fail
  clear c6 f6 c11 f11
  refine (A3.out _ _ _ _ hs).mono ?_
  rintro e w3 ⟨ea3, ec3, la3, lc3, rfl, -, hs2, -, hb3⟩
  have lt6 := lt_at n6
  replace n6 := (hb3.block _ (lt_at n6)).trans n6
  replace hB := bstep hB hb3
  clear hb3
  obtain ⟨c6, f6⟩ := cellsB n6
  have l6 := lt_at n6
  obtain ⟨q1, q2, q3, q4, -⟩ := restored n6 hs2 lt6 hB ge_b6
  have HQ : Hid _ := And.intro q1 (And.intro q2 (And.intro q3 q4))
  clear q1 q2 q3 q4 hs hs2 n6 hB lt6 n9 n11
  go_upto_region 8 with fail
  obtain ⟨n6, hs, hB, hz⟩ := HQ.out
  clear HQ c6 f6 l6
  generalize (w3.setCell ⟨b6, 0, none⟩ (.int .i64 0)).setCell ⟨b6, 1, none⟩ (.slice ea3 1 ec3) = Z3 at n6 hs hB hz ⊢
  rw [← hz]
  clear hz
  have ge_b12 := hB.size
  have n12 := alloc_at Z3 (repO 0 ⟨#[]⟩ 0 (.slice la3 0 lc3))
  have hbx := balloc Z3 (repO 0 ⟨#[]⟩ 0 (.slice la3 0 lc3))
  replace n6 := (hbx.block _ (lt_at n6)).trans n6
  replace hs := hs.below hbx
  replace hB := hB.alloc hB.size (repO 0 ⟨#[]⟩ 0 (.slice la3 0 lc3))
  clear hbx
  generalize Z3.alloc (repO 0 ⟨#[]⟩ 0 (.slice la3 0 lc3)) = V3 at n12 n6 hs hB ⊢
  generalize Z3.heap.size = b12 at n12 ge_b12 ⊢
  obtain ⟨c6, f6⟩ := cellsB n6
  go_wp2_with fail
  clear c6 f6 n12
  refine (A4.out _ _ _ _ hs).mono ?_
  rintro e w4 ⟨ea4, ec4, la4, lc4, rfl, hs4, -, -, hb4⟩
  clear hs
  replace n6 := (hb4.block _ (lt_at n6)).trans n6
  replace hB := bstep hB hb4
  clear hb4
  have l6 := lt_at n6
  go_upto_region 9 with fail
  have ge_b14 := hB.size
  obtain ⟨n14, n15⟩ := two_new w4 (stoO K (.slice ea4 1 ec4)) (repO 0 ⟨#[]⟩ 0 (.slice la4 1 lc4))
  have hbx : Below w4.heap.size w4 ((w4.alloc (stoO K (.slice ea4 1 ec4))).alloc (repO 0 ⟨#[]⟩ 0 (.slice la4 1 lc4))) := (balloc _ _).alloc (by simp) _
  replace n6 := (hbx.block _ (lt_at n6)).trans n6
  replace hs4 := hs4.below hbx
  replace hB := bstep hB hbx
  clear hbx
  generalize (w4.alloc (stoO K (.slice ea4 1 ec4))).alloc (repO 0 ⟨#[]⟩ 0 (.slice la4 1 lc4)) = V4 at n14 n15 n6 hs4 hB ⊢
  generalize w4.heap.size = b14 at n14 n15 ge_b14 ⊢
  obtain ⟨c14, f14⟩ := cellsB n14
  have hen := entry_w ⟨#[97]⟩ hs4
  rw [HTH.out] at hen
  generalize findE ⟨#[97]⟩ [⟨keyA, txtV ⟨#[]⟩, 0⟩] = fe at hen
  obtain ⟨fk, ⟨f1, f2, f3, fp, fi, fs⟩, ft⟩ := fe
  simp only at hen
  have HEN : Hid (Calls Tryz.prog 24 #[stoV K (.slice ea4 1 ec4), .string ⟨#[97]⟩] V4 fun e w' => ∃ ps is ss, e = .returned (.tuple #[entV fk f1 f2 f3 ps is ss ft, .bool true]) ∧ Lists w' ps is ss ⟨f1, f2, f3, fp, fi, fs⟩ ∧ Below V4.heap.size V4 w') := hen
  clear hen l6
  go_wp2_with fail
  clear c14 f14
  refine HEN.out.mono ?_
  rintro e w5 ⟨ps, is, ss, rfl, hl5, hb5⟩
  obtain ⟨pa, pc, ia, ic, sa, sc, rfl, rfl, rfl, -⟩ := hl5.lens
  replace n6 := (hb5.block _ (lt_at n6)).trans n6
  replace hB := bstep hB hb5
  clear hb5
  obtain ⟨c6, f6⟩ := cellsB n6
  have l6 := lt_at n6
  have HB5 := hideE hB
  clear hl5 hB n6 n14 n15 HEN
  go_wp2_with fail
  go_ret
  exact ⟨rfl, HB5.out.alloc HB5.out.size _⟩

theorem walk (v0 v1 : Value) (w : World) (h0 : IsInt v0) (h1 : IsBool v1) :
    Calls Tryz.prog 6 #[v0, v1] w fun e w' => e = .returned (.bool true) ∧ Below w.heap.size w w' := by
  obtain ⟨k, rfl, c1, c2⟩ := h0
  obtain ⟨b, rfl⟩ := h1
  cases b
  · exact walk_false k w ⟨c1, c2⟩
  · exact walk_true k w ⟨c1, c2⟩

theorem own : ownKnob Tryz.prog.godebug = none := by kernel_rfl
theorem laidOut : laidOutB Tryz.prog = true := by kernel_rfl

set_option maxRecDepth 100000 in
theorem lifted (os : Os) (started : os.Started) (H : Type) (enc : TypeId × Value → H) :
    ReturnsInHanded {} Tryz.checked os 6 .any (Rows.putStaysSpec.pre6 enc Tryz.prog Tryz.f6 Rows.putStaysRow.domain false) (Rows.putStaysSpec.post enc Tryz.prog Tryz.f6 false true false false) := by
  refine returnsInHanded_of_change (C := Tryz.checked) own started (by kernel_rfl) Tryz.func6
    (ChangeSpec.witness6 (enc := enc) (C := Tryz.checked) false ⟨#[], #[.int .i64 0, .bool false], []⟩ 8 (by kernel_rfl) (by kernel_rfl) (by kernel_rfl) (by kernel_rfl)) ?_
  intro W base args ds gs before hval0 hW hcnd _
  have hval : ∀ (j : Nat) t v, Tryz.f6.params[j]? = some t → args[j]? = some v → Value.okWide Tryz.prog W .any base t v := hval0
  have hW' := hW
  obtain ⟨p, q, hA0, hV, rfl, hfz, hnd⟩ := hW
  have hA : DataW.TrodAll enc Tryz.prog W 0 (fun _ => true) true Tryz.f6.params.toList args.toList ds p := hA0
  rw [Tryz.params6] at hA hval
  obtain ⟨v0, vs0, d0, ds0, p0, q0, hargs, rfl, rfl, h0, r0⟩ := trodAll_cons hA
  obtain ⟨v1, vs1, d1, ds1, p1, q1, rfl, rfl, rfl, h1, r1⟩ := trodAll_cons r0
  obtain ⟨rfl, rfl, rfl⟩ := trodAll_nil r1
  obtain rfl : args = #[v0, v1] := by cases args; simp_all
  obtain ⟨rfl, rfl⟩ := trodVars_none hV
  have lt0 : ∀ x ∈ p0, x.block < W.heap.size := by obtain ⟨m, hm⟩ := h0; exact DataW.trod_lt m _ _ _ hm
  have g0 := shape_int (hval 0 3 v0 rfl rfl) h0
  have lt1 : ∀ x ∈ p1, x.block < W.heap.size := by obtain ⟨m, hm⟩ := h1; exact DataW.trod_lt m _ _ _ hm
  have g1 := shape_bool (hval 1 4 v1 rfl rfl) h1
  clear hA0 hval0
  refine (walk v0 v1 W g0 g1).mono fun e W' ⟨he, bel⟩ => ?_
  subst he
  exact ⟨_, rfl, _, _, _, [], _, [], hW', trodAll_mk1 (shut_bool Tryz.underlying4 _), (trodAll_cons_mk (Below.trod laidOut (by kernel_rfl) (of_decide_eq_true (by kernel_rfl)) h0 bel lt0) (trodAll_cons_mk (Below.trod laidOut (by kernel_rfl) (of_decide_eq_true (by kernel_rfl)) h1 bel lt1) trodAll_mk0)), rfl, bel.frame _, fun h => by cases h⟩

theorem over : Rows.putStaysRow.holds Tryz.pinned (OpenSpec.ofChange Rows.putStaysSpec) :=
  OpenClaim.holds_of_wide 6 Tryz.f6 rfl rfl rfl rfl rfl rfl rfl ⟨rfl, rfl, rfl, rfl, rfl⟩ rfl rfl rfl rfl rfl (by kernel_rfl) Tryz.func6 (by kernel_rfl)
    (of_decide_eq_true (by kernel_rfl)) (by unfold Func.isWrapper; first | (rw [if_pos (by decide +kernel)]; kernel_rfl) | (rw [if_neg (by decide +kernel)]; exact ⟨rfl, rfl⟩))
    (fun os started H enc _ => lifted os started H enc)

end Go.Proofs.YtfnephnecighaaaGreat.putStaysDone
namespace Go.Proofs.YtfnephnecighaaaGreat
theorem PutStays_holds : Rows.PutStaysSaid := putStaysDone.over
end Go.Proofs.YtfnephnecighaaaGreat
