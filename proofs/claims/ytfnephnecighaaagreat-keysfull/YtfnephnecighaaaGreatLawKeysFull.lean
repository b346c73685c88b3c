/- A store has room for so many keys: for every number the law returns true. No condition. -/
import Derived.Test.YtfnephnecighaaaGreatEyJ
import Derived.Test.YtfnephnecighaaaGreatSx
import Derived.Test.YtfnephnecighaaaGreatOp
import Derived.Test.YtfnephnecighaaaGreatCaJ
import Derived.Test.YtfnephnecighaaaGreatKc
namespace Go.Proofs.YtfnephnecighaaaGreat.keysFullDone
open Go.ChangeShapes Go.WideShapes Go.ChangeAt Go.RowKit
open Go.Proofs.YtfnephnecighaaaGreat
set_option linter.unusedVariables false
set_option maxRecDepth 100000

theorem kf_acts (m : Nat) (hm : m < 24) : ∃ (rt : ByteArray) (rn : Int) (rl : List ByteArray) (q : Nat), ActsW 0 (kfS m).es 0 11 (kfB m) ⟨#[]⟩ ⟨#[120]⟩ 0 0 (kfS (m + 1)).es (min (m + 1) 12) (if 12 ≤ m then 6 else 0) rt rn rl q 0 := by
  have h := acts_w (acts_of (s := kfS m) (t := 0) (c := kfC m) (kfS_ref m hm) ⟨rfl, rfl⟩) (kfS_len (m + 1) (by omega)) rfl
  rw [kfS_code m hm, kfS_now m (by omega), show (applyS (kfS m) 0 (kfC m)).now = 0 from kfS_now (m + 1) (by omega)] at h
  exact ⟨_, _, _, _, h⟩
theorem kf_put (m : Nat) (hm : m ≤ 24) : ∃ (L' : List Kv) (rt : ByteArray) (rn : Int) (rl : List ByteArray) (q : Nat), ActsW 0 (kfS m).es 0 1 ⟨#[65]⟩ ⟨#[]⟩ ⟨#[]⟩ 0 0 L' (max (min m 12) 1) 0 rt rn rl q 0 := by
  have h := acts_w (acts_of (s := kfS m) (t := 0) (c := kfP) (kfP_ref m hm) ⟨rfl, rfl⟩) (kfP_len m hm).1 rfl
  rw [kfP_code m hm, kfS_now m hm, (kfP_len m hm).2] at h
  exact ⟨_, _, _, _, _, h⟩

set_option maxHeartbeats 8000000 in
theorem walk1 (n : Int) (w : World) (F : Nat → List Kv) (bn : -9223372036854775808 ≤ n ∧ n ≤ 9223372036854775807) (hF : F 0 = [])
    (hK : ∀ m : Nat, m < 24 → ∃ (rt : ByteArray) (rn : Int) (rl : List ByteArray) (q : Nat), ActsW 0 (F m) 0 11 (kfB m) ⟨#[]⟩ ⟨#[120]⟩ 0 0 (F (m + 1)) (min (m + 1) 12) (if 12 ≤ m then 6 else 0) rt rn rl q 0)
    (hP : ∀ m : Nat, m ≤ 24 → ∃ (L' : List Kv) (rt : ByteArray) (rn : Int) (rl : List ByteArray) (q : Nat), ActsW 0 (F m) 0 1 ⟨#[65]⟩ ⟨#[]⟩ ⟨#[]⟩ 0 0 L' (max (min m 12) 1) 0 rt rn rl q 0) :
    Calls Tryz.prog 8 #[.int .i64 n] w fun e w' => e = .returned (.bool true) ∧ Below w.heap.size w w' := by
  have p0 := fun W => picked_any n 24 W bn.1 bn.2 (by omega) (by omega)
  have hn := pickedN_lt n (show 0 < 24 by omega)
  generalize pickedN n 24 = many at *
  have P0 : Hid (∀ W, Calls Tryz.prog 21 #[.int .i64 n, .int .i64 24] W fun e w' => e = .returned (.int .i64 (many : Nat)) ∧ W = w') := p0
  have HK : Hid (∀ m : Nat, m < 24 → ∃ (rt : ByteArray) (rn : Int) (rl : List ByteArray) (q : Nat), ActsW 0 (F m) 0 11 (kfB m) ⟨#[]⟩ ⟨#[120]⟩ 0 0 (F (m + 1)) (min (m + 1) 12) (if 12 ≤ m then 6 else 0) rt rn rl q 0) := hK
  have HP : Hid (∀ m : Nat, m ≤ 24 → ∃ (L' : List Kv) (rt : ByteArray) (rn : Int) (rl : List ByteArray) (q : Nat), ActsW 0 (F m) 0 1 ⟨#[65]⟩ ⟨#[]⟩ ⟨#[]⟩ 0 0 L' (max (min m 12) 1) 0 rt rn rl q 0) := hP
  have HF := hideE hF
  clear hK hP hF p0 bn
  go_enter Tryz.func8, Tryz.ntmps8
  go_wp2_with fail
  refine (P0.out _).mono ?_
  rintro e w0 ⟨rfl, rfl⟩
  clear P0
  have n4 := alloc_at w (stoO 0 (.slice none 0 0))
  have hB0 := balloc w (stoO 0 (.slice none 0 0))
  go_wp2_with fail
  generalize w.alloc (stoO 0 (.slice none 0 0)) = V at n4 hB0 ⊢
  go_loopw [5] (fun c wr => ∃ (m l : Nat) (ea : Option Addr) (ec : Nat), c = .int .i64 (m : Int) ∧ m ≤ many ∧ l = min m 12 ∧ wr.heap[w.heap.size]? = some (stoO 0 (.slice ea l ec)) ∧ StL wr 0 ea l ec (F m) ∧ Below w.heap.size w wr)
    (fun c _ => many - (intOf c).toNat)
  case atStart => exact ⟨0, 0, none, 0, rfl, by omega, by omega, n4, by rw [HF.out]; exact StL.nil _ _, hB0⟩
  case round =>
    clear n4 hB0 HF
    obtain ⟨m, l, ea, ec, rfl, hm, hl, n4, hs, hB⟩ := hrel
    have ge := hB.size
    by_cases hlt : m < many
    · have hi0 : (m : Int) < (many : Int) := by omega
      obtain ⟨rt, rn, rl, q, hA⟩ := HK.out m (by omega)
      obtain ⟨l', hl'⟩ : ∃ x, min (m + 1) 12 = x := ⟨_, rfl⟩
      obtain ⟨rc, hrc⟩ : ∃ x : Int, (if 12 ≤ m then (6 : Int) else 0) = x := ⟨_, rfl⟩
      rw [hl', hrc] at hA
      have hcv := run_one wr.heap.size (65 + m) (by omega) (wr.alloc (.cells #[.int .u8 ((65 + m : Nat) : Int)] 5)) (by simp)
      have e1 : ((65 + m : Nat) : Int) = 65 + (m : Int) := by omega
      rw [e1] at hcv
      rw [show (⟨#[UInt8.ofNat (65 + m)]⟩ : ByteArray) = kfB m from rfl] at hcv
      generalize kfB m = key at hA hcv
      have HL' : Hid (min (m + 1) 12 = l') := hl'
      have HRC : Hid ((if 12 ≤ m then (6 : Int) else 0) = rc) := hrc
      have A1 : Hid (ActsW 0 (F m) 0 11 key ⟨#[]⟩ ⟨#[120]⟩ 0 0 (F (m + 1)) l' rc rt rn rl q 0) := hA
      have hbx := balloc wr (.cells #[.int .u8 (65 + (m : Int))] 5)
      have hs1 := hs.below hbx
      have nx := (hbx.block _ (lt_at n4)).trans n4
      replace hB := bstep hB hbx
      have HS1 := hideE hs1
      have L0 : Hid (w.heap.size < wr.heap.size) := lt_at n4
      have N4 := hideE n4
      have lt4 := lt_at nx
      have HLT := hideE lt4
      clear hbx hl' hrc hA HK HP hs hs1 n4 lt4 ge hl
      have l0 : w.heap.size < wr.heap.size := L0.out
      clear L0
      have n4 := N4.out
      obtain ⟨c4, f4⟩ := cellsB n4
      go_wp2_with fail
      clear c4 f4 n4 N4
      refine (A1.out _ _ _ _ HS1.out).mono ?_
      rintro e w1 ⟨ea1, ec1, la1, lc1, rfl, -, hs2, -, hb1⟩
      replace nx := (hb1.block _ (lt_at nx)).trans nx
      replace hB := bstep hB hb1
      clear hb1
      clear A1 HS1
      have lx := lt_at nx
      go_upto_region 7 with fail
      clear lx
      have ge_b6 := hB.size
      obtain ⟨n6, n7⟩ := two_new w1 (stoO 0 (.slice ea1 l' ec1)) (repO rc rt rn (.slice la1 q lc1))
      have hbx : Below w1.heap.size w1 ((w1.alloc (stoO 0 (.slice ea1 l' ec1))).alloc (repO rc rt rn (.slice la1 q lc1))) := (balloc _ _).alloc (by simp) _
      replace nx := (hbx.block _ (lt_at nx)).trans nx
      replace hs2 := hs2.below hbx
      replace hB := bstep hB hbx
      clear hbx
      generalize (w1.alloc (stoO 0 (.slice ea1 l' ec1))).alloc (repO rc rt rn (.slice la1 q lc1)) = V1 at n6 n7 nx hs2 hB ⊢
      generalize w1.heap.size = b6 at n6 n7 ge_b6 ⊢
      obtain ⟨c4, f4⟩ := cellsB nx
      obtain ⟨c6, f6⟩ := cellsB n6
      obtain ⟨c7, f7⟩ := cellsB n7
      have l4 := lt_at nx
      obtain ⟨q1, q2, q3, -, -⟩ := restored nx hs2 HLT.out hB (Nat.le_refl _)
      have HQ : Hid _ := And.intro q1 (And.intro q2 q3)
      clear q1 q2 q3 hs2 nx n6 n7 hB HLT
      by_cases h12 : 12 ≤ m
      · obtain rfl : rc = 6 := by have := HRC.out; rw [if_pos h12] at this; exact this.symm
        have h12' : decide ((12 : Int) ≤ (m : Int)) = true := decide_eq_true (by omega)
        clear h12 HRC
        go_wp2_with fail
        exact ⟨⟨m + 1, l', ea1, ec1, by go_num, by omega, HL'.out.symm, HQ.out.1, HQ.out.2.1, HQ.out.2.2⟩, by simp [intOf]; omega⟩
      · obtain rfl : rc = 0 := by have := HRC.out; rw [if_neg h12] at this; exact this.symm
        have h12' : decide ((12 : Int) ≤ (m : Int)) = false := decide_eq_false (by omega)
        clear h12 HRC
        go_wp2_with fail
        exact ⟨⟨m + 1, l', ea1, ec1, by go_num, by omega, HL'.out.symm, HQ.out.1, HQ.out.2.1, HQ.out.2.2⟩, by simp [intOf]; omega⟩
    · have hge : ¬ (m : Int) < (many : Int) := by omega
      have hmm : m = many := by omega
      subst hmm
      obtain ⟨L', rt, rn, rl, q, hA⟩ := HP.out m (by omega)
      obtain ⟨l', hl'⟩ : ∃ x, max (min m 12) 1 = x := ⟨_, rfl⟩
      rw [hl'] at hA
      have A2 : Hid (ActsW 0 (F m) 0 1 ⟨#[65]⟩ ⟨#[]⟩ ⟨#[]⟩ 0 0 L' l' 0 rt rn rl q 0) := hA
      have he1 : ((l : Int) == min (m : Int) 12) = true := by rw [beq_iff_eq]; omega
      have he2 : ((l' : Int) == max (l : Int) 1) = true := by rw [beq_iff_eq]; omega
      have HS := hideE hs
      have HE1 := hideE he1
      have HE2 := hideE he2
      clear hA hl' HK HP hl he1 he2 hs ge
      obtain ⟨c4, f4⟩ := cellsB n4
      go_wp2_with fail
      clear c4 f4
      refine (A2.out _ _ _ _ HS.out).mono ?_
      rintro e w1 ⟨ea1, ec1, la1, lc1, rfl, -, -, -, hb1⟩
      clear HS A2
      replace n4 := (hb1.block _ (lt_at n4)).trans n4
      replace hB := bstep hB hb1
      clear hb1
      have l4 := lt_at n4
      go_upto_region 11 with fail
      clear l4
      have ge_b9 := hB.size
      obtain ⟨n9, n10⟩ := two_new w1 (stoO 0 (.slice ea1 l' ec1)) (repO 0 rt rn (.slice la1 q lc1))
      have hbx : Below w1.heap.size w1 ((w1.alloc (stoO 0 (.slice ea1 l' ec1))).alloc (repO 0 rt rn (.slice la1 q lc1))) := (balloc _ _).alloc (by simp) _
      replace n4 := (hbx.block _ (lt_at n4)).trans n4
      replace hB := bstep hB hbx
      clear hbx
      generalize (w1.alloc (stoO 0 (.slice ea1 l' ec1))).alloc (repO 0 rt rn (.slice la1 q lc1)) = V1 at n9 n10 n4 hB ⊢
      generalize w1.heap.size = b9 at n9 n10 ge_b9 ⊢
      obtain ⟨c4, f4⟩ := cellsB n4
      obtain ⟨c9, f9⟩ := cellsB n9
      obtain ⟨c10, f10⟩ := cellsB n10
      have he1 := HE1.out
      have he2 := HE2.out
      have HB := hideE hB
      clear hB n4 n9 n10 HE1 HE2
      go_wp2_with fail
      go_ret
      exact ⟨rfl, HB.out⟩

theorem walk (v0 : Value) (w : World) (h0 : IsInt v0) :
    Calls Tryz.prog 8 #[v0] w fun e w' => e = .returned (.bool true) ∧ Below w.heap.size w w' := by
  obtain ⟨x0, rfl, c1, c2⟩ := h0
  exact walk1 x0 w (fun m => (kfS m).es) ⟨c1, c2⟩ rfl (fun m hm => kf_acts m hm) (fun m hm => kf_put m hm)

theorem own : ownKnob Tryz.prog.godebug = none := by kernel_rfl
theorem laidOut : laidOutB Tryz.prog = true := by kernel_rfl

set_option maxRecDepth 100000 in
theorem lifted (os : Os) (started : os.Started) (H : Type) (enc : TypeId × Value → H) :
    ReturnsInHanded {} Tryz.checked os 8 .any (Rows.keysFullSpec.pre6 enc Tryz.prog Tryz.f8 Rows.keysFullRow.domain false) (Rows.keysFullSpec.post enc Tryz.prog Tryz.f8 false true false false) := by
  refine returnsInHanded_of_change (C := Tryz.checked) own started (by kernel_rfl) Tryz.func8
    (ChangeSpec.witness6 (enc := enc) (C := Tryz.checked) false ⟨#[], #[.int .i64 0], []⟩ 8 (by kernel_rfl) (by kernel_rfl) (by kernel_rfl) (by kernel_rfl)) ?_
  intro W base args ds gs before hval0 hW hcnd _
  have hval : ∀ (j : Nat) t v, Tryz.f8.params[j]? = some t → args[j]? = some v → Value.okWide Tryz.prog W .any base t v := hval0
  have hW' := hW
  obtain ⟨p, q, hA0, hV, rfl, hfz, hnd⟩ := hW
  have hA : DataW.TrodAll enc Tryz.prog W 0 (fun _ => true) true Tryz.f8.params.toList args.toList ds p := hA0
  rw [Tryz.params8] at hA hval
  obtain ⟨v0, vs0, d0, ds0, p0, q0, hargs, rfl, rfl, h0, r0⟩ := trodAll_cons hA
  obtain ⟨rfl, rfl, rfl⟩ := trodAll_nil r0
  obtain rfl : args = #[v0] := by cases args; simp_all
  obtain ⟨rfl, rfl⟩ := trodVars_none hV
  have lt0 : ∀ x ∈ p0, x.block < W.heap.size := by obtain ⟨m, hm⟩ := h0; exact DataW.trod_lt m _ _ _ hm
  have g0 := shape_int (hval 0 3 v0 rfl rfl) h0
  clear hA0 hval0
  refine (walk v0 W g0).mono fun e W' ⟨he, bel⟩ => ?_
  subst he
  exact ⟨_, rfl, _, _, _, [], _, [], hW', trodAll_mk1 (shut_bool Tryz.underlying4 _), (trodAll_cons_mk (Below.trod laidOut (by kernel_rfl) (of_decide_eq_true (by kernel_rfl)) h0 bel lt0) trodAll_mk0), rfl, bel.frame _, fun h => by cases h⟩

theorem over : Rows.keysFullRow.holds Tryz.pinned (OpenSpec.ofChange Rows.keysFullSpec) :=
  OpenClaim.holds_of_wide 8 Tryz.f8 rfl rfl rfl rfl rfl rfl rfl ⟨rfl, rfl, rfl, rfl, rfl⟩ rfl rfl rfl rfl rfl (by kernel_rfl) Tryz.func8 (by kernel_rfl)
    (of_decide_eq_true (by kernel_rfl)) (by unfold Func.isWrapper; first | (rw [if_pos (by decide +kernel)]; kernel_rfl) | (rw [if_neg (by decide +kernel)]; exact ⟨rfl, rfl⟩))
    (fun os started H enc _ => lifted os started H enc)

end Go.Proofs.YtfnephnecighaaaGreat.keysFullDone
namespace Go.Proofs.YtfnephnecighaaaGreat
theorem KeysFull_holds : Rows.KeysFullSaid := keysFullDone.over
end Go.Proofs.YtfnephnecighaaaGreat
