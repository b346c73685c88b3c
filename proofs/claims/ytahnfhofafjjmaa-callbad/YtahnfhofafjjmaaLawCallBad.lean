/- Of a call: nobody's has no number, a client's has one from 1 on, clients are counted from 1 on, and its command is of some kind: for all raw numbers the law returns true. No condition. -/
import Derived.Test.YtahnfhofafjjmaaKd
import Derived.Test.YtahnfhofafjjmaaOr
import Derived.Test.YtahnfhofafjjmaaDb
namespace Go.Proofs.Ytahnfhofafjjmaa.callBadDone
open Go.ChangeShapes Go.WideShapes Go.ChangeAt Go.RowKit
open Go.Proofs.Ytahnfhofafjjmaa
set_option linter.unusedVariables false
set_option maxRecDepth 100000

theorem fault_seq (s : Nat) : callFault 0 (s : Int) 0 ⟨#[]⟩ ⟨#[]⟩ ⟨#[]⟩ 0 = if s = 0 then 0 else 8 := by
  by_cases h : s = 0
  · subst h; decide +kernel
  · have : ¬ ((s : Int) = 0) := by omega
    simp [callFault, emptyB, h]
theorem fault_kind : callFault 1 1 0 ⟨#[]⟩ ⟨#[]⟩ ⟨#[]⟩ 0 = 3 := by decide +kernel

set_option maxHeartbeats 4000000 in
theorem walk0 (k key fld n : Int) (txt : ByteArray) (b : Int) (w : World) (bk : -9223372036854775808 ≤ k ∧ k ≤ 9223372036854775807) (bkey : -9223372036854775808 ≤ key ∧ key ≤ 9223372036854775807)
    (bf : -9223372036854775808 ≤ fld ∧ fld ≤ 9223372036854775807) (bn : -9223372036854775808 ≤ n ∧ n ≤ 9223372036854775807) (bt : txt.size ≤ 9223372036854775807) (bb : -9223372036854775808 ≤ b ∧ b ≤ 9223372036854775807) :
    Calls Try.prog 10 #[rawV k key fld n txt, .int .i64 b] w fun e w' => e = .returned (.bool true) ∧ Below w.heap.size w w' := by
  have lk := pickedN_lt k (show 0 < 22 by omega)
  have hC := fun W => command_any k key fld n txt W bk bkey bf bn bt
  have hF := cmdFor_fault (1 + pickedN k 22) key fld n txt (by omega) (by omega)
  generalize cmdFor (1 + pickedN k 22) key fld n txt = c at hC hF
  obtain ⟨ck, ckey, cfld, ctxt, cn⟩ := c
  have HC : Hid (∀ W, Calls Try.prog 29 #[rawV k key fld n txt] W fun e w' => e = .returned (cmdV ck ckey cfld ctxt cn) ∧ Below W.heap.size W w') := hC
  have hp := fun W => picked_any b 9 W bb.1 bb.2 (by omega) (by omega)
  have lq := pickedN_lt b (show 0 < 9 by omega)
  generalize pickedN b 9 = q at hp lq
  have HP : Hid (∀ W, Calls Try.prog 17 #[.int .i64 b, .int .i64 9] W fun e w' => e = .returned (.int .i64 (q : Nat)) ∧ W = w') := hp
  have hA := fun W => checkCall_any 0 (q : Int) 0 ⟨#[]⟩ ⟨#[]⟩ ⟨#[]⟩ 0 W
  rw [fault_seq] at hA
  have HA : Hid (∀ W, Calls Try.prog 24 #[callV 0 (q : Int) 0 ⟨#[]⟩ ⟨#[]⟩ ⟨#[]⟩ 0] W fun e w' => e = .returned (.int .i64 (if q = 0 then 0 else 8)) ∧ Below W.heap.size W w') := hA
  have hf : cmdFault ck ckey cfld ctxt cn = 0 := hF
  have hB := fun W => checkCall_any 1 (q : Int) ck ckey cfld ctxt cn W
  rw [show callFault 1 (q : Int) ck ckey cfld ctxt cn = if q = 0 then 2 else 0 by
    by_cases h : q = 0
    · subst h; simp [callFault, numB]
    · have h1 : 1 ≤ (q : Int) := by omega
      have h2 : (q : Int) ≤ 1048576 := by omega
      simp [callFault, numB, h, hf, h2]; omega] at hB
  have HB : Hid (∀ W, Calls Try.prog 24 #[callV 1 (q : Int) ck ckey cfld ctxt cn] W fun e w' => e = .returned (.int .i64 (if q = 0 then 2 else 0)) ∧ Below W.heap.size W w') := hB
  have hD := fun W => checkCall_any (-1 - (q : Int)) 1 ck ckey cfld ctxt cn W
  rw [show callFault (-1 - (q : Int)) 1 ck ckey cfld ctxt cn = 2 by
    have h1 : ¬ (-1 - (q : Int) = 0) := by omega
    have h2 : ¬ (1 ≤ -1 - (q : Int)) := by omega
    simp [callFault, numB, h1, h2]] at hD
  have HD : Hid (∀ W, Calls Try.prog 24 #[callV (-1 - (q : Int)) 1 ck ckey cfld ctxt cn] W fun e w' => e = .returned (.int .i64 2) ∧ Below W.heap.size W w') := hD
  have hE := fun W => checkCall_any 1 1 0 ⟨#[]⟩ ⟨#[]⟩ ⟨#[]⟩ 0 W
  rw [fault_kind] at hE
  have HE : Hid (∀ W, Calls Try.prog 24 #[callV 1 1 0 ⟨#[]⟩ ⟨#[]⟩ ⟨#[]⟩ 0] W fun e w' => e = .returned (.int .i64 3) ∧ Below W.heap.size W w') := hE
  clear hC hF hf hp hA hB hD hE lk bk bkey bf bn bt bb
  have hb0 := balloc w (.cells #[.int .i64 k, .int .i64 key, .int .i64 fld, .int .i64 n, .string txt] 60)
  rcases Nat.eq_zero_or_pos q with hq | hq
  · subst hq
    have A0 : ∀ W, Calls Try.prog 24 #[callV 0 (0 : Int) 0 ⟨#[]⟩ ⟨#[]⟩ ⟨#[]⟩ 0] W fun e w' => e = .returned (.int .i64 0) ∧ Below W.heap.size W w' := by
      have := HA.out
      simpa [] using this
    have A : Hid (∀ W, Calls Try.prog 24 #[callV 0 (0 : Int) 0 ⟨#[]⟩ ⟨#[]⟩ ⟨#[]⟩ 0] W fun e w' => e = .returned (.int .i64 0) ∧ Below W.heap.size W w') := A0
    have B0 : ∀ W, Calls Try.prog 24 #[callV 1 (0 : Int) ck ckey cfld ctxt cn] W fun e w' => e = .returned (.int .i64 2) ∧ Below W.heap.size W w' := by
      have := HB.out
      simpa [] using this
    have Bb : Hid (∀ W, Calls Try.prog 24 #[callV 1 (0 : Int) ck ckey cfld ctxt cn] W fun e w' => e = .returned (.int .i64 2) ∧ Below W.heap.size W w') := B0
    have D : Hid (∀ W, Calls Try.prog 24 #[callV (-1 - (0 : Int)) 1 ck ckey cfld ctxt cn] W fun e w' => e = .returned (.int .i64 2) ∧ Below W.heap.size W w') := HD
    have Pq : Hid (∀ W, Calls Try.prog 17 #[.int .i64 b, .int .i64 9] W fun e w' => e = .returned (.int .i64 (0 : Int)) ∧ W = w') := HP
    clear HA HB HD HP A0 B0
    go_enter Try.func10, Try.ntmps10
    go_wp2_with fail
    refine (Pq.out _).mono ?_
    rintro e w1 ⟨rfl, rfl⟩
    go_wp2_with fail
    refine (A.out _).mono ?_
    rintro e w2 ⟨rfl, hb2⟩
    have hB2 := bstep hb0 hb2
    obtain ⟨c2, f2⟩ := same_block (hb2.block w.heap.size (by simp))
    have z2 : w.heap.size < w2.heap.size := by have := hb2.size; simp at this; omega
    clear hb2
    go_wp2_with fail
    refine (HC.out _).mono ?_
    rintro e w3 ⟨rfl, hb3⟩
    have hB3 := bstep hB2 hb3
    obtain ⟨c3, f3⟩ := same_block (hb3.block w.heap.size z2)
    have z3 : w.heap.size < w3.heap.size := Nat.lt_of_lt_of_le z2 hb3.size
    clear hb3
    go_wp2_with fail
    refine (Bb.out _).mono ?_
    rintro e w4 ⟨rfl, hb4⟩
    have hB4 := bstep hB3 hb4
    obtain ⟨c4, f4⟩ := same_block (hb4.block w.heap.size z3)
    have z4 : w.heap.size < w4.heap.size := Nat.lt_of_lt_of_le z3 hb4.size
    clear hb4
    go_wp2_with fail
    refine (HC.out _).mono ?_
    rintro e w5 ⟨rfl, hb5⟩
    have hB5 := bstep hB4 hb5
    clear hb5
    go_wp2_with fail
    refine (D.out _).mono ?_
    rintro e w6 ⟨rfl, hb6⟩
    have hB6 := bstep hB5 hb6
    clear hb6
    go_wp2_with fail
    refine (HE.out _).mono ?_
    rintro e w7 ⟨rfl, hb7⟩
    have hB7 := bstep hB6 hb7
    clear hb7
    go_wp2_with fail
    all_goals
      go_ret
      exact ⟨ret_bool (by first | rfl | (simp <;> omega)), hB7⟩
  · have q0 : ¬ q = 0 := (by omega); have q1 : (1 : Int) ≤ (q : Int) := (by omega); have q9 : (q : Int) ≤ 8 := (by omega)
    have A0 : ∀ W, Calls Try.prog 24 #[callV 0 (q : Int) 0 ⟨#[]⟩ ⟨#[]⟩ ⟨#[]⟩ 0] W fun e w' => e = .returned (.int .i64 8) ∧ Below W.heap.size W w' := by
      have := HA.out
      simpa [q0] using this
    have A : Hid (∀ W, Calls Try.prog 24 #[callV 0 (q : Int) 0 ⟨#[]⟩ ⟨#[]⟩ ⟨#[]⟩ 0] W fun e w' => e = .returned (.int .i64 8) ∧ Below W.heap.size W w') := A0
    have B0 : ∀ W, Calls Try.prog 24 #[callV 1 (q : Int) ck ckey cfld ctxt cn] W fun e w' => e = .returned (.int .i64 0) ∧ Below W.heap.size W w' := by
      have := HB.out
      simpa [q0] using this
    have Bb : Hid (∀ W, Calls Try.prog 24 #[callV 1 (q : Int) ck ckey cfld ctxt cn] W fun e w' => e = .returned (.int .i64 0) ∧ Below W.heap.size W w') := B0
    have D : Hid (∀ W, Calls Try.prog 24 #[callV (-1 - (q : Int)) 1 ck ckey cfld ctxt cn] W fun e w' => e = .returned (.int .i64 2) ∧ Below W.heap.size W w') := HD
    have Pq : Hid (∀ W, Calls Try.prog 17 #[.int .i64 b, .int .i64 9] W fun e w' => e = .returned (.int .i64 (q : Int)) ∧ W = w') := HP
    clear HA HB HD HP A0 B0
    go_enter Try.func10, Try.ntmps10
    go_wp2_with fail
    refine (Pq.out _).mono ?_
    rintro e w1 ⟨rfl, rfl⟩
    go_wp2_with fail
    refine (A.out _).mono ?_
    rintro e w2 ⟨rfl, hb2⟩
    have hB2 := bstep hb0 hb2
    obtain ⟨c2, f2⟩ := same_block (hb2.block w.heap.size (by simp))
    have z2 : w.heap.size < w2.heap.size := by have := hb2.size; simp at this; omega
    clear hb2
    go_wp2_with fail
    refine (HC.out _).mono ?_
    rintro e w3 ⟨rfl, hb3⟩
    have hB3 := bstep hB2 hb3
    obtain ⟨c3, f3⟩ := same_block (hb3.block w.heap.size z2)
    have z3 : w.heap.size < w3.heap.size := Nat.lt_of_lt_of_le z2 hb3.size
    clear hb3
    go_wp2_with fail
    refine (Bb.out _).mono ?_
    rintro e w4 ⟨rfl, hb4⟩
    have hB4 := bstep hB3 hb4
    obtain ⟨c4, f4⟩ := same_block (hb4.block w.heap.size z3)
    have z4 : w.heap.size < w4.heap.size := Nat.lt_of_lt_of_le z3 hb4.size
    clear hb4
    go_wp2_with fail
    refine (HC.out _).mono ?_
    rintro e w5 ⟨rfl, hb5⟩
    have hB5 := bstep hB4 hb5
    clear hb5
    go_wp2_with fail
    refine (D.out _).mono ?_
    rintro e w6 ⟨rfl, hb6⟩
    have hB6 := bstep hB5 hb6
    clear hb6
    go_wp2_with fail
    refine (HE.out _).mono ?_
    rintro e w7 ⟨rfl, hb7⟩
    have hB7 := bstep hB6 hb7
    clear hb7
    go_wp2_with fail
    all_goals
      go_ret
      exact ⟨ret_bool (by first | rfl | (simp <;> omega)), hB7⟩

theorem walk (v0 v1 : Value) (w : World) (h0 : IsRaw v0) (h1 : IsInt v1) :
    Calls Try.prog 10 #[v0, v1] w fun e w' => e = .returned (.bool true) ∧ Below w.heap.size w w' := by
  obtain ⟨k, key, fld, n, txt, rfl, b1, b2, b3, b4, b5⟩ := h0
  obtain ⟨b, rfl, c1, c2⟩ := h1
  exact walk0 k key fld n txt b w b1 b2 b3 b4 b5 ⟨c1, c2⟩

theorem own : ownKnob Try.prog.godebug = none := by kernel_rfl
theorem laidOut : laidOutB Try.prog = true := by kernel_rfl

set_option maxRecDepth 100000 in
theorem lifted (os : Os) (started : os.Started) (H : Type) (enc : TypeId × Value → H) :
    ReturnsInHanded {} Try.checked os 10 .any (Rows.callBadSpec.pre6 enc Try.prog Try.f10 Rows.callBadRow.domain false) (Rows.callBadSpec.post enc Try.prog Try.f10 false true false false) := by
  refine returnsInHanded_of_change (C := Try.checked) own started (by kernel_rfl) Try.func10
    (ChangeSpec.witness6 (enc := enc) (C := Try.checked) false ⟨#[], #[.agg #[.int .i64 0, .int .i64 0, .int .i64 0, .int .i64 0, .string ByteArray.empty], .int .i64 0], []⟩ 8 (by kernel_rfl) (by kernel_rfl) (by kernel_rfl) (by kernel_rfl)) ?_
  intro W base args ds gs before hval0 hW hcnd _
  have hval : ∀ (j : Nat) t v, Try.f10.params[j]? = some t → args[j]? = some v → Value.okWide Try.prog W .any base t v := hval0
  have hW' := hW
  obtain ⟨p, q, hA0, hV, rfl, hfz, hnd⟩ := hW
  have hA : DataW.TrodAll enc Try.prog W 0 (fun _ => true) true Try.f10.params.toList args.toList ds p := hA0
  rw [Try.params10] at hA hval
  obtain ⟨v0, vs0, d0, ds0, p0, q0, hargs, rfl, rfl, h0, r0⟩ := trodAll_cons hA
  obtain ⟨v1, vs1, d1, ds1, p1, q1, rfl, rfl, rfl, h1, r1⟩ := trodAll_cons r0
  obtain ⟨rfl, rfl, rfl⟩ := trodAll_nil r1
  obtain rfl : args = #[v0, v1] := by cases args; simp_all
  obtain ⟨rfl, rfl⟩ := trodVars_none hV
  have lt0 : ∀ x ∈ p0, x.block < W.heap.size := by obtain ⟨m, hm⟩ := h0; exact DataW.trod_lt m _ _ _ hm
  have g0 := shape_raw (hval 0 60 v0 rfl rfl) h0
  have lt1 : ∀ x ∈ p1, x.block < W.heap.size := by obtain ⟨m, hm⟩ := h1; exact DataW.trod_lt m _ _ _ hm
  have g1 := shape_int (hval 1 3 v1 rfl rfl) h1
  clear hA0 hval0
  refine (walk v0 v1 W g0 g1).mono fun e W' ⟨he, bel⟩ => ?_
  subst he
  exact ⟨_, rfl, _, _, _, [], _, [], hW', trodAll_mk1 (shut_bool Try.underlying4 _), (trodAll_cons_mk (Below.trod laidOut (by kernel_rfl) (of_decide_eq_true (by kernel_rfl)) h0 bel lt0) (trodAll_cons_mk (Below.trod laidOut (by kernel_rfl) (of_decide_eq_true (by kernel_rfl)) h1 bel lt1) trodAll_mk0)), rfl, bel.frame _, fun h => by cases h⟩

theorem over : Rows.callBadRow.holds Try.pinned (OpenSpec.ofChange Rows.callBadSpec) :=
  OpenClaim.holds_of_wide 10 Try.f10 rfl rfl rfl rfl rfl rfl rfl ⟨rfl, rfl, rfl, rfl, rfl⟩ rfl rfl rfl rfl rfl (by kernel_rfl) Try.func10 (by kernel_rfl)
    (of_decide_eq_true (by kernel_rfl)) (by unfold Func.isWrapper; first | (rw [if_pos (by decide +kernel)]; kernel_rfl) | (rw [if_neg (by decide +kernel)]; exact ⟨rfl, rfl⟩))
    (fun os started H enc _ => lifted os started H enc)

end Go.Proofs.Ytahnfhofafjjmaa.callBadDone
namespace Go.Proofs.Ytahnfhofafjjmaa
theorem CallBad_holds : Rows.CallBadSaid := callBadDone.over
end Go.Proofs.Ytahnfhofafjjmaa
