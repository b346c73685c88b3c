/- A reply has its bounds: its code is one of the errors, its text and its texts are no longer, and no more, than they may be, its number is a count: for all two numbers the law returns true. No condition. -/
import Derived.Test.YtahnfhofafjjmaaDc
import Derived.Test.YtahnfhofafjjmaaKp
import Derived.Test.YtahnfhofafjjmaaOp
import Derived.Test.YtahnfhofafjjmaaZr
namespace Go.Proofs.Ytahnfhofafjjmaa.replyBadDone
open Go.ChangeShapes Go.WideShapes Go.ChangeAt Go.RowKit
open Go.Proofs.Ytahnfhofafjjmaa
set_option linter.unusedVariables false
set_option maxRecDepth 100000

abbrev repA (code : Int) (text : ByteArray) (n : Int) (ls : Value) : Value := .agg #[.int .i64 code, .string text, .int .i64 n, ls]

theorem info_text : (Try.prog.info? 9).map (fun i => (i.zero, i.size, i.bytes)) = some (some (.string ⟨#[]⟩), 1, 16) := by kernel_rfl
theorem faultA (k : Nat) : replyFault (k : Int) ⟨#[]⟩ 0 [] = if 13 < k then 3 else 0 := by
  have e : isTextB ⟨#[]⟩ = true := by decide +kernel
  by_cases h : 13 < k
  · have : (13 : Int) < (k : Int) := by omega
    simp [replyFault, h, this]
  · have : ¬ (13 : Int) < (k : Int) := by omega
    have h0 : ¬ (k : Int) < 0 := by omega
    simp [replyFault, h, this, h0, e, anyB, isCountB]
theorem faultB (k : Nat) : replyFault 0 (zeros k) 0 [] = if 20 < k then 1 else 0 := by
  have sz := size_zeros k
  by_cases h : 20 < k
  · simp [replyFault, isTextB, sz, h]
  · simp [replyFault, isTextB, sz, h, anyB, isCountB]
theorem faultC (k : Nat) : replyFault 0 ⟨#[]⟩ 0 (List.replicate k ⟨#[]⟩) = if 20 < k then 1 else 0 := by
  have e : isTextB ⟨#[]⟩ = true := by decide +kernel
  have ew : anyB wrongI (List.replicate k (⟨#[]⟩ : ByteArray)) = false := by
    unfold anyB
    rw [List.any_eq_false]
    intro x hx
    rw [List.eq_of_mem_replicate hx]
    simp [wrongI, e]
  by_cases h : 20 < k
  · simp [replyFault, h]
  · simp [replyFault, h, e, ew, isCountB]
theorem faultD (q : Nat) (h : q < 3) : replyFault 0 ⟨#[]⟩ (1099511627776 + (q : Int) - 1) [] = if q = 2 then 2 else 0 := by
  have hq : q = 0 ∨ q = 1 ∨ q = 2 := by omega
  rcases hq with rfl | rfl | rfl <;> decide +kernel

set_option maxHeartbeats 4000000 in
theorem walk0 (n m : Int) (w : World) (bn : -9223372036854775808 ≤ n ∧ n ≤ 9223372036854775807) (bm : -9223372036854775808 ≤ m ∧ m ≤ 9223372036854775807) :
    Calls Try.prog 11 #[.int .i64 n, .int .i64 m] w fun e w' => e = .returned (.bool true) ∧ Below w.heap.size w w' := by
  have hp := fun W => picked_any n 30 W bn.1 bn.2 (by omega) (by omega)
  have lk := pickedN_lt n (show 0 < 30 by omega)
  generalize pickedN n 30 = k at hp lk
  have HP : Hid (∀ W, Calls Try.prog 17 #[.int .i64 n, .int .i64 30] W fun e w' => e = .returned (.int .i64 (k : Nat)) ∧ W = w') := hp
  have hq := fun W => picked_any m 3 W bm.1 bm.2 (by omega) (by omega)
  have lq := pickedN_lt m (show 0 < 3 by omega)
  generalize pickedN m 3 = q at hq lq
  have HQ : Hid (∀ W, Calls Try.prog 17 #[.int .i64 m, .int .i64 3] W fun e w' => e = .returned (.int .i64 (q : Nat)) ∧ W = w') := hq
  clear hp hq bn bm
  go_enter Try.func11, Try.ntmps11
  go_wp2_with fail
  refine (HP.out _).mono ?_
  rintro e w1 ⟨rfl, rfl⟩
  have hA := fun W => checkReply_any (k : Int) ⟨#[]⟩ 0 (.slice none 0 0) [] W (RowAt.nil _ _ _)
  rw [faultA] at hA
  generalize hAA : (if 13 < k then (3 : Int) else 0) = A at hA
  have HA : Hid (∀ W, Calls Try.prog 21 #[repA (k : Int) ⟨#[]⟩ 0 (.slice none 0 0)] W fun e w' => e = .returned (.int .i64 A) ∧ Below W.heap.size W w') := hA
  have HAA : Hid ((if 13 < k then (3 : Int) else 0) = A) := hAA
  have hB := fun W => checkReply_any 0 (zeros k) 0 (.slice none 0 0) [] W (RowAt.nil _ _ _)
  rw [faultB] at hB
  generalize hBB : (if 20 < k then (1 : Int) else 0) = B at hB
  have HB : Hid (∀ W, Calls Try.prog 21 #[repA 0 (zeros k) 0 (.slice none 0 0)] W fun e w' => e = .returned (.int .i64 B) ∧ Below W.heap.size W w') := hB
  have HBB : Hid ((if 20 < k then (1 : Int) else 0) = B) := hBB
  clear hA hB hAA hBB
  go_wp2_with fail
  refine (HA.out _).mono ?_
  rintro e w1 ⟨rfl, hb1⟩
  have hmk := run_make_row' (P := Try.prog) 36 5 (.int .u8 0) 1 Try.underlying36 info_u8 rfl .i64 .i64 k (by omega) (by omega)
  have hcv := run_zeros k (w1.alloc (.cells (madeCells #[.int .u8 0] k) 5)) w1.heap.size k (fun j hj => made_cell w1 k j _ hj)
  have hB1 := hb1.alloc hb1.size (.cells (madeCells #[.int .u8 0] k) 5)
  go_wp2_with fail
  refine (HB.out _).mono ?_
  rintro e w2 ⟨rfl, hb2⟩
  have hB2 := bstep hB1 hb2
  clear hmk hcv hb1 hb2 hB1
  have hms := run_make_row' (P := Try.prog) 23 9 (.string ⟨#[]⟩) 16 Try.underlying23 info_text rfl .i64 .i64 k (by omega) (by omega)
  have hrow : RowAt 1 encI (w2.alloc (.cells (madeCells #[.string ⟨#[]⟩] k) 9)) (.slice (some ⟨w2.heap.size, 0, none⟩) k k) (List.replicate k ⟨#[]⟩) := by
    refine ⟨by simp; omega, _, k, by simp, by simp, by omega, .inr ⟨w2.heap.size, 0, rfl, by simp, fun i hi c hc => ?_⟩⟩
    have hi' : i < k := by simpa using hi
    obtain rfl : c = 0 := by omega
    rw [show 0 + i * 1 + 0 = i by omega, made_text w2 k i _ hi']
    simp [encI]
  have hC := checkReply_any 0 ⟨#[]⟩ 0 _ _ _ hrow
  rw [faultC, HBB.out] at hC
  have hB3 := hB2.alloc hB2.size (.cells (madeCells #[.string ⟨#[]⟩] k) 9)
  clear hrow
  go_wp2_with fail
  refine hC.mono ?_
  rintro e w3 ⟨rfl, hb3⟩
  have hB4 := bstep hB3 hb3
  clear hb3 hB3 hms hC hB2
  go_wp2_with fail
  refine (HQ.out _).mono ?_
  rintro e w4 ⟨rfl, rfl⟩
  go_wp2_with fail
  have hD := checkReply_any 0 ⟨#[]⟩ (1099511627776 + (q : Int) - 1) (.slice none 0 0) [] w3 (RowAt.nil _ _ _)
  rw [faultD q lq] at hD
  refine hD.mono ?_
  rintro e w5 ⟨rfl, hb5⟩
  have hB5 := bstep hB4 hb5
  clear hb5 hB4 hD
  have hAB : (k ≤ 13 ∧ A = 0 ∧ B = 0) ∨ ((13 < k ∧ k ≤ 20) ∧ A = 3 ∧ B = 0) ∨ (20 < k ∧ A = 3 ∧ B = 1) := by
    rw [← HAA.out, ← HBB.out]
    by_cases h1 : 13 < k
    · by_cases h2 : 20 < k
      · exact .inr (.inr ⟨h2, if_pos h1, if_pos h2⟩)
      · exact .inr (.inl ⟨⟨h1, by omega⟩, if_pos h1, if_neg h2⟩)
    · exact .inl ⟨by omega, if_neg h1, if_neg (by omega)⟩
  have hq : q = 0 ∨ q = 1 ∨ q = 2 := by omega
  clear HA HB HAA HBB HP
  rcases hAB with ⟨h, rfl, rfl⟩ | ⟨h, rfl, rfl⟩ | ⟨h, rfl, rfl⟩ <;> rcases hq with rfl | rfl | rfl
  all_goals
    go_wp2_with fail
    refine (HQ.out _).mono ?_
    rintro e w6 ⟨rfl, rfl⟩
    go_wp2_with fail
    go_ret
    exact ⟨ret_bool (by first | rfl | (simp; omega)), hB5⟩
theorem walk (v0 v1 : Value) (w : World) (h0 : IsInt v0) (h1 : IsInt v1) :
    Calls Try.prog 11 #[v0, v1] w fun e w' => e = .returned (.bool true) ∧ Below w.heap.size w w' := by
  obtain ⟨a, rfl, a1, a2⟩ := h0
  obtain ⟨b, rfl, b1, b2⟩ := h1
  exact walk0 a b w ⟨a1, a2⟩ ⟨b1, b2⟩

theorem own : ownKnob Try.prog.godebug = none := by kernel_rfl
theorem laidOut : laidOutB Try.prog = true := by kernel_rfl

set_option maxRecDepth 100000 in
theorem lifted (os : Os) (started : os.Started) (H : Type) (enc : TypeId × Value → H) :
    ReturnsInHanded {} Try.checked os 11 .any (Rows.replyBadSpec.pre6 enc Try.prog Try.f11 Rows.replyBadRow.domain false) (Rows.replyBadSpec.post enc Try.prog Try.f11 false true false false) := by
  refine returnsInHanded_of_change (C := Try.checked) own started (by kernel_rfl) Try.func11
    (ChangeSpec.witness6 (enc := enc) (C := Try.checked) false ⟨#[], #[.int .i64 0, .int .i64 0], []⟩ 8 (by kernel_rfl) (by kernel_rfl) (by kernel_rfl) (by kernel_rfl)) ?_
  intro W base args ds gs before hval0 hW hcnd _
  have hval : ∀ (j : Nat) t v, Try.f11.params[j]? = some t → args[j]? = some v → Value.okWide Try.prog W .any base t v := hval0
  have hW' := hW
  obtain ⟨p, q, hA0, hV, rfl, hfz, hnd⟩ := hW
  have hA : DataW.TrodAll enc Try.prog W 0 (fun _ => true) true Try.f11.params.toList args.toList ds p := hA0
  rw [Try.params11] at hA hval
  obtain ⟨v0, vs0, d0, ds0, p0, q0, hargs, rfl, rfl, h0, r0⟩ := trodAll_cons hA
  obtain ⟨v1, vs1, d1, ds1, p1, q1, rfl, rfl, rfl, h1, r1⟩ := trodAll_cons r0
  obtain ⟨rfl, rfl, rfl⟩ := trodAll_nil r1
  obtain rfl : args = #[v0, v1] := by cases args; simp_all
  obtain ⟨rfl, rfl⟩ := trodVars_none hV
  have lt0 : ∀ x ∈ p0, x.block < W.heap.size := by obtain ⟨m, hm⟩ := h0; exact DataW.trod_lt m _ _ _ hm
  have g0 := shape_int (hval 0 3 v0 rfl rfl) h0
  have lt1 : ∀ x ∈ p1, x.block < W.heap.size := by obtain ⟨m, hm⟩ := h1; exact DataW.trod_lt m _ _ _ hm
  have g1 := shape_int (hval 1 3 v1 rfl rfl) h1
  clear hA0 hval0
  refine (walk v0 v1 W g0 g1).mono fun e W' ⟨he, bel⟩ => ?_
  subst he
  exact ⟨_, rfl, _, _, _, [], _, [], hW', trodAll_mk1 (shut_bool Try.underlying4 _), (trodAll_cons_mk (Below.trod laidOut (by kernel_rfl) (of_decide_eq_true (by kernel_rfl)) h0 bel lt0) (trodAll_cons_mk (Below.trod laidOut (by kernel_rfl) (of_decide_eq_true (by kernel_rfl)) h1 bel lt1) trodAll_mk0)), rfl, bel.frame _, fun h => by cases h⟩

theorem over : Rows.replyBadRow.holds Try.pinned (OpenSpec.ofChange Rows.replyBadSpec) :=
  OpenClaim.holds_of_wide 11 Try.f11 rfl rfl rfl rfl rfl rfl rfl ⟨rfl, rfl, rfl, rfl, rfl⟩ rfl rfl rfl rfl rfl (by kernel_rfl) Try.func11 (by kernel_rfl)
    (of_decide_eq_true (by kernel_rfl)) (by unfold Func.isWrapper; first | (rw [if_pos (by decide +kernel)]; kernel_rfl) | (rw [if_neg (by decide +kernel)]; exact ⟨rfl, rfl⟩))
    (fun os started H enc _ => lifted os started H enc)

end Go.Proofs.Ytahnfhofafjjmaa.replyBadDone
namespace Go.Proofs.Ytahnfhofafjjmaa
theorem ReplyBad_holds : Rows.ReplyBadSaid := replyBadDone.over
end Go.Proofs.Ytahnfhofafjjmaa
