/- For every tape, what Crash answers at every number is what the document's answer says, and the tape that was handed over stays as it was: the law returns true, and the tape reads as it did. No condition. -/
import Derived.Test.YtafkdbogfgffbaaBf
import Derived.Test.YtafkdbogfgffbaaOt
namespace Go.Proofs.Ytafkdbogfgffbaa.tapeCrashesDone
open Go.ChangeShapes Go.WideShapes Go.ChangeAt Go.RowKit
open Go.Proofs.Ytafkdbogfgffbaa
set_option linter.unusedVariables false
set_option maxRecDepth 100000

/-- Both answer the same tape, and the same error. -/
theorem both (s : Value) (l : List UInt8) (y z : Int) (w : World) (hr : RowB w s l) (hz : -9223372036854775808 ≤ z ∧ z ≤ 9223372036854775807) : ∃ (E Y : Int) (P : List UInt8), P.length ≤ 140737488355328 ∧
    (∀ W r, RowB W r l → Calls Try.prog 14 #[tapV r y, .int .i64 z] W fun e w' => ∃ r, e = .returned (.tuple #[tapV r Y, .int .i64 E]) ∧ OwnB W.heap.size w' r P ∧ Below W.heap.size W w') ∧
    (∀ W, Below w.heap.size w W → Calls Try.prog 15 #[tapV s y, .int .i64 z] W fun e w' => ∃ r, e = .returned (.tuple #[tapV r Y, .int .i64 E]) ∧ OwnB W.heap.size w' r P ∧ Below W.heap.size W w') := by
  have hl := hr.1
  cases hk : tapB l.length y with
  | true =>
    by_cases h0 : z < 0
    · refine ⟨2, 0, [], by simp, fun W r h => ?_, fun W hW => ?_⟩
      · refine (crash_neg r l y z W h hk h0).mono ?_
        rintro e w' ⟨rfl, hb'⟩
        exact ⟨_, rfl, OwnB.nil _ _, hb'⟩
      · refine (crashed_neg s l y z W (hr.below hW) hk h0).mono ?_
        rintro e w' ⟨rfl, hb'⟩
        exact ⟨_, rfl, OwnB.nil _ _, hb'⟩
    · exact ⟨0, _, _, by simp; omega, fun W r h => crash_ok r l y z W h hk (by omega) hz.2, fun W hW => crashed_ok s l y z W (hr.below hW) hk (by omega) hz.2⟩
  | false =>
    refine ⟨13, 0, [], by simp, fun W r h => ?_, fun W hW => ?_⟩
    · obtain ⟨a, c, rfl⟩ := h.shape
      refine (crash_bad a l.length c y z W hk).mono ?_
      rintro e w' ⟨rfl, hb'⟩
      exact ⟨_, rfl, OwnB.nil _ _, hb'⟩
    · obtain ⟨a, c, rfl⟩ := hr.shape
      refine (crashed_bad a l.length c y z W hk).mono ?_
      rintro e w' ⟨rfl, hb'⟩
      exact ⟨_, rfl, OwnB.nil _ _, hb'⟩

set_option maxHeartbeats 16000000 in
theorem walk0 (s : Value) (l : List UInt8) (y z : Int) (w : World) (hr : RowB w s l) (hz : -9223372036854775808 ≤ z ∧ z ≤ 9223372036854775807) :
    Calls Try.prog 5 #[tapV s y, .int .i64 z] w fun e w' => e = .returned (.bool true) ∧ Below w.heap.size w w' := by
  have HC : Hid (∀ W, Below w.heap.size w W → Calls Try.prog 10 #[tapV s y] W fun e w' => ∃ r, e = .returned (tapV r y) ∧ OwnB W.heap.size w' r l ∧ Below W.heap.size W w') := fun W hW => tapes_any s l y W (hr.below hW)
  have hl : l.length ≤ 140737488355328 := hr.1
  obtain ⟨E, Y, P, hPl, hA, hB⟩ := both s l y z w hr hz
  have HK : Hid (∀ W r, RowB W r l → Calls Try.prog 14 #[tapV r y, .int .i64 z] W fun e w' => ∃ r, e = .returned (.tuple #[tapV r Y, .int .i64 E]) ∧ OwnB W.heap.size w' r P ∧ Below W.heap.size W w') := hA
  have HF : Hid (∀ W, Below w.heap.size w W → Calls Try.prog 15 #[tapV s y, .int .i64 z] W fun e w' => ∃ r, e = .returned (.tuple #[tapV r Y, .int .i64 E]) ∧ OwnB W.heap.size w' r P ∧ Below W.heap.size W w') := hB
  have HS : Hid (∀ (W : World) (r r' : Value), RowB W r P → RowB W r' P → Calls Try.prog 13 #[tapV r Y, tapV r' Y] W fun e w' => e = .returned (.bool true) ∧ Below W.heap.size W w') := fun W r r' h h' => sameTape_any r r' _ Y W h h'
  have HS2 : Hid (∀ (W : World) (r : Value), Below w.heap.size w W → RowB W r l → Calls Try.prog 13 #[tapV r y, tapV s y] W fun e w' => e = .returned (.bool true) ∧ Below W.heap.size W w') := fun W r hW h => sameTape_any r s _ y W h (hr.below hW)
  obtain ⟨a0, c0, rfl⟩ := hr.shape
  clear hr hA hB
  go_enter Try.func5, Try.ntmps5
  go_wp2_with fail
  refine (HC.out _ (balloc _ _)).mono ?_
  rintro e w1 ⟨r, rfl, hown, hb1⟩
  have hB1 := bstep (balloc _ _) hb1
  have n1 := (hb1.block w.heap.size (by simp)).trans (alloc_at w (tapO (.slice a0 l.length c0) y))
  have hrow := hown.row hl
  obtain ⟨ca, cc, rfl⟩ := hown.shape
  clear HC hb1 hown
  have hz1 := lt_at n1
  go_wp2_with fail
  have m2 := alloc_at w1 (tapO (.slice ca l.length cc) y)
  have n2 := ((balloc w1 (tapO (.slice ca l.length cc) y)).block _ hz1).trans n1
  have hB2 := hB1.alloc hB1.size (tapO (.slice ca l.length cc) y)
  have hrow2 := hrow.below (balloc w1 (tapO (.slice ca l.length cc) y))
  clear hB1 hrow n1 hz1
  generalize w1.alloc (tapO (.slice ca l.length cc) y) = V2 at m2 n2 hB2 hrow2 ⊢
  generalize w1.heap.size = bc at m2 ⊢
  refine (HK.out _ _ hrow2).mono ?_
  rintro e w3 ⟨r3, rfl, hown3, hb3⟩
  have m3 := (hb3.block _ (lt_at m2)).trans m2
  have n3 := (hb3.block _ (lt_at n2)).trans n2
  have hB3 := bstep hB2 hb3
  have hrow3 := hrow2.below hb3
  have hr3 := hown3.row hPl
  obtain ⟨sa, sc, rfl⟩ := hown3.shape
  clear HK hb3 hown3 hB2 hrow2 m2 n2
  have hzc := lt_at m3
  have hz3 := lt_at n3
  obtain ⟨c3, f3⟩ := cellsB n3
  go_wp2_with fail
  have a4 := alloc_at w3 (tapO (.slice sa P.length sc) Y)
  have m4 := ((balloc w3 (tapO (.slice sa P.length sc) Y)).block _ hzc).trans m3
  have n4 := ((balloc w3 (tapO (.slice sa P.length sc) Y)).block _ hz3).trans n3
  have hB4 := hB3.alloc hB3.size (tapO (.slice sa P.length sc) Y)
  have hrow4 := hrow3.below (balloc w3 (tapO (.slice sa P.length sc) Y))
  have hr4 := hr3.below (balloc w3 (tapO (.slice sa P.length sc) Y))
  clear hB3 hrow3 hr3 m3 n3 c3 f3 hzc hz3
  generalize w3.alloc (tapO (.slice sa P.length sc) Y) = V4 at a4 m4 n4 hB4 hrow4 hr4 ⊢
  generalize w3.heap.size = ba at a4 ⊢
  refine (HF.out _ hB4).mono ?_
  rintro e w5 ⟨r5, rfl, hown5, hb5⟩
  have a5 := (hb5.block _ (lt_at a4)).trans a4
  have m5 := (hb5.block _ (lt_at m4)).trans m4
  have n5 := (hb5.block _ (lt_at n4)).trans n4
  have hB5 := bstep hB4 hb5
  have hrow5 := hrow4.below hb5
  have hr5 := hr4.below hb5
  have hs5 := hown5.row hPl
  obtain ⟨ta, tc, rfl⟩ := hown5.shape
  clear HF hb5 hown5 hB4 hrow4 hr4 a4 m4 n4
  have hza := lt_at a5
  have hzc := lt_at m5
  have hzn := lt_at n5
  obtain ⟨ca5, fa5⟩ := cellsB a5
  go_wp2_with fail
  have d6 := alloc_at w5 (tapO (.slice ta P.length tc) Y)
  have m6 := ((balloc w5 (tapO (.slice ta P.length tc) Y)).block _ hzc).trans m5
  have n6 := ((balloc w5 (tapO (.slice ta P.length tc) Y)).block _ hzn).trans n5
  have hB6 := hB5.alloc hB5.size (tapO (.slice ta P.length tc) Y)
  have hrow6 := hrow5.below (balloc w5 (tapO (.slice ta P.length tc) Y))
  have hr6 := hr5.below (balloc w5 (tapO (.slice ta P.length tc) Y))
  have hs6 := hs5.below (balloc w5 (tapO (.slice ta P.length tc) Y))
  clear hB5 hrow5 hr5 hs5 a5 m5 n5 ca5 fa5 hza hzc hzn
  generalize w5.alloc (tapO (.slice ta P.length tc) Y) = V6 at d6 m6 n6 hB6 hrow6 hr6 hs6 ⊢
  refine (HS.out _ _ _ hr6 hs6).mono ?_
  rintro e w7 ⟨rfl, hb7⟩
  have m7 := (hb7.block _ (lt_at m6)).trans m6
  have n7 := (hb7.block _ (lt_at n6)).trans n6
  have hB7 := bstep hB6 hb7
  have hrow7 := hrow6.below hb7
  clear hb7 hB6 hrow6 m6 n6 d6
  obtain ⟨cm, fm⟩ := cellsB m7
  obtain ⟨cn, fn⟩ := cellsB n7
  go_wp2_with fail
  refine (HS2.out _ _ hB7 hrow7).mono ?_
  rintro e w8 ⟨rfl, hb8⟩
  have hB8 := bstep hB7 hb8
  go_wp2_with fail
  go_ret
  exact ⟨rfl, hB8⟩

theorem walk (v0 v1 : Value) (w : World) (h0 : IsTape w v0) (h1 : IsInt v1) :
    Calls Try.prog 5 #[v0, v1] w fun e w' => e = .returned (.bool true) ∧ Below w.heap.size w w' := by
  obtain ⟨s, y, l, rfl, k1, -, -⟩ := h0
  obtain ⟨z, rfl, c1, c2⟩ := h1
  exact walk0 s l y z w k1 ⟨c1, c2⟩

theorem own : ownKnob Try.prog.godebug = none := by kernel_rfl
theorem laidOut : laidOutB Try.prog = true := by kernel_rfl

set_option maxRecDepth 100000 in
theorem lifted (os : Os) (started : os.Started) (H : Type) (enc : TypeId × Value → H) :
    ReturnsInHanded {} Try.checked os 5 .any (Rows.tapeCrashesSpec.pre6 enc Try.prog Try.f5 Rows.tapeCrashesRow.domain false) (Rows.tapeCrashesSpec.post enc Try.prog Try.f5 false true false false) := by
  refine returnsInHanded_of_change_sized (C := Try.checked) own started (by kernel_rfl) Try.func5
    (ChangeSpec.witness6 (enc := enc) (C := Try.checked) false ⟨#[], #[.agg #[.slice none 0 0, .int .i64 0], .int .i64 0], []⟩ 8 (by kernel_rfl) (by kernel_rfl) (by kernel_rfl) (by kernel_rfl)) ?_
  intro W base args ds gs before hval0 hW hcnd hsz _
  have hval : ∀ (j : Nat) t v, Try.f5.params[j]? = some t → args[j]? = some v → Value.okWide Try.prog W .any base t v := hval0
  have hW' := hW
  obtain ⟨p, q, hA0, hV, rfl, hfz, hnd⟩ := hW
  have hA : DataW.TrodAll enc Try.prog W 0 (fun _ => true) true Try.f5.params.toList args.toList ds p := hA0
  rw [Try.params5] at hA hval
  obtain ⟨v0, vs0, d0, ds0, p0, q0, hargs, rfl, rfl, h0, r0⟩ := trodAll_cons hA
  obtain ⟨v1, vs1, d1, ds1, p1, q1, rfl, rfl, rfl, h1, r1⟩ := trodAll_cons r0
  obtain ⟨rfl, rfl, rfl⟩ := trodAll_nil r1
  obtain rfl : args = #[v0, v1] := by cases args; simp_all
  obtain ⟨rfl, rfl⟩ := trodVars_none hV
  have lt0 : ∀ x ∈ p0, x.block < W.heap.size := by obtain ⟨m, hm⟩ := h0; exact DataW.trod_lt m _ _ _ hm
  have g0 := shape_tape (hval 0 36 v0 rfl rfl) h0 (fun n hn => of_decide_eq_true (List.all_eq_true.1 hsz n (DataW.weights_mem_each (j := 0) rfl rfl n hn)))
  have lt1 : ∀ x ∈ p1, x.block < W.heap.size := by obtain ⟨m, hm⟩ := h1; exact DataW.trod_lt m _ _ _ hm
  have g1 := shape_int (hval 1 3 v1 rfl rfl) h1
  clear hA0 hval0
  refine (walk v0 v1 W g0 g1).mono fun e W' ⟨he, bel⟩ => ?_
  subst he
  exact ⟨_, rfl, _, _, _, [], _, [], hW', trodAll_mk1 (shut_bool Try.underlying4 _), (trodAll_cons_mk (Below.trod laidOut (by kernel_rfl) (of_decide_eq_true (by kernel_rfl)) h0 bel lt0) (trodAll_cons_mk (Below.trod laidOut (by kernel_rfl) (of_decide_eq_true (by kernel_rfl)) h1 bel lt1) trodAll_mk0)), rfl, bel.frame _, fun h => by cases h⟩

theorem over : Rows.tapeCrashesRow.holds Try.pinned (OpenSpec.ofChange Rows.tapeCrashesSpec) :=
  OpenClaim.holds_of_wide 5 Try.f5 rfl rfl rfl rfl rfl rfl rfl ⟨rfl, rfl, rfl, rfl, rfl⟩ rfl rfl rfl rfl rfl (by kernel_rfl) Try.func5 (by kernel_rfl)
    (of_decide_eq_true (by kernel_rfl)) (by unfold Func.isWrapper; first | (rw [if_pos (by decide +kernel)]; kernel_rfl) | (rw [if_neg (by decide +kernel)]; exact ⟨rfl, rfl⟩))
    (fun os started H enc _ => lifted os started H enc)

end Go.Proofs.Ytafkdbogfgffbaa.tapeCrashesDone
namespace Go.Proofs.Ytafkdbogfgffbaa
theorem TapeCrashes_holds : Rows.TapeCrashesSaid := tapeCrashesDone.over
end Go.Proofs.Ytafkdbogfgffbaa
