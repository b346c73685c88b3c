/- For every log and every place, the log without what stands up to the place is what the document's answer says, and the log that was handed over stays as it was: the law returns true, and the log reads as it did. No condition. -/
import Derived.Test.YtdpjganbielnkaaGh
import Derived.Test.YtdpjganbielnkaaHk
import Derived.Test.YtdpjganbielnkaaOk
namespace Go.Proofs.Ytdpjganbielnkaa.ledgerTrimsDone
open Go.ChangeShapes Go.WideShapes Go.ChangeAt Go.RowKit
open Go.Proofs.Ytdpjganbielnkaa
set_option linter.unusedVariables false
set_option maxRecDepth 100000

/-- Both answer the same log, and the same error. -/
theorem both (b t : Int) (s : Value) (l : List Itm) (x : Int) (w : World) (hr : RowI w s l) (hb : l.length ≤ 140737488355328) : ∃ (E p T : Int) (P : List Itm), P.length ≤ 140737488355328 ∧
    (∀ W r, RowI W r l → Calls Try.prog 39 #[logV b t r, .int .i64 x] W fun e w' => ∃ r, e = .returned (.tuple #[logV p T r, .int .i64 E]) ∧ OwnI W.heap.size w' r P ∧ Below W.heap.size W w') ∧
    (∀ W, Below w.heap.size w W → Calls Try.prog 40 #[logV b t s, .int .i64 x] W fun e w' => ∃ r, e = .returned (.tuple #[logV p T r, .int .i64 E]) ∧ OwnI W.heap.size w' r P ∧ Below W.heap.size W w') := by
  by_cases he : Lg.trimE ⟨b, t, l⟩ x = 0
  · have hk : Lg.okB ⟨b, t, l⟩ = true := by
      cases hk : Lg.okB ⟨b, t, l⟩ with
      | true => rfl
      | false => simp [Lg.trimE, hk] at he
    have hp : heldI b (b + l.length) x = 0 := by
      have : Lg.trimE ⟨b, t, l⟩ x = heldI b (b + l.length) x := by simp only [Lg.trimE, hk, if_true]; rfl
      rw [← this]; exact he
    have hpl : b ≤ x ∧ x ≤ b + l.length := by
      unfold heldI at hp
      (repeat' split at hp) <;> omega
    obtain ⟨k, rfl⟩ : ∃ k : Nat, x = b + k := ⟨(x - b).toNat, by omega⟩
    refine ⟨0, b + k, Lg.termAt ⟨b, t, l⟩ (b + k), l.drop k, by simp; omega, fun W r h => trim_ok ⟨b, t, l⟩ r k W h hk (by show k ≤ l.length; omega), fun W hW => trimmed_ok ⟨b, t, l⟩ s k W (hr.below hW) hk (by show k ≤ l.length; omega)⟩
  · refine ⟨Lg.trimE ⟨b, t, l⟩ x, 0, 0, [], by simp, fun W r h => ?_, fun W hW => ?_⟩
    · refine (trim_bad ⟨b, t, l⟩ r x W h he).mono ?_
      rintro e w' ⟨rfl, hb'⟩
      exact ⟨_, rfl, OwnI.nil _ _, hb'⟩
    · refine (trimmed_bad ⟨b, t, l⟩ s x W (hr.below hW) he).mono ?_
      rintro e w' ⟨rfl, hb'⟩
      exact ⟨_, rfl, OwnI.nil _ _, hb'⟩

set_option maxHeartbeats 16000000 in
theorem walk0 (b t : Int) (s : Value) (l : List Itm) (x : Int) (w : World) (hr : RowI w s l) (hb : l.length * 104 ≤ 140737488355328) :
    Calls Try.prog 9 #[logV b t s, .int .i64 x] w fun e w' => e = .returned (.bool true) ∧ Below w.heap.size w w' := by
  have HC : Hid (∀ W, Below w.heap.size w W → Calls Try.prog 24 #[logV b t s] W fun e w' => ∃ r, e = .returned (logV b t r) ∧ OwnI W.heap.size w' r l ∧ Below W.heap.size W w') := fun W hW => logCopy_any b t s l W (hr.below hW) hb
  have hl : l.length ≤ 140737488355328 := hr.1
  obtain ⟨E, p, T, P, hPl, hA, hB⟩ := both b t s l x w hr hl
  have HK : Hid (∀ W r, RowI W r l → Calls Try.prog 39 #[logV b t r, .int .i64 x] W fun e w' => ∃ r, e = .returned (.tuple #[logV p T r, .int .i64 E]) ∧ OwnI W.heap.size w' r P ∧ Below W.heap.size W w') := hA
  have HF : Hid (∀ W, Below w.heap.size w W → Calls Try.prog 40 #[logV b t s, .int .i64 x] W fun e w' => ∃ r, e = .returned (.tuple #[logV p T r, .int .i64 E]) ∧ OwnI W.heap.size w' r P ∧ Below W.heap.size W w') := hB
  have HS : Hid (∀ (W : World) (r r' : Value), RowI W r P → RowI W r' P → Calls Try.prog 38 #[logV p T r, logV p T r'] W fun e w' => e = .returned (.bool true) ∧ Below W.heap.size W w') := fun W r r' h h' => sameLogL p T r r' _ W h h'
  have HS2 : Hid (∀ (W : World) (r : Value), Below w.heap.size w W → RowI W r l → Calls Try.prog 38 #[logV b t r, logV b t s] W fun e w' => e = .returned (.bool true) ∧ Below W.heap.size W w') := fun W r hW h => sameLogL b t r s _ W h (hr.below hW)
  clear hr hA hB
  go_enter Try.func9, Try.ntmps9
  go_wp2_with fail
  refine (HC.out _ (balloc _ _)).mono ?_
  rintro e w1 ⟨r, rfl, hown, hb1⟩
  have hB1 := bstep (balloc _ _) hb1
  have n1 := (hb1.block w.heap.size (by simp)).trans (alloc_at w (logO b t s))
  have hrow := hown.row hl
  obtain ⟨ca, cc, rfl⟩ := hown.shape
  clear HC hb1 hown
  have hz1 := lt_at n1
  go_wp2_with fail
  have m2 := alloc_at w1 (logO b t (.slice ca l.length cc))
  have n2 := ((balloc w1 (logO b t (.slice ca l.length cc))).block _ hz1).trans n1
  have hB2 := hB1.alloc hB1.size (logO b t (.slice ca l.length cc))
  have hrow2 := hrow.below (balloc w1 (logO b t (.slice ca l.length cc)))
  clear hB1 hrow n1 hz1
  generalize w1.alloc (logO b t (.slice ca l.length cc)) = V2 at m2 n2 hB2 hrow2 ⊢
  generalize w1.heap.size = bc at m2 ⊢
  refine (HK.out _ _ hrow2).mono ?_
  rintro e w3 ⟨r3, rfl, hown3, hb3⟩
  have m3 := (hb3.block _ (lt_at m2)).trans m2
  have n3 := (hb3.block _ (lt_at n2)).trans n2
  have hB3 := bstep hB2 hb3
  have hrow3 := hrow2.below hb3
  have hr3 := hown3.row hPl
  obtain ⟨sa, sc, rfl⟩ := hown3.shape
  clear HK hb3 hown3 hB2 hrow2 m2 n2
  have hzc := lt_at m3
  have hz3 := lt_at n3
  obtain ⟨c3, f3⟩ := cellsB n3
  go_wp2_with fail
  have a4 := alloc_at w3 (logO p T (.slice sa P.length sc))
  have m4 := ((balloc w3 (logO p T (.slice sa P.length sc))).block _ hzc).trans m3
  have n4 := ((balloc w3 (logO p T (.slice sa P.length sc))).block _ hz3).trans n3
  have hB4 := hB3.alloc hB3.size (logO p T (.slice sa P.length sc))
  have hrow4 := hrow3.below (balloc w3 (logO p T (.slice sa P.length sc)))
  have hr4 := hr3.below (balloc w3 (logO p T (.slice sa P.length sc)))
  clear hB3 hrow3 hr3 m3 n3 c3 f3 hzc hz3
  generalize w3.alloc (logO p T (.slice sa P.length sc)) = V4 at a4 m4 n4 hB4 hrow4 hr4 ⊢
  generalize w3.heap.size = ba at a4 ⊢
  refine (HF.out _ hB4).mono ?_
  rintro e w5 ⟨r5, rfl, hown5, hb5⟩
  have a5 := (hb5.block _ (lt_at a4)).trans a4
  have m5 := (hb5.block _ (lt_at m4)).trans m4
  have n5 := (hb5.block _ (lt_at n4)).trans n4
  have hB5 := bstep hB4 hb5
  have hrow5 := hrow4.below hb5
  have hr5 := hr4.below hb5
  have hs5 := hown5.row hPl
  obtain ⟨ta, tc, rfl⟩ := hown5.shape
  clear HF hb5 hown5 hB4 hrow4 hr4 a4 m4 n4
  have hza := lt_at a5
  have hzc := lt_at m5
  have hzn := lt_at n5
  obtain ⟨ca5, fa5⟩ := cellsB a5
  go_wp2_with fail
  have d6 := alloc_at w5 (logO p T (.slice ta P.length tc))
  have m6 := ((balloc w5 (logO p T (.slice ta P.length tc))).block _ hzc).trans m5
  have n6 := ((balloc w5 (logO p T (.slice ta P.length tc))).block _ hzn).trans n5
  have hB6 := hB5.alloc hB5.size (logO p T (.slice ta P.length tc))
  have hrow6 := hrow5.below (balloc w5 (logO p T (.slice ta P.length tc)))
  have hr6 := hr5.below (balloc w5 (logO p T (.slice ta P.length tc)))
  have hs6 := hs5.below (balloc w5 (logO p T (.slice ta P.length tc)))
  clear hB5 hrow5 hr5 hs5 a5 m5 n5 ca5 fa5 hza hzc hzn
  generalize w5.alloc (logO p T (.slice ta P.length tc)) = V6 at d6 m6 n6 hB6 hrow6 hr6 hs6 ⊢
  refine (HS.out _ _ _ hr6 hs6).mono ?_
  rintro e w7 ⟨rfl, hb7⟩
  have m7 := (hb7.block _ (lt_at m6)).trans m6
  have n7 := (hb7.block _ (lt_at n6)).trans n6
  have hB7 := bstep hB6 hb7
  have hrow7 := hrow6.below hb7
  clear hb7 hB6 hrow6 m6 n6 d6
  obtain ⟨cm, fm⟩ := cellsB m7
  obtain ⟨cn, fn⟩ := cellsB n7
  go_wp2_with fail
  refine (HS2.out _ _ hB7 hrow7).mono ?_
  rintro e w8 ⟨rfl, hb8⟩
  have hB8 := bstep hB7 hb8
  go_wp2_with fail
  go_ret
  exact ⟨rfl, hB8⟩

theorem walk (v0 v1 : Value) (w : World) (h0 : IsLog w v0) (h1 : IsInt v1) :
    Calls Try.prog 9 #[v0, v1] w fun e w' => e = .returned (.bool true) ∧ Below w.heap.size w w' := by
  obtain ⟨b, t, s, l, rfl, k1, k2⟩ := h0
  obtain ⟨x, rfl, -, -⟩ := h1
  exact walk0 b t s l x w k1 (Nat.le_trans k2 (by decide))

theorem own : ownKnob Try.prog.godebug = none := by kernel_rfl
theorem laidOut : laidOutB Try.prog = true := by kernel_rfl

set_option maxRecDepth 100000 in
theorem lifted (os : Os) (started : os.Started) (H : Type) (enc : TypeId × Value → H) :
    ReturnsInHanded {} Try.checked os 9 .any (Rows.ledgerTrimsSpec.pre6 enc Try.prog Try.f9 Rows.ledgerTrimsRow.domain false) (Rows.ledgerTrimsSpec.post enc Try.prog Try.f9 false true false false) := by
  refine returnsInHanded_of_change_sized (C := Try.checked) own started (by kernel_rfl) Try.func9
    (ChangeSpec.witness6 (enc := enc) (C := Try.checked) false ⟨#[], #[.agg #[.int .i64 0, .int .i64 0, .slice none 0 0], .int .i64 0], []⟩ 8 (by kernel_rfl) (by kernel_rfl) (by kernel_rfl) (by kernel_rfl)) ?_
  intro W base args ds gs before hval0 hW hcnd hsz _
  have hval : ∀ (j : Nat) t v, Try.f9.params[j]? = some t → args[j]? = some v → Value.okWide Try.prog W .any base t v := hval0
  have hW' := hW
  obtain ⟨p, q, hA0, hV, rfl, hfz, hnd⟩ := hW
  have hA : DataW.TrodAll enc Try.prog W 0 (fun _ => true) true Try.f9.params.toList args.toList ds p := hA0
  rw [Try.params9] at hA hval
  obtain ⟨v0, vs0, d0, ds0, p0, q0, hargs, rfl, rfl, h0, r0⟩ := trodAll_cons hA
  obtain ⟨v1, vs1, d1, ds1, p1, q1, rfl, rfl, rfl, h1, r1⟩ := trodAll_cons r0
  obtain ⟨rfl, rfl, rfl⟩ := trodAll_nil r1
  obtain rfl : args = #[v0, v1] := by cases args; simp_all
  obtain ⟨rfl, rfl⟩ := trodVars_none hV
  have lt0 : ∀ x ∈ p0, x.block < W.heap.size := by obtain ⟨m, hm⟩ := h0; exact DataW.trod_lt m _ _ _ hm
  have g0 := shape_log (hval 0 24 v0 rfl rfl) h0 (fun n hn => of_decide_eq_true (List.all_eq_true.1 hsz n (DataW.weights_mem_each (j := 0) rfl rfl n hn)))
  have lt1 : ∀ x ∈ p1, x.block < W.heap.size := by obtain ⟨m, hm⟩ := h1; exact DataW.trod_lt m _ _ _ hm
  have g1 := shape_int (hval 1 3 v1 rfl rfl) h1
  clear hA0 hval0
  refine (walk v0 v1 W g0 g1).mono fun e W' ⟨he, bel⟩ => ?_
  subst he
  exact ⟨_, rfl, _, _, _, [], _, [], hW', trodAll_mk1 (shut_bool Try.underlying4 _), (trodAll_cons_mk (Below.trod laidOut (by kernel_rfl) (of_decide_eq_true (by kernel_rfl)) h0 bel lt0) (trodAll_cons_mk (Below.trod laidOut (by kernel_rfl) (of_decide_eq_true (by kernel_rfl)) h1 bel lt1) trodAll_mk0)), rfl, bel.frame _, fun h => by cases h⟩

theorem over : Rows.ledgerTrimsRow.holds Try.pinned (OpenSpec.ofChange Rows.ledgerTrimsSpec) :=
  OpenClaim.holds_of_wide 9 Try.f9 rfl rfl rfl rfl rfl rfl rfl ⟨rfl, rfl, rfl, rfl, rfl⟩ rfl rfl rfl rfl rfl (by kernel_rfl) Try.func9 (by kernel_rfl)
    (of_decide_eq_true (by kernel_rfl)) (by unfold Func.isWrapper; first | (rw [if_pos (by decide +kernel)]; kernel_rfl) | (rw [if_neg (by decide +kernel)]; exact ⟨rfl, rfl⟩))
    (fun os started H enc _ => lifted os started H enc)

end Go.Proofs.Ytdpjganbielnkaa.ledgerTrimsDone
namespace Go.Proofs.Ytdpjganbielnkaa
theorem LedgerTrims_holds : Rows.LedgerTrimsSaid := ledgerTrimsDone.over
end Go.Proofs.Ytdpjganbielnkaa
