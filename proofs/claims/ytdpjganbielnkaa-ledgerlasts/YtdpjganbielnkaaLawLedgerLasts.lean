/- For every log, the program's last place of it is what the document's answer says: the law returns true, and the log reads as it did. No condition. -/
import Derived.Test.YtdpjganbielnkaaGf
import Derived.Test.YtdpjganbielnkaaHe
import Derived.Test.YtdpjganbielnkaaOk
namespace Go.Proofs.Ytdpjganbielnkaa.ledgerLastsDone
open Go.ChangeShapes Go.WideShapes Go.ChangeAt Go.RowKit
open Go.Proofs.Ytdpjganbielnkaa
set_option linter.unusedVariables false
set_option maxRecDepth 100000

set_option maxHeartbeats 8000000 in
theorem walk0 (b t : Int) (s : Value) (l : List Itm) (w : World) (hr : RowI w s l) (hb : l.length * 104 ≤ 140737488355328) :
    Calls Try.prog 4 #[logV b t s] w fun e w' => e = .returned (.bool true) ∧ Below w.heap.size w w' := by
  have HC : Hid (∀ W, Below w.heap.size w W → Calls Try.prog 24 #[logV b t s] W fun e w' => ∃ r, e = .returned (logV b t r) ∧ OwnI W.heap.size w' r l ∧ Below W.heap.size W w') := fun W hW => logCopy_any b t s l W (hr.below hW) hb
  obtain ⟨L, T, E, hA, hB⟩ : ∃ L T E : Int, (∀ W r, RowI W r l → Calls Try.prog 26 #[logV b t r] W fun e w' => e = .returned (.tuple #[.int .i64 L, .int .i64 T, .int .i64 E]) ∧ Below W.heap.size W w') ∧
      (∀ W, Below w.heap.size w W → Calls Try.prog 27 #[logV b t s] W fun e w' => e = .returned (.tuple #[.int .i64 L, .int .i64 T, .int .i64 E]) ∧ Below W.heap.size W w') := by
    cases hk : Lg.okB ⟨b, t, l⟩ with
    | false => exact ⟨0, 0, 13, fun W r h => last_bad ⟨b, t, l⟩ r W h hk, fun W hW => refLast_bad ⟨b, t, l⟩ s W (hr.below hW) hk⟩
    | true => exact ⟨_, _, 0, fun W r h => last_ok ⟨b, t, l⟩ r W h hk, fun W hW => refLast_ok ⟨b, t, l⟩ s W (hr.below hW) hk⟩
  have HK : Hid (∀ W r, RowI W r l → Calls Try.prog 26 #[logV b t r] W fun e w' => e = .returned (.tuple #[.int .i64 L, .int .i64 T, .int .i64 E]) ∧ Below W.heap.size W w') := hA
  have HF : Hid (∀ W, Below w.heap.size w W → Calls Try.prog 27 #[logV b t s] W fun e w' => e = .returned (.tuple #[.int .i64 L, .int .i64 T, .int .i64 E]) ∧ Below W.heap.size W w') := hB
  clear hA hB
  have hl : l.length ≤ 140737488355328 := hr.1
  clear hr
  go_enter Try.func4, Try.ntmps4
  go_wp2_with fail
  refine (HC.out _ (balloc _ _)).mono ?_
  rintro e w1 ⟨r, rfl, hown, hb1⟩
  have hB1 := bstep (balloc _ _) hb1
  obtain ⟨d1, e1⟩ := same_block (hb1.block w.heap.size (by simp))
  have hz1 : w.heap.size < w1.heap.size := Nat.lt_of_lt_of_le (by simp) hb1.size
  have hrow := hown.row hl
  clear HC hb1 hown
  go_wp2_with fail
  refine (HK.out _ _ hrow).mono ?_
  rintro e w2 ⟨rfl, hb2⟩
  have hB2 := bstep hB1 hb2
  obtain ⟨d2, e2⟩ := same_block (hb2.block w.heap.size hz1)
  have hz2 : w.heap.size < w2.heap.size := Nat.lt_of_lt_of_le hz1 hb2.size
  clear HK hb2 hrow
  go_wp2_with fail
  refine (HF.out _ hB2).mono ?_
  rintro e w3 ⟨rfl, hb3⟩
  have hB3 := bstep hB2 hb3
  go_wp2_with fail
  go_ret
  exact ⟨ret_bool (by simp), hB3⟩

theorem walk (v0 : Value) (w : World) (h0 : IsLog w v0) :
    Calls Try.prog 4 #[v0] w fun e w' => e = .returned (.bool true) ∧ Below w.heap.size w w' := by
  obtain ⟨b, t, s, l, rfl, k1, k2⟩ := h0
  exact walk0 b t s l w k1 (Nat.le_trans k2 (by decide))

theorem own : ownKnob Try.prog.godebug = none := by kernel_rfl
theorem laidOut : laidOutB Try.prog = true := by kernel_rfl

set_option maxRecDepth 100000 in
theorem lifted (os : Os) (started : os.Started) (H : Type) (enc : TypeId × Value → H) :
    ReturnsInHanded {} Try.checked os 4 .any (Rows.ledgerLastsSpec.pre6 enc Try.prog Try.f4 Rows.ledgerLastsRow.domain false) (Rows.ledgerLastsSpec.post enc Try.prog Try.f4 false true false false) := by
  refine returnsInHanded_of_change_sized (C := Try.checked) own started (by kernel_rfl) Try.func4
    (ChangeSpec.witness6 (enc := enc) (C := Try.checked) false ⟨#[], #[.agg #[.int .i64 0, .int .i64 0, .slice none 0 0]], []⟩ 8 (by kernel_rfl) (by kernel_rfl) (by kernel_rfl) (by kernel_rfl)) ?_
  intro W base args ds gs before hval0 hW hcnd hsz _
  have hval : ∀ (j : Nat) t v, Try.f4.params[j]? = some t → args[j]? = some v → Value.okWide Try.prog W .any base t v := hval0
  have hW' := hW
  obtain ⟨p, q, hA0, hV, rfl, hfz, hnd⟩ := hW
  have hA : DataW.TrodAll enc Try.prog W 0 (fun _ => true) true Try.f4.params.toList args.toList ds p := hA0
  rw [Try.params4] at hA hval
  obtain ⟨v0, vs0, d0, ds0, p0, q0, hargs, rfl, rfl, h0, r0⟩ := trodAll_cons hA
  obtain ⟨rfl, rfl, rfl⟩ := trodAll_nil r0
  obtain rfl : args = #[v0] := by cases args; simp_all
  obtain ⟨rfl, rfl⟩ := trodVars_none hV
  have lt0 : ∀ x ∈ p0, x.block < W.heap.size := by obtain ⟨m, hm⟩ := h0; exact DataW.trod_lt m _ _ _ hm
  have g0 := shape_log (hval 0 24 v0 rfl rfl) h0 (fun n hn => of_decide_eq_true (List.all_eq_true.1 hsz n (DataW.weights_mem_each (j := 0) rfl rfl n hn)))
  clear hA0 hval0
  refine (walk v0 W g0).mono fun e W' ⟨he, bel⟩ => ?_
  subst he
  exact ⟨_, rfl, _, _, _, [], _, [], hW', trodAll_mk1 (shut_bool Try.underlying4 _), (trodAll_cons_mk (Below.trod laidOut (by kernel_rfl) (of_decide_eq_true (by kernel_rfl)) h0 bel lt0) trodAll_mk0), rfl, bel.frame _, fun h => by cases h⟩

theorem over : Rows.ledgerLastsRow.holds Try.pinned (OpenSpec.ofChange Rows.ledgerLastsSpec) :=
  OpenClaim.holds_of_wide 4 Try.f4 rfl rfl rfl rfl rfl rfl rfl ⟨rfl, rfl, rfl, rfl, rfl⟩ rfl rfl rfl rfl rfl (by kernel_rfl) Try.func4 (by kernel_rfl)
    (of_decide_eq_true (by kernel_rfl)) (by unfold Func.isWrapper; first | (rw [if_pos (by decide +kernel)]; kernel_rfl) | (rw [if_neg (by decide +kernel)]; exact ⟨rfl, rfl⟩))
    (fun os started H enc _ => lifted os started H enc)

end Go.Proofs.Ytdpjganbielnkaa.ledgerLastsDone
namespace Go.Proofs.Ytdpjganbielnkaa
theorem LedgerLasts_holds : Rows.LedgerLastsSaid := ledgerLastsDone.over
end Go.Proofs.Ytdpjganbielnkaa
