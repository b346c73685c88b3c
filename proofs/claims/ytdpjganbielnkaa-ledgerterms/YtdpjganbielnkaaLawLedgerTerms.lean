/- For every log and every place, the program's term there is what the document's answer says: the law returns true, and the log reads as it did. No condition. -/
import Derived.Test.YtdpjganbielnkaaGf
import Derived.Test.YtdpjganbielnkaaHe
import Derived.Test.YtdpjganbielnkaaOk
namespace Go.Proofs.Ytdpjganbielnkaa.ledgerTermsDone
open Go.ChangeShapes Go.WideShapes Go.ChangeAt Go.RowKit
open Go.Proofs.Ytdpjganbielnkaa
set_option linter.unusedVariables false
set_option maxRecDepth 100000

set_option maxHeartbeats 8000000 in
theorem walk0 (b t : Int) (s : Value) (l : List Itm) (x : Int) (w : World) (hr : RowI w s l) (hb : l.length * 104 ≤ 140737488355328) :
    Calls Try.prog 5 #[logV b t s, .int .i64 x] w fun e w' => e = .returned (.bool true) ∧ Below w.heap.size w w' := by
  have HC : Hid (∀ W, Below w.heap.size w W → Calls Try.prog 24 #[logV b t s] W fun e w' => ∃ r, e = .returned (logV b t r) ∧ OwnI W.heap.size w' r l ∧ Below W.heap.size W w') := fun W hW => logCopy_any b t s l W (hr.below hW) hb
  have hA := fun W r (h : RowI W r l) => term_any ⟨b, t, l⟩ r x W h
  have hB := fun W (hW : Below w.heap.size w W) => termOf_any ⟨b, t, l⟩ s x W (hr.below hW)
  generalize Lg.termR ⟨b, t, l⟩ x = q at hA hB
  obtain ⟨q1, q2⟩ := q
  have HK : Hid (∀ W r, RowI W r l → Calls Try.prog 28 #[logV b t r, .int .i64 x] W fun e w' => e = .returned (.tuple #[.int .i64 q1, .int .i64 q2]) ∧ Below W.heap.size W w') := hA
  have HF : Hid (∀ W, Below w.heap.size w W → Calls Try.prog 29 #[logV b t s, .int .i64 x] W fun e w' => e = .returned (.tuple #[.int .i64 q1, .int .i64 q2]) ∧ Below W.heap.size W w') := hB
  clear hA hB
  have hl : l.length ≤ 140737488355328 := hr.1
  clear hr
  go_enter Try.func5, Try.ntmps5
  go_wp2_with fail
  refine (HC.out _ (balloc _ _)).mono ?_
  rintro e w1 ⟨r, rfl, hown, hb1⟩
  have hB1 := bstep (balloc _ _) hb1
  obtain ⟨d1, e1⟩ := same_block (hb1.block w.heap.size (by simp))
  have hz1 : w.heap.size < w1.heap.size := Nat.lt_of_lt_of_le (by simp) hb1.size
  have hrow := hown.row hl
  clear HC hb1 hown
  go_wp2_with fail
  refine (HK.out _ _ hrow).mono ?_
  rintro e w2 ⟨rfl, hb2⟩
  have hB2 := bstep hB1 hb2
  obtain ⟨d2, e2⟩ := same_block (hb2.block w.heap.size hz1)
  have hz2 : w.heap.size < w2.heap.size := Nat.lt_of_lt_of_le hz1 hb2.size
  clear HK hb2 hrow
  go_wp2_with fail
  refine (HF.out _ hB2).mono ?_
  rintro e w3 ⟨rfl, hb3⟩
  have hB3 := bstep hB2 hb3
  go_wp2_with fail
  go_ret
  exact ⟨ret_bool (by simp), hB3⟩

theorem walk (v0 v1 : Value) (w : World) (h0 : IsLog w v0) (h1 : IsInt v1) :
    Calls Try.prog 5 #[v0, v1] w fun e w' => e = .returned (.bool true) ∧ Below w.heap.size w w' := by
  obtain ⟨b, t, s, l, rfl, k1, k2⟩ := h0
  obtain ⟨x1, rfl, -, -⟩ := h1
  exact walk0 b t s l x1 w k1 (Nat.le_trans k2 (by decide))

theorem own : ownKnob Try.prog.godebug = none := by kernel_rfl
theorem laidOut : laidOutB Try.prog = true := by kernel_rfl

set_option maxRecDepth 100000 in
theorem lifted (os : Os) (started : os.Started) (H : Type) (enc : TypeId × Value → H) :
    ReturnsInHanded {} Try.checked os 5 .any (Rows.ledgerTermsSpec.pre6 enc Try.prog Try.f5 Rows.ledgerTermsRow.domain false) (Rows.ledgerTermsSpec.post enc Try.prog Try.f5 false true false false) := by
  refine returnsInHanded_of_change_sized (C := Try.checked) own started (by kernel_rfl) Try.func5
    (ChangeSpec.witness6 (enc := enc) (C := Try.checked) false ⟨#[], #[.agg #[.int .i64 0, .int .i64 0, .slice none 0 0], .int .i64 0], []⟩ 8 (by kernel_rfl) (by kernel_rfl) (by kernel_rfl) (by kernel_rfl)) ?_
  intro W base args ds gs before hval0 hW hcnd hsz _
  have hval : ∀ (j : Nat) t v, Try.f5.params[j]? = some t → args[j]? = some v → Value.okWide Try.prog W .any base t v := hval0
  have hW' := hW
  obtain ⟨p, q, hA0, hV, rfl, hfz, hnd⟩ := hW
  have hA : DataW.TrodAll enc Try.prog W 0 (fun _ => true) true Try.f5.params.toList args.toList ds p := hA0
  rw [Try.params5] at hA hval
  obtain ⟨v0, vs0, d0, ds0, p0, q0, hargs, rfl, rfl, h0, r0⟩ := trodAll_cons hA
  obtain ⟨v1, vs1, d1, ds1, p1, q1, rfl, rfl, rfl, h1, r1⟩ := trodAll_cons r0
  obtain ⟨rfl, rfl, rfl⟩ := trodAll_nil r1
  obtain rfl : args = #[v0, v1] := by cases args; simp_all
  obtain ⟨rfl, rfl⟩ := trodVars_none hV
  have lt0 : ∀ x ∈ p0, x.block < W.heap.size := by obtain ⟨m, hm⟩ := h0; exact DataW.trod_lt m _ _ _ hm
  have g0 := shape_log (hval 0 24 v0 rfl rfl) h0 (fun n hn => of_decide_eq_true (List.all_eq_true.1 hsz n (DataW.weights_mem_each (j := 0) rfl rfl n hn)))
  have lt1 : ∀ x ∈ p1, x.block < W.heap.size := by obtain ⟨m, hm⟩ := h1; exact DataW.trod_lt m _ _ _ hm
  have g1 := shape_int (hval 1 3 v1 rfl rfl) h1
  clear hA0 hval0
  refine (walk v0 v1 W g0 g1).mono fun e W' ⟨he, bel⟩ => ?_
  subst he
  exact ⟨_, rfl, _, _, _, [], _, [], hW', trodAll_mk1 (shut_bool Try.underlying4 _), (trodAll_cons_mk (Below.trod laidOut (by kernel_rfl) (of_decide_eq_true (by kernel_rfl)) h0 bel lt0) (trodAll_cons_mk (Below.trod laidOut (by kernel_rfl) (of_decide_eq_true (by kernel_rfl)) h1 bel lt1) trodAll_mk0)), rfl, bel.frame _, fun h => by cases h⟩

theorem over : Rows.ledgerTermsRow.holds Try.pinned (OpenSpec.ofChange Rows.ledgerTermsSpec) :=
  OpenClaim.holds_of_wide 5 Try.f5 rfl rfl rfl rfl rfl rfl rfl ⟨rfl, rfl, rfl, rfl, rfl⟩ rfl rfl rfl rfl rfl (by kernel_rfl) Try.func5 (by kernel_rfl)
    (of_decide_eq_true (by kernel_rfl)) (by unfold Func.isWrapper; first | (rw [if_pos (by decide +kernel)]; kernel_rfl) | (rw [if_neg (by decide +kernel)]; exact ⟨rfl, rfl⟩))
    (fun os started H enc _ => lifted os started H enc)

end Go.Proofs.Ytdpjganbielnkaa.ledgerTermsDone
namespace Go.Proofs.Ytdpjganbielnkaa
theorem LedgerTerms_holds : Rows.LedgerTermsSaid := ledgerTermsDone.over
end Go.Proofs.Ytdpjganbielnkaa
