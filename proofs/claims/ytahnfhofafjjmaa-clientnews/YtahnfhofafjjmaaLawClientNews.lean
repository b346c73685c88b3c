/- A new machine is what the document says: nothing in its store, no clients, the next number 1. The law returns true. No condition. -/
import Derived.Test.YtahnfhofafjjmaaDa
import Derived.Test.YtahnfhofafjjmaaOp
namespace Go.Proofs.Ytahnfhofafjjmaa.clientNewsDone
open Go.ChangeShapes Go.WideShapes Go.ChangeAt Go.RowKit
open Go.Proofs.Ytahnfhofafjjmaa

set_option maxHeartbeats 1000000 in
theorem walk (w : World) : Calls Try.prog 9 #[] w fun e w' => e = .returned (.bool true) ∧ Below w.heap.size w w' := by
  go_enter Try.func9, Try.ntmps9
  go_wp2_with fail
  refine (newMachine_any _).mono ?_
  rintro e w1 ⟨rfl, hb1⟩
  go_wp2_with fail
  have hB2 := hb1.alloc hb1.size (.cells #[.int .i64 0, nilV, .int .i64 1, nilV] 55)
  refine (emptyMachine_any _).mono ?_
  rintro e w2 ⟨rfl, hb2⟩
  have hB3 := bstep hB2 hb2
  obtain ⟨hc1, hf1⟩ := blk_same (hb2.block w1.heap.size (by simp))
  have hz := hb2.size
  have hz' : w1.heap.size < w2.heap.size := by simp at hz; omega
  clear hb2 hz
  have hB4 := hB3.alloc hB3.size (.cells #[.int .i64 0, nilV, .int .i64 1, nilV] 55)
  go_wp2_with fail
  refine (sameMachine_nil _).mono ?_
  rintro e w3 ⟨rfl, hb3⟩
  have hB5 := bstep hB4 hb3
  go_wp2_with fail
  go_ret
  exact ⟨rfl, hB5⟩

theorem own : ownKnob Try.prog.godebug = none := by kernel_rfl
theorem laidOut : laidOutB Try.prog = true := by kernel_rfl

set_option maxRecDepth 100000 in
theorem lifted (os : Os) (started : os.Started) (H : Type) (enc : TypeId × Value → H) :
    ReturnsInHanded {} Try.checked os 9 .any (Rows.clientNewsSpec.pre6 enc Try.prog Try.f9 Rows.clientNewsRow.domain false) (Rows.clientNewsSpec.post enc Try.prog Try.f9 false true false false) := by
  refine returnsInHanded_of_change (C := Try.checked) own started (by kernel_rfl) Try.func9
    (ChangeSpec.witness6 (enc := enc) (C := Try.checked) false ⟨#[], #[], []⟩ 8 (by kernel_rfl) (by kernel_rfl) (by kernel_rfl) (by kernel_rfl)) ?_
  intro W base args ds gs before hval0 hW hcnd _
  have hval : ∀ (j : Nat) t v, Try.f9.params[j]? = some t → args[j]? = some v → Value.okWide Try.prog W .any base t v := hval0
  have hW' := hW
  obtain ⟨p, q, hA0, hV, rfl, hfz, hnd⟩ := hW
  have hA : DataW.TrodAll enc Try.prog W 0 (fun _ => true) true Try.f9.params.toList args.toList ds p := hA0
  rw [Try.params9] at hA hval
  obtain ⟨hargs, rfl, rfl⟩ := trodAll_nil hA
  obtain rfl : args = #[] := by cases args; simp_all
  obtain ⟨rfl, rfl⟩ := trodVars_none hV
  clear hA0 hval0
  refine (walk  W ).mono fun e W' ⟨he, bel⟩ => ?_
  subst he
  exact ⟨_, rfl, _, _, _, [], _, [], hW', trodAll_mk1 (shut_bool Try.underlying4 _), trodAll_mk0, rfl, bel.frame _, fun h => by cases h⟩

theorem over : Rows.clientNewsRow.holds Try.pinned (OpenSpec.ofChange Rows.clientNewsSpec) :=
  OpenClaim.holds_of_wide 9 Try.f9 rfl rfl rfl rfl rfl rfl rfl ⟨rfl, rfl, rfl, rfl, rfl⟩ rfl rfl rfl rfl rfl (by kernel_rfl) Try.func9 (by kernel_rfl)
    (of_decide_eq_true (by kernel_rfl)) (by unfold Func.isWrapper; first | (rw [if_pos (by decide +kernel)]; kernel_rfl) | (rw [if_neg (by decide +kernel)]; exact ⟨rfl, rfl⟩))
    (fun os started H enc _ => lifted os started H enc)

end Go.Proofs.Ytahnfhofafjjmaa.clientNewsDone
namespace Go.Proofs.Ytahnfhofafjjmaa
theorem ClientNews_holds : Rows.ClientNewsSaid := clientNewsDone.over
end Go.Proofs.Ytahnfhofafjjmaa
