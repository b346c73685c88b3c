/- A new disk is what the document says: no term, a vote for nobody, a snap at 0 with a new machine, an empty log. The law returns true. No condition. -/
import Derived.Test.YtafkdbogfgffbaaDn
import Derived.ProofKit
import Derived.OpenShut
import Derived.ShutString
import Derived.ChangeOld
import Derived.Below
import Derived.Carry
namespace Go.Proofs.Ytafkdbogfgffbaa.tapeNewsDone
open Go.ChangeShapes Go.WideShapes Go.ChangeAt Go.RowKit
open Go.Proofs.Ytafkdbogfgffbaa
set_option linter.unusedVariables false
set_option maxRecDepth 100000

abbrev diskV : Value := .agg #[.int .i64 0, .int .i64 (-1), .int .i64 0, .int .i64 0, .int .i64 0, nilV, .int .i64 1, nilV, .int .i64 0, .int .i64 0, nilV]
abbrev diskO : Obj := .cells #[.int .i64 0, .int .i64 (-1), .int .i64 0, .int .i64 0, .int .i64 0, nilV, .int .i64 1, nilV, .int .i64 0, .int .i64 0, nilV] 48
abbrev zeroD : Obj := .cells #[.int .i64 0, .int .i64 0, .int .i64 0, .int .i64 0, .int .i64 0, nilV, .int .i64 0, nilV, .int .i64 0, .int .i64 0, nilV] 48
abbrev snapV : Value := .agg #[.int .i64 0, .int .i64 0, .int .i64 0, nilV, .int .i64 1, nilV]
abbrev logZ : Value := .agg #[.int .i64 0, .int .i64 0, nilV]

set_option maxHeartbeats 1000000 in
theorem sameItems_nil (w : World) : Calls Try.prog 46 #[nilV, nilV] w fun e w' => e = .returned (.bool true) ∧ Below w.heap.size w w' := by
  go_enter Try.func46, Try.ntmps46
  go_wp2
  go_loop [5] (fun i => i = .int .i64 0) (fun _ => 0)
  case atStart => exact rfl
  case round =>
    subst hrel
    go_wp2
    go_ret
    exact ⟨rfl, Below.refl _ _⟩
set_option maxHeartbeats 1000000 in
theorem sameLog_nil (w : World) : Calls Try.prog 32 #[logZ, logZ] w fun e w' => e = .returned (.bool true) ∧ Below w.heap.size w w' := by
  have hb0 := (balloc w (.cells #[.int .i64 0, .int .i64 0, nilV] 46)).alloc (by simp) (.cells #[.int .i64 0, .int .i64 0, nilV] 46)
  go_enter Try.func32, Try.ntmps32
  go_wp2_with fail
  refine (sameItems_nil _).mono ?_
  rintro e w1 ⟨rfl, hb1⟩
  have hB1 := bstep hb0 hb1
  go_wp2_with fail
  go_ret
  exact ⟨rfl, hB1⟩
set_option maxHeartbeats 1000000 in
theorem sameSnap_nil (w : World) : Calls Try.prog 31 #[snapV, snapV] w fun e w' => e = .returned (.bool true) ∧ Below w.heap.size w w' := by
  have hb0 := (balloc w (.cells #[.int .i64 0, .int .i64 0, .int .i64 0, nilV, .int .i64 1, nilV] 29)).alloc (by simp) (.cells #[.int .i64 0, .int .i64 0, .int .i64 0, nilV, .int .i64 1, nilV] 29)
  go_enter Try.func31, Try.ntmps31
  go_wp2_with fail
  refine (sameMachine_nil _).mono ?_
  rintro e w1 ⟨rfl, hb1⟩
  have hB1 := bstep hb0 hb1
  go_wp2_with fail
  go_ret
  exact ⟨rfl, hB1⟩
set_option maxHeartbeats 1000000 in
theorem tapeNew_any (w : World) : Calls Try.prog 16 #[] w fun e w' => e = .returned diskV ∧ Below w.heap.size w w' := by
  go_enter Try.func16, Try.ntmps16
  go_wp2_with fail
  refine (newMachine_any _).mono ?_
  rintro e w1 ⟨rfl, hb1⟩
  have n1 := (hb1.block w.heap.size (by simp)).trans (alloc_at w zeroD)
  have hB1 := bstep (balloc w zeroD) hb1
  obtain ⟨c1, f1⟩ := cellsB n1
  have hz := lt_at n1
  clear hb1 n1
  go_wp2_with fail
  refine bodyPost_ret (v := diskV) (by simp [results, Try.results16, go_sem, c1]) rfl ⟨rfl, ?_⟩
  (repeat (with_reducible first | exact hB1 | refine Below.setCell ?_ ?_ _))
  all_goals (simp)
set_option maxHeartbeats 1000000 in
theorem emptyDisk_any (w : World) : Calls Try.prog 17 #[] w fun e w' => e = .returned diskV ∧ Below w.heap.size w w' := by
  go_enter Try.func17, Try.ntmps17
  go_wp2_with fail
  refine (emptyMachine_any _).mono ?_
  rintro e w1 ⟨rfl, hb1⟩
  have n1 := (hb1.block w.heap.size (by simp)).trans (alloc_at w zeroD)
  have hB1 := bstep (balloc w zeroD) hb1
  obtain ⟨c1, f1⟩ := cellsB n1
  have hz := lt_at n1
  clear hb1 n1
  go_wp2_with fail
  refine bodyPost_ret (v := diskV) (by simp [results, Try.results17, go_sem, c1]) rfl ⟨rfl, ?_⟩
  (repeat (with_reducible first | exact hB1 | refine Below.setCell ?_ ?_ _))
  all_goals (simp)
set_option maxHeartbeats 2000000 in
theorem sameDisk_nil (w : World) : Calls Try.prog 18 #[diskV, diskV] w fun e w' => e = .returned (.bool true) ∧ Below w.heap.size w w' := by
  have hb0 := (balloc w diskO).alloc (by simp) diskO
  go_enter Try.func18, Try.ntmps18
  go_wp2_with fail
  refine (sameSnap_nil _).mono ?_
  rintro e w1 ⟨rfl, hb1⟩
  have hB1 := bstep hb0 hb1
  obtain ⟨hc1, hf1⟩ := blk_same (hb1.block w.heap.size (by simp; omega))
  obtain ⟨hd1, he1⟩ := blk_same (hb1.block (w.heap.size + 1) (by simp))
  clear hb1
  go_wp2_with fail
  refine (sameLog_nil _).mono ?_
  rintro e w2 ⟨rfl, hb2⟩
  have hB2 := bstep hB1 hb2
  go_wp2_with fail
  go_ret
  exact ⟨rfl, hB2⟩
set_option maxHeartbeats 2000000 in
theorem walk (w : World) : Calls Try.prog 6 #[] w fun e w' => e = .returned (.bool true) ∧ Below w.heap.size w w' := by
  go_enter Try.func6, Try.ntmps6
  go_wp2_with fail
  refine (tapeNew_any _).mono ?_
  rintro e w1 ⟨rfl, hb1⟩
  go_wp2_with fail
  have hB2 := hb1.alloc hb1.size diskO
  refine (emptyDisk_any _).mono ?_
  rintro e w2 ⟨rfl, hb2⟩
  have hB3 := bstep hB2 hb2
  obtain ⟨hc1, hf1⟩ := blk_same (hb2.block w1.heap.size (by simp))
  have hz' : w1.heap.size < w2.heap.size := Nat.lt_of_lt_of_le (by simp) hb2.size
  clear hb2
  have hB4 := hB3.alloc hB3.size diskO
  go_wp2_with fail
  refine (sameDisk_nil _).mono ?_
  rintro e w3 ⟨rfl, hb3⟩
  have hB5 := bstep hB4 hb3
  go_wp2_with fail
  go_ret
  exact ⟨rfl, hB5⟩

theorem own : ownKnob Try.prog.godebug = none := by kernel_rfl
theorem laidOut : laidOutB Try.prog = true := by kernel_rfl

set_option maxRecDepth 100000 in
theorem lifted (os : Os) (started : os.Started) (H : Type) (enc : TypeId × Value → H) :
    ReturnsInHanded {} Try.checked os 6 .any (Rows.tapeNewsSpec.pre6 enc Try.prog Try.f6 Rows.tapeNewsRow.domain false) (Rows.tapeNewsSpec.post enc Try.prog Try.f6 false true false false) := by
  refine returnsInHanded_of_change (C := Try.checked) own started (by kernel_rfl) Try.func6
    (ChangeSpec.witness6 (enc := enc) (C := Try.checked) false ⟨#[], #[], []⟩ 8 (by kernel_rfl) (by kernel_rfl) (by kernel_rfl) (by kernel_rfl)) ?_
  intro W base args ds gs before hval0 hW hcnd _
  have hval : ∀ (j : Nat) t v, Try.f6.params[j]? = some t → args[j]? = some v → Value.okWide Try.prog W .any base t v := hval0
  have hW' := hW
  obtain ⟨p, q, hA0, hV, rfl, hfz, hnd⟩ := hW
  have hA : DataW.TrodAll enc Try.prog W 0 (fun _ => true) true Try.f6.params.toList args.toList ds p := hA0
  rw [Try.params6] at hA hval
  obtain ⟨hargs, rfl, rfl⟩ := trodAll_nil hA
  obtain rfl : args = #[] := by cases args; simp_all
  obtain ⟨rfl, rfl⟩ := trodVars_none hV
  clear hA0 hval0
  refine (walk  W ).mono fun e W' ⟨he, bel⟩ => ?_
  subst he
  exact ⟨_, rfl, _, _, _, [], _, [], hW', trodAll_mk1 (shut_bool Try.underlying4 _), trodAll_mk0, rfl, bel.frame _, fun h => by cases h⟩

theorem over : Rows.tapeNewsRow.holds Try.pinned (OpenSpec.ofChange Rows.tapeNewsSpec) :=
  OpenClaim.holds_of_wide 6 Try.f6 rfl rfl rfl rfl rfl rfl rfl ⟨rfl, rfl, rfl, rfl, rfl⟩ rfl rfl rfl rfl rfl (by kernel_rfl) Try.func6 (by kernel_rfl)
    (of_decide_eq_true (by kernel_rfl)) (by unfold Func.isWrapper; first | (rw [if_pos (by decide +kernel)]; kernel_rfl) | (rw [if_neg (by decide +kernel)]; exact ⟨rfl, rfl⟩))
    (fun os started H enc _ => lifted os started H enc)

end Go.Proofs.Ytafkdbogfgffbaa.tapeNewsDone
namespace Go.Proofs.Ytafkdbogfgffbaa
theorem TapeNews_holds : Rows.TapeNewsSaid := tapeNewsDone.over
end Go.Proofs.Ytafkdbogfgffbaa
