/- For every value, what the program's check says of it is what the document says: the law returns true, and the value reads as it did. No condition. -/
import Derived.Test.YtnlaehpldmkdoaaVff
import Derived.Test.YtnlaehpldmkdoaaVcp
import Derived.Test.YtnlaehpldmkdoaaOv
namespace Go.Proofs.Ytnlaehpldmkdoaa.valueChecksDone
open Go.ChangeShapes Go.WideShapes Go.ChangeAt Go.RowKit
open Go.Proofs.Ytnlaehpldmkdoaa
set_option linter.unusedVariables false
set_option maxRecDepth 100000

set_option maxHeartbeats 4000000 in
theorem walk (v : Value) (w : World) (h0 : IsVal w v) :
    Calls Try.prog 3 #[v] w fun e w' => e = .returned (.bool true) ∧ Below w.heap.size w w' := by
  obtain ⟨x, hr, m1, m2, m3⟩ := h0
  have hR : reachBytes = 140737488351232 := rfl
  have HC : Hid (∀ W, Below w.heap.size w W → Calls Try.prog 15 #[v] W fun e w' => ∃ v', e = .returned v' ∧ Reps w' v' x ∧ Below W.heap.size W w') := fun W hW => valueCopy_any v x W (hr.below hW) (by omega) (by omega) (by omega)
  have HV : Hid (∀ W v', Reps W v' x → Calls Try.prog 14 #[v'] W fun e w' => e = .returned (.int .i64 x.fault) ∧ Below W.heap.size W w') := fun W v' h => check_any v' x W h
  have HF : Hid (∀ W, Below w.heap.size w W → Calls Try.prog 16 #[v] W fun e w' => e = .returned (.int .i64 x.fault) ∧ Below W.heap.size W w') := fun W hW => valueFault_any v x W (hr.below hW)
  obtain ⟨ps, is, ss, rfl, hl⟩ := hr
  obtain ⟨pa, pc, rfl, b1, -⟩ := hl.p.shape
  obtain ⟨ia, ic, rfl, b2, -⟩ := hl.i.shape
  obtain ⟨sa, sc, rfl, b3, -⟩ := hl.s.shape
  clear hl m1 m2 m3 hR b1 b2 b3
  generalize x.fault = F at *
  go_enter Try.func3, Try.ntmps3
  go_wp2_with fail
  have n0 := alloc_at w (valO x.kind x.text x.count (.slice pa x.pairs.length pc) (.slice ia x.items.length ic) (.slice sa x.scores.length sc))
  have hB0 := balloc w (valO x.kind x.text x.count (.slice pa x.pairs.length pc) (.slice ia x.items.length ic) (.slice sa x.scores.length sc))
  generalize w.alloc (valO x.kind x.text x.count (.slice pa x.pairs.length pc) (.slice ia x.items.length ic) (.slice sa x.scores.length sc)) = V at n0 hB0 ⊢
  refine (HC.out _ hB0).mono ?_
  rintro e w1 ⟨v', rfl, hv', hb1⟩
  have n1 := (hb1.block _ (lt_at n0)).trans n0
  have hB1 := bstep hB0 hb1
  clear hb1 n0 hB0 HC
  obtain ⟨qs, js, ts, rfl, hl'⟩ := hv'
  have HV1 : Hid (Calls Try.prog 14 #[valV x.kind x.text x.count qs js ts] w1 fun e w' => e = .returned (.int .i64 F) ∧ Below w1.heap.size w1 w') := HV.out w1 _ ⟨qs, js, ts, rfl, hl'⟩
  clear hl' HV
  go_wp2_with fail
  refine HV1.out.mono ?_
  rintro e w2 ⟨rfl, hb2⟩
  have n2 := (hb2.block _ (lt_at n1)).trans n1
  have hB2 := bstep hB1 hb2
  clear hb2 n1 hB1 HV1
  obtain ⟨c2, f2⟩ := cellsB n2
  go_wp2_with fail
  refine (HF.out _ hB2).mono ?_
  rintro e w3 ⟨rfl, hb3⟩
  have hB3 := bstep hB2 hb3
  go_wp2_with fail
  go_ret
  exact ⟨ret_bool (by simp), hB3⟩

theorem own : ownKnob Try.prog.godebug = none := by kernel_rfl
theorem laidOut : laidOutB Try.prog = true := by kernel_rfl

set_option maxRecDepth 100000 in
theorem lifted (os : Os) (started : os.Started) (H : Type) (enc : TypeId × Value → H) :
    ReturnsInHanded {} Try.checked os 3 .any (Rows.valueChecksSpec.pre6 enc Try.prog Try.f3 Rows.valueChecksRow.domain false) (Rows.valueChecksSpec.post enc Try.prog Try.f3 false true false false) := by
  refine returnsInHanded_of_change_sized (C := Try.checked) own started (by kernel_rfl) Try.func3
    (ChangeSpec.witness6 (enc := enc) (C := Try.checked) false ⟨#[], #[.agg #[.int .i64 0, .string ByteArray.empty, .int .i64 0, .slice none 0 0, .slice none 0 0, .slice none 0 0]], []⟩ 8 (by kernel_rfl) (by kernel_rfl) (by kernel_rfl) (by kernel_rfl)) ?_
  intro W base args ds gs before hval0 hW hcnd hsz _
  have hval : ∀ (j : Nat) t v, Try.f3.params[j]? = some t → args[j]? = some v → Value.okWide Try.prog W .any base t v := hval0
  have hW' := hW
  obtain ⟨p, q, hA0, hV, rfl, hfz, hnd⟩ := hW
  have hA : DataW.TrodAll enc Try.prog W 0 (fun _ => true) true Try.f3.params.toList args.toList ds p := hA0
  rw [Try.params3] at hA hval
  obtain ⟨v0, vs0, d0, ds0, p0, q0, hargs, rfl, rfl, h0, r0⟩ := trodAll_cons hA
  obtain ⟨rfl, rfl, rfl⟩ := trodAll_nil r0
  obtain rfl : args = #[v0] := by cases args; simp_all
  obtain ⟨rfl, rfl⟩ := trodVars_none hV
  have lt0 : ∀ x ∈ p0, x.block < W.heap.size := by obtain ⟨m, hm⟩ := h0; exact DataW.trod_lt m _ _ _ hm
  have g0 := shape_valueS (hval 0 26 v0 rfl rfl) h0 (fun n hn => of_decide_eq_true (List.all_eq_true.1 hsz n (DataW.weights_mem_each (j := 0) rfl rfl n hn)))
  clear hA0 hval0
  refine (walk v0 W g0).mono fun e W' ⟨he, bel⟩ => ?_
  subst he
  exact ⟨_, rfl, _, _, _, [], _, [], hW', trodAll_mk1 (shut_bool Try.underlying4 _), (trodAll_cons_mk (Below.trod laidOut (by kernel_rfl) (of_decide_eq_true (by kernel_rfl)) h0 bel lt0) trodAll_mk0), rfl, bel.frame _, fun h => by cases h⟩

theorem over : Rows.valueChecksRow.holds Try.pinned (OpenSpec.ofChange Rows.valueChecksSpec) :=
  OpenClaim.holds_of_wide 3 Try.f3 rfl rfl rfl rfl rfl rfl rfl ⟨rfl, rfl, rfl, rfl, rfl⟩ rfl rfl rfl rfl rfl (by kernel_rfl) Try.func3 (by kernel_rfl)
    (of_decide_eq_true (by kernel_rfl)) (by unfold Func.isWrapper; first | (rw [if_pos (by decide +kernel)]; kernel_rfl) | (rw [if_neg (by decide +kernel)]; exact ⟨rfl, rfl⟩))
    (fun os started H enc _ => lifted os started H enc)

end Go.Proofs.Ytnlaehpldmkdoaa.valueChecksDone
namespace Go.Proofs.Ytnlaehpldmkdoaa
theorem ValueChecks_holds : Rows.ValueChecksSaid := valueChecksDone.over
end Go.Proofs.Ytnlaehpldmkdoaa
