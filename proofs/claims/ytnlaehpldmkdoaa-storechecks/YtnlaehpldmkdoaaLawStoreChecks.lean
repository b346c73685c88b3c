/- For every store, what the program's check says of it is what the document says: the law returns true, and the store reads as it did. No condition. -/
import Derived.Test.YtnlaehpldmkdoaaSff
import Derived.Test.YtnlaehpldmkdoaaScp
import Derived.Test.YtnlaehpldmkdoaaSc
import Derived.Test.YtnlaehpldmkdoaaOst
namespace Go.Proofs.Ytnlaehpldmkdoaa.storeChecksDone
open Go.ChangeShapes Go.WideShapes Go.ChangeAt Go.RowKit
open Go.Proofs.Ytnlaehpldmkdoaa
set_option linter.unusedVariables false
set_option maxRecDepth 100000

set_option maxHeartbeats 4000000 in
theorem storeFault_short (v : Value) (s : Sto) (w : World) (h : RepsSW w v s) (hbad : isTimeB s.now = false ∨ 12 < s.es.length) :
    Calls Try.prog 19 #[v] w fun e w' => e = .returned (.int .i64 s.fault) ∧ Below w.heap.size w w' := by
  have hf : s.fault = 13 := by
    rw [Sto.fault, if_pos]
    rcases hbad with h | h <;> simp [Sto.badB, h]
  rw [hf]
  obtain ⟨es, E, rfl, hrow, -, hE⟩ := h
  obtain ⟨ea, ec, rfl, -, -⟩ := hrow.shape
  have hlen : E.length = s.es.length := by rw [← hE]; simp
  obtain ⟨now, L⟩ := s
  simp only at hlen hbad ⊢
  rw [← hlen] at hbad
  have n0 := alloc_at w (stoO now (.slice ea E.length ec))
  have hB0 := balloc w (stoO now (.slice ea E.length ec))
  clear hrow hE hf hlen
  generalize E.length = m at *
  cases ht : isTimeB now
  · have e0 : inB now 0 1073741824 = false := by unfold isTimeB at ht; unfold inB; exact ht
    clear hbad ht
    go_enter Try.func19, Try.ntmps19
    go_wp2_with (go_at_call 43; refine (in_any _ _ _ _).mono ?_; rintro e w3 ⟨rfl, rfl⟩; rw [e0])
    go_ret
    exact ⟨rfl, hB0⟩
  · have e0 : inB now 0 1073741824 = true := by unfold isTimeB at ht; unfold inB; exact ht
    have h12 : (12 : Int) < (m : Int) := by rw [ht] at hbad; simp at hbad; omega
    clear hbad ht
    go_enter Try.func19, Try.ntmps19
    go_wp2_with (go_at_call 43; refine (in_any _ _ _ _).mono ?_; rintro e w3 ⟨rfl, rfl⟩; rw [e0])
    go_ret
    exact ⟨rfl, hB0⟩
theorem storeFault_any (v : Value) (s : Sto) (w : World) (h : RepsSW w v s) :
    Calls Try.prog 19 #[v] w fun e w' => e = .returned (.int .i64 s.fault) ∧ Below w.heap.size w w' := by
  by_cases hbad : isTimeB s.now = false ∨ 12 < s.es.length
  · exact storeFault_short v s w h hbad
  · obtain ⟨es, E, rfl, hrow, hls, hE⟩ := h
    obtain ⟨ea, ec, rfl, -, -⟩ := hrow.shape
    have hlen : E.length = s.es.length := by rw [← hE]; simp
    have ht : isTimeB s.now = true := by
      cases h : isTimeB s.now with
      | true => rfl
      | false => exact absurd (.inl h) hbad
    have := storeFault_core s.now ea ec E w hrow hls ht (by omega)
    rw [hE] at this
    exact this

set_option maxHeartbeats 4000000 in
theorem walk (v : Value) (w : World) (h0 : IsSto w v) :
    Calls Try.prog 4 #[v] w fun e w' => e = .returned (.bool true) ∧ Below w.heap.size w w' := by
  obtain ⟨s, hr, m1, m2⟩ := h0
  have HC : Hid (∀ W, Below w.heap.size w W → Calls Try.prog 18 #[v] W fun e w' => ∃ v', e = .returned v' ∧ RepsSt w' v' s ∧ Below W.heap.size W w') := fun W hW => storeCopy_any v s W (hr.below hW) m1 m2
  have HV : Hid (∀ W v', RepsSt W v' s → Calls Try.prog 17 #[v'] W fun e w' => e = .returned (.int .i64 s.fault) ∧ Below W.heap.size W w') := fun W v' h => storeCheck_any v' s W h
  have HF : Hid (∀ W, Below w.heap.size w W → Calls Try.prog 19 #[v] W fun e w' => e = .returned (.int .i64 s.fault) ∧ Below W.heap.size W w') := fun W hW => storeFault_any v s W (hr.below hW)
  obtain ⟨es, E, rfl, hrow, -, hE⟩ := hr
  obtain ⟨ea, ec, rfl, -, -⟩ := hrow.shape
  generalize s.fault = F at *
  clear m1 m2 hrow hE
  generalize E.length = m at *
  go_enter Try.func4, Try.ntmps4
  go_wp2_with fail
  have n0 := alloc_at w (stoO s.now (.slice ea m ec))
  have hB0 := balloc w (stoO s.now (.slice ea m ec))
  generalize w.alloc (stoO s.now (.slice ea m ec)) = V at n0 hB0 ⊢
  refine (HC.out _ hB0).mono ?_
  rintro e w1 ⟨v', rfl, hv', hb1⟩
  have n1 := (hb1.block _ (lt_at n0)).trans n0
  have hB1 := bstep hB0 hb1
  clear hb1 n0 hB0 HC
  have HV1 := HV.out w1 v' hv'
  obtain ⟨es', E', rfl, hrow', -, -⟩ := hv'
  obtain ⟨-, ea', ec', rfl, -⟩ := hrow'
  have HV2 : Hid (Calls Try.prog 17 #[stoV s.now (.slice ea' E'.length ec')] w1 fun e w' => e = .returned (.int .i64 F) ∧ Below w1.heap.size w1 w') := HV1
  clear HV HV1
  go_wp2_with fail
  refine HV2.out.mono ?_
  rintro e w2 ⟨rfl, hb2⟩
  have n2 := (hb2.block _ (lt_at n1)).trans n1
  have hB2 := bstep hB1 hb2
  clear hb2 n1 hB1 HV2
  obtain ⟨c2, f2⟩ := cellsB n2
  go_wp2_with fail
  refine (HF.out _ hB2).mono ?_
  rintro e w3 ⟨rfl, hb3⟩
  have hB3 := bstep hB2 hb3
  go_wp2_with fail
  go_ret
  exact ⟨ret_bool (by simp), hB3⟩

theorem own : ownKnob Try.prog.godebug = none := by kernel_rfl
theorem laidOut : laidOutB Try.prog = true := by kernel_rfl

set_option maxRecDepth 100000 in
theorem lifted (os : Os) (started : os.Started) (H : Type) (enc : TypeId × Value → H) :
    ReturnsInHanded {} Try.checked os 4 .any (Rows.storeChecksSpec.pre6 enc Try.prog Try.f4 Rows.storeChecksRow.domain false) (Rows.storeChecksSpec.post enc Try.prog Try.f4 false true false false) := by
  refine returnsInHanded_of_change_sized (C := Try.checked) own started (by kernel_rfl) Try.func4
    (ChangeSpec.witness6 (enc := enc) (C := Try.checked) false ⟨#[], #[.agg #[.int .i64 0, .slice none 0 0]], []⟩ 8 (by kernel_rfl) (by kernel_rfl) (by kernel_rfl) (by kernel_rfl)) ?_
  intro W base args ds gs before hval0 hW hcnd hsz _
  have hval : ∀ (j : Nat) t v, Try.f4.params[j]? = some t → args[j]? = some v → Value.okWide Try.prog W .any base t v := hval0
  have hW' := hW
  obtain ⟨p, q, hA0, hV, rfl, hfz, hnd⟩ := hW
  have hA : DataW.TrodAll enc Try.prog W 0 (fun _ => true) true Try.f4.params.toList args.toList ds p := hA0
  rw [Try.params4] at hA hval
  obtain ⟨v0, vs0, d0, ds0, p0, q0, hargs, rfl, rfl, h0, r0⟩ := trodAll_cons hA
  obtain ⟨rfl, rfl, rfl⟩ := trodAll_nil r0
  obtain rfl : args = #[v0] := by cases args; simp_all
  obtain ⟨rfl, rfl⟩ := trodVars_none hV
  have lt0 : ∀ x ∈ p0, x.block < W.heap.size := by obtain ⟨m, hm⟩ := h0; exact DataW.trod_lt m _ _ _ hm
  have g0 := shape_storeS (hval 0 33 v0 rfl rfl) h0 (fun n hn => of_decide_eq_true (List.all_eq_true.1 hsz n (DataW.weights_mem_each (j := 0) rfl rfl n hn)))
  clear hA0 hval0
  refine (walk v0 W g0).mono fun e W' ⟨he, bel⟩ => ?_
  subst he
  exact ⟨_, rfl, _, _, _, [], _, [], hW', trodAll_mk1 (shut_bool Try.underlying4 _), (trodAll_cons_mk (Below.trod laidOut (by kernel_rfl) (of_decide_eq_true (by kernel_rfl)) h0 bel lt0) trodAll_mk0), rfl, bel.frame _, fun h => by cases h⟩

theorem over : Rows.storeChecksRow.holds Try.pinned (OpenSpec.ofChange Rows.storeChecksSpec) :=
  OpenClaim.holds_of_wide 4 Try.f4 rfl rfl rfl rfl rfl rfl rfl ⟨rfl, rfl, rfl, rfl, rfl⟩ rfl rfl rfl rfl rfl (by kernel_rfl) Try.func4 (by kernel_rfl)
    (of_decide_eq_true (by kernel_rfl)) (by unfold Func.isWrapper; first | (rw [if_pos (by decide +kernel)]; kernel_rfl) | (rw [if_neg (by decide +kernel)]; exact ⟨rfl, rfl⟩))
    (fun os started H enc _ => lifted os started H enc)

end Go.Proofs.Ytnlaehpldmkdoaa.storeChecksDone
namespace Go.Proofs.Ytnlaehpldmkdoaa
theorem StoreChecks_holds : Rows.StoreChecksSaid := storeChecksDone.over
end Go.Proofs.Ytnlaehpldmkdoaa
