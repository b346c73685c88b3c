/- For every log, every place and every number, what stands behind the place is told as the document's answer says: the law returns true, and the log reads as it did. No condition. -/
import Derived.Test.YtdpjganbielnkaaGg
import Derived.Test.YtdpjganbielnkaaHe
import Derived.Test.YtdpjganbielnkaaHh
import Derived.Test.YtdpjganbielnkaaOk
namespace Go.Proofs.Ytdpjganbielnkaa.ledgerBehindsDone
open Go.ChangeShapes Go.WideShapes Go.ChangeAt Go.RowKit
open Go.Proofs.Ytdpjganbielnkaa
set_option linter.unusedVariables false
set_option maxRecDepth 100000

/-- Both answer the same items, and the same error. -/
theorem both (b t : Int) (s : Value) (l : List Itm) (x y : Int) (w : World) (hr : RowI w s l) (hb : l.length ≤ 140737488355328) : ∃ (E : Int) (P : List Itm), P.length ≤ 140737488355328 ∧
    (∀ W r, RowI W r l → Calls Try.prog 30 #[logV b t r, .int .i64 x, .int .i64 y] W fun e w' => ∃ r, e = .returned (.tuple #[r, .int .i64 E]) ∧ OwnI W.heap.size w' r P ∧ Below W.heap.size W w') ∧
    (∀ W, Below w.heap.size w W → Calls Try.prog 31 #[logV b t s, .int .i64 x, .int .i64 y] W fun e w' => ∃ r, e = .returned (.tuple #[r, .int .i64 E]) ∧ OwnI W.heap.size w' r P ∧ Below W.heap.size W w') := by
  by_cases he : Lg.behE ⟨b, t, l⟩ x y = 0
  · have hk : Lg.okB ⟨b, t, l⟩ = true := by
      cases hk : Lg.okB ⟨b, t, l⟩ with
      | true => rfl
      | false => simp [Lg.behE, hk] at he
    have hm : ¬ y < 0 := by intro h; simp [Lg.behE, hk, h] at he
    have hp : placeI b (b + l.length) x = 0 := by
      have : Lg.behE ⟨b, t, l⟩ x y = placeI b (b + l.length) x := by simp only [Lg.behE, hk, if_true, if_neg hm]; rfl
      rw [← this]; exact he
    have hpl := placeI_zero hp
    obtain ⟨k, rfl⟩ : ∃ k : Nat, x = b + k := ⟨(x - b).toNat, by omega⟩
    refine ⟨0, (l.drop k).take y.toNat, by simp; omega, fun W r h => behind_ok ⟨b, t, l⟩ r k y W h hk (by show k ≤ l.length; omega) (by omega), fun W hW => behindOf_ok ⟨b, t, l⟩ s k y W (hr.below hW) hk (by show k ≤ l.length; omega) (by omega)⟩
  · refine ⟨Lg.behE ⟨b, t, l⟩ x y, [], by simp, fun W r h => ?_, fun W hW => ?_⟩
    · refine (behind_bad ⟨b, t, l⟩ r x y _ W h rfl he).mono ?_
      rintro e w' ⟨rfl, hb'⟩
      exact ⟨_, rfl, OwnI.nil _ _, hb'⟩
    · refine (behindOf_bad ⟨b, t, l⟩ s x y W (hr.below hW) he).mono ?_
      rintro e w' ⟨rfl, hb'⟩
      exact ⟨_, rfl, OwnI.nil _ _, hb'⟩

set_option maxHeartbeats 8000000 in
theorem walk0 (b t : Int) (s : Value) (l : List Itm) (x y : Int) (w : World) (hr : RowI w s l) (hb : l.length * 104 ≤ 140737488355328) :
    Calls Try.prog 6 #[logV b t s, .int .i64 x, .int .i64 y] w fun e w' => e = .returned (.bool true) ∧ Below w.heap.size w w' := by
  have HC : Hid (∀ W, Below w.heap.size w W → Calls Try.prog 24 #[logV b t s] W fun e w' => ∃ r, e = .returned (logV b t r) ∧ OwnI W.heap.size w' r l ∧ Below W.heap.size W w') := fun W hW => logCopy_any b t s l W (hr.below hW) hb
  have hl : l.length ≤ 140737488355328 := hr.1
  obtain ⟨E, P, hPl, hA, hB⟩ := both b t s l x y w hr hl
  have HK : Hid (∀ W r, RowI W r l → Calls Try.prog 30 #[logV b t r, .int .i64 x, .int .i64 y] W fun e w' => ∃ r, e = .returned (.tuple #[r, .int .i64 E]) ∧ OwnI W.heap.size w' r P ∧ Below W.heap.size W w') := hA
  have HF : Hid (∀ W, Below w.heap.size w W → Calls Try.prog 31 #[logV b t s, .int .i64 x, .int .i64 y] W fun e w' => ∃ r, e = .returned (.tuple #[r, .int .i64 E]) ∧ OwnI W.heap.size w' r P ∧ Below W.heap.size W w') := hB
  have HS : Hid (∀ (W : World) (r r' : Value), RowI W r P → RowI W r' P → Calls Try.prog 32 #[r, r'] W fun e w' => e = .returned (.bool true) ∧ Below W.heap.size W w') := fun W r r' h h' => sameItemsL r r' _ W h h'
  clear hr hA hB
  go_enter Try.func6, Try.ntmps6
  go_wp2_with fail
  refine (HC.out _ (balloc _ _)).mono ?_
  rintro e w1 ⟨r, rfl, hown, hb1⟩
  have hB1 := bstep (balloc _ _) hb1
  obtain ⟨d1, e1⟩ := same_block (hb1.block w.heap.size (by simp))
  have hz1 : w.heap.size < w1.heap.size := Nat.lt_of_lt_of_le (by simp) hb1.size
  have hrow := hown.row hl
  clear HC hb1 hown
  go_wp2_with fail
  refine (HK.out _ _ hrow).mono ?_
  rintro e w2 ⟨r2, rfl, hown2, hb2⟩
  have hB2 := bstep hB1 hb2
  obtain ⟨d2, e2⟩ := same_block (hb2.block w.heap.size hz1)
  have hz2 : w.heap.size < w2.heap.size := Nat.lt_of_lt_of_le hz1 hb2.size
  have hr2 := hown2.row hPl
  obtain ⟨sa, sc, rfl⟩ := hown2.shape
  clear HK hb2 hrow hown2
  go_wp2_with fail
  refine (HF.out _ hB2).mono ?_
  rintro e w3 ⟨r3, rfl, hown3, hb3⟩
  have hB3 := bstep hB2 hb3
  have hr2' := hr2.below hb3
  have hr3 := hown3.row hPl
  obtain ⟨sa3, sc3, rfl⟩ := hown3.shape
  clear HF hb3 hown3 hr2
  go_wp2_with fail
  refine (HS.out _ _ _ hr2' hr3).mono ?_
  rintro e w4 ⟨rfl, hb4⟩
  have hB4 := bstep hB3 hb4
  go_wp2_with fail
  go_ret
  exact ⟨rfl, hB4⟩

theorem walk (v0 v1 v2 : Value) (w : World) (h0 : IsLog w v0) (h1 : IsInt v1) (h2 : IsInt v2) :
    Calls Try.prog 6 #[v0, v1, v2] w fun e w' => e = .returned (.bool true) ∧ Below w.heap.size w w' := by
  obtain ⟨b, t, s, l, rfl, k1, k2⟩ := h0
  obtain ⟨x, rfl, -, -⟩ := h1
  obtain ⟨y, rfl, -, -⟩ := h2
  exact walk0 b t s l x y w k1 (Nat.le_trans k2 (by decide))

theorem own : ownKnob Try.prog.godebug = none := by kernel_rfl
theorem laidOut : laidOutB Try.prog = true := by kernel_rfl

set_option maxRecDepth 100000 in
theorem lifted (os : Os) (started : os.Started) (H : Type) (enc : TypeId × Value → H) :
    ReturnsInHanded {} Try.checked os 6 .any (Rows.ledgerBehindsSpec.pre6 enc Try.prog Try.f6 Rows.ledgerBehindsRow.domain false) (Rows.ledgerBehindsSpec.post enc Try.prog Try.f6 false true false false) := by
  refine returnsInHanded_of_change_sized (C := Try.checked) own started (by kernel_rfl) Try.func6
    (ChangeSpec.witness6 (enc := enc) (C := Try.checked) false ⟨#[], #[.agg #[.int .i64 0, .int .i64 0, .slice none 0 0], .int .i64 0, .int .i64 0], []⟩ 8 (by kernel_rfl) (by kernel_rfl) (by kernel_rfl) (by kernel_rfl)) ?_
  intro W base args ds gs before hval0 hW hcnd hsz _
  have hval : ∀ (j : Nat) t v, Try.f6.params[j]? = some t → args[j]? = some v → Value.okWide Try.prog W .any base t v := hval0
  have hW' := hW
  obtain ⟨p, q, hA0, hV, rfl, hfz, hnd⟩ := hW
  have hA : DataW.TrodAll enc Try.prog W 0 (fun _ => true) true Try.f6.params.toList args.toList ds p := hA0
  rw [Try.params6] at hA hval
  obtain ⟨v0, vs0, d0, ds0, p0, q0, hargs, rfl, rfl, h0, r0⟩ := trodAll_cons hA
  obtain ⟨v1, vs1, d1, ds1, p1, q1, rfl, rfl, rfl, h1, r1⟩ := trodAll_cons r0
  obtain ⟨v2, vs2, d2, ds2, p2, q2, rfl, rfl, rfl, h2, r2⟩ := trodAll_cons r1
  obtain ⟨rfl, rfl, rfl⟩ := trodAll_nil r2
  obtain rfl : args = #[v0, v1, v2] := by cases args; simp_all
  obtain ⟨rfl, rfl⟩ := trodVars_none hV
  have lt0 : ∀ x ∈ p0, x.block < W.heap.size := by obtain ⟨m, hm⟩ := h0; exact DataW.trod_lt m _ _ _ hm
  have g0 := shape_log (hval 0 24 v0 rfl rfl) h0 (fun n hn => of_decide_eq_true (List.all_eq_true.1 hsz n (DataW.weights_mem_each (j := 0) rfl rfl n hn)))
  have lt1 : ∀ x ∈ p1, x.block < W.heap.size := by obtain ⟨m, hm⟩ := h1; exact DataW.trod_lt m _ _ _ hm
  have g1 := shape_int (hval 1 3 v1 rfl rfl) h1
  have lt2 : ∀ x ∈ p2, x.block < W.heap.size := by obtain ⟨m, hm⟩ := h2; exact DataW.trod_lt m _ _ _ hm
  have g2 := shape_int (hval 2 3 v2 rfl rfl) h2
  clear hA0 hval0
  refine (walk v0 v1 v2 W g0 g1 g2).mono fun e W' ⟨he, bel⟩ => ?_
  subst he
  exact ⟨_, rfl, _, _, _, [], _, [], hW', trodAll_mk1 (shut_bool Try.underlying4 _), (trodAll_cons_mk (Below.trod laidOut (by kernel_rfl) (of_decide_eq_true (by kernel_rfl)) h0 bel lt0) (trodAll_cons_mk (Below.trod laidOut (by kernel_rfl) (of_decide_eq_true (by kernel_rfl)) h1 bel lt1) (trodAll_cons_mk (Below.trod laidOut (by kernel_rfl) (of_decide_eq_true (by kernel_rfl)) h2 bel lt2) trodAll_mk0))), rfl, bel.frame _, fun h => by cases h⟩

theorem over : Rows.ledgerBehindsRow.holds Try.pinned (OpenSpec.ofChange Rows.ledgerBehindsSpec) :=
  OpenClaim.holds_of_wide 6 Try.f6 rfl rfl rfl rfl rfl rfl rfl ⟨rfl, rfl, rfl, rfl, rfl⟩ rfl rfl rfl rfl rfl (by kernel_rfl) Try.func6 (by kernel_rfl)
    (of_decide_eq_true (by kernel_rfl)) (by unfold Func.isWrapper; first | (rw [if_pos (by decide +kernel)]; kernel_rfl) | (rw [if_neg (by decide +kernel)]; exact ⟨rfl, rfl⟩))
    (fun os started H enc _ => lifted os started H enc)

end Go.Proofs.Ytdpjganbielnkaa.ledgerBehindsDone
namespace Go.Proofs.Ytdpjganbielnkaa
theorem LedgerBehinds_holds : Rows.LedgerBehindsSaid := ledgerBehindsDone.over
end Go.Proofs.Ytdpjganbielnkaa
