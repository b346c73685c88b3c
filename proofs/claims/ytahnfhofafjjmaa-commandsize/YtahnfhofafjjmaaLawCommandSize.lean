/- Keys, fields, texts and numbers of commands have their bounds: for all two numbers the law returns true. No condition. -/
import Derived.Test.YtahnfhofafjjmaaCb
import Derived.Test.YtahnfhofafjjmaaKp
import Derived.Deep.OwnRows
import Derived.Laws.IdiomStrings
import Derived.Test.YtahnfhofafjjmaaOp
namespace Go.Proofs.Ytahnfhofafjjmaa.commandSizeDone
open Go.ChangeShapes Go.WideShapes Go.ChangeAt Go.RowKit
open Go.ChangeMaps (open_string shut_string)
open Go.Proofs.Ytahnfhofafjjmaa
set_option linter.unusedVariables false

theorem info_u8 : (Try.prog.info? 5).map (fun i => (i.zero, i.size, i.bytes)) = some (some (.int .u8 0), 1, 1) := by kernel_rfl

/-- So many zero bytes. -/
def zeros (k : Nat) : ByteArray := ⟨(List.replicate k (0 : UInt8)).toArray⟩
theorem size_zeros (k : Nat) : (zeros k).size = k := by simp [zeros, ByteArray.size]

theorem run_zeros (k : Nat) (W : World) (b cap : Nat) (hc : ∀ j, j < k → W.cell? ⟨b, j, none⟩ = some (.int .u8 0)) :
    (convert 36 9 (.slice (some ⟨b, 0, none⟩) k cap)).run Try.prog W = .ok (.string (zeros k)) W := by
  have := run_convert_bytes_back (P := Try.prog) W 36 9 5 ⟨b, 0, none⟩ cap (List.replicate k (0 : UInt8)) Try.underlying36 Try.underlying5 Try.underlying9
    (fun j hj => by
      have hj' : j < k := by simpa using hj
      have e : (⟨b, 0, none⟩ : Addr).add j = ⟨b, j, none⟩ := by by_cases h0 : j = 0 <;> simp [Addr.add, h0]
      rw [e, hc j hj']
      simp)
  simpa [zeros] using this

theorem made_cell (w : World) (k j : Nat) (e : TypeId) (h : j < k) : (w.alloc (.cells (madeCells #[Value.int .u8 0] k) e)).cell? ⟨w.heap.size, j, none⟩ = some (.int .u8 0) := by
  rw [World.cell?_alloc_mark]
  simp [madeCells, h, Nat.mod_one]

theorem s0 : (⟨#[]⟩ : ByteArray).size = 0 := rfl
theorem s1 : (⟨#[107]⟩ : ByteArray).size = 1 := rfl
theorem faultA (k : Nat) : cmdFault 2 (zeros k) ⟨#[]⟩ ⟨#[]⟩ 0 = if 1 ≤ k ∧ k ≤ 12 then 0 else 1 := by
  have sz := size_zeros k
  by_cases h : 1 ≤ k ∧ k ≤ 12
  · simp [cmdFault, foreignB, partsB, hasKeyB, hasFieldB, hasTextB, hasNumberB, isNameB, isTextB, isCountB, sz, h, s0]
  · rw [if_neg h]
    have : (decide (1 ≤ k) && decide (k ≤ 12)) = false := by rw [Bool.eq_false_iff]; simpa using h
    simp [cmdFault, foreignB, partsB, hasKeyB, hasFieldB, hasTextB, hasNumberB, isNameB, sz, this]
theorem faultD (k : Nat) : cmdFault 5 ⟨#[107]⟩ (zeros k) ⟨#[]⟩ 0 = if 1 ≤ k ∧ k ≤ 12 then 0 else 1 := by
  have sz := size_zeros k
  by_cases h : 1 ≤ k ∧ k ≤ 12
  · simp [cmdFault, foreignB, partsB, hasKeyB, hasFieldB, hasTextB, hasNumberB, isNameB, isTextB, isCountB, sz, h, s0, s1]
  · rw [if_neg h]
    have : (decide (1 ≤ k) && decide (k ≤ 12)) = false := by rw [Bool.eq_false_iff]; simpa using h
    simp [cmdFault, foreignB, partsB, hasKeyB, hasFieldB, hasTextB, hasNumberB, isNameB, sz, this, s1]
theorem faultC (k : Nat) : cmdFault 1 ⟨#[107]⟩ ⟨#[]⟩ (zeros k) 0 = if k ≤ 20 then 0 else 1 := by
  have sz := size_zeros k
  by_cases h : k ≤ 20
  · simp [cmdFault, foreignB, partsB, hasKeyB, hasFieldB, hasTextB, hasNumberB, isNameB, isTextB, isCountB, sz, h, s0, s1]
  · simp [cmdFault, foreignB, partsB, hasKeyB, hasFieldB, hasTextB, hasNumberB, isNameB, isTextB, sz, h, s0, s1]
theorem faultF (x : Int) (h0 : 0 ≤ x) : cmdFault 3 ⟨#[107]⟩ ⟨#[]⟩ ⟨#[]⟩ x = if x ≤ 1099511627776 then 0 else 2 := by
  by_cases h : x ≤ 1099511627776
  · have : (decide (-1099511627776 ≤ x) && decide (x ≤ 1099511627776)) = true := by simp; omega
    simp [cmdFault, foreignB, partsB, hasKeyB, hasFieldB, hasTextB, hasNumberB, isNameB, isTextB, isCountB, h, s0, s1]
    omega
  · simp [cmdFault, foreignB, partsB, hasKeyB, hasFieldB, hasTextB, hasNumberB, isNameB, isTextB, isCountB, h, s0, s1]

set_option maxHeartbeats 2000000 in
theorem walk0 (a0 : Int) (a1 : Int) (b0 : -9223372036854775808 ≤ a0 ∧ a0 ≤ 9223372036854775807) (b1 : -9223372036854775808 ≤ a1 ∧ a1 ≤ 9223372036854775807) (w : World) :
    Calls Try.prog 5 #[.int .i64 a0, .int .i64 a1] w fun e w' => e = .returned (.bool true) ∧ Below w.heap.size w w' := by
  have p0 := fun W => picked_any a0 30 W b0.1 b0.2 (by omega) (by omega)
  have p1 := fun W => picked_any a1 3 W b1.1 b1.2 (by omega) (by omega)
  have l0 := pickedN_lt a0 (show 0 < 30 by omega)
  have l1 := pickedN_lt a1 (show 0 < 3 by omega)
  generalize pickedN a0 30 = k at p0 l0
  generalize pickedN a1 3 = m at p1 l1
  have P0 : Hid _ := p0
  have P1 : Hid _ := p1
  clear p0 p1 b0 b1
  have hmk := run_make_row' (P := Try.prog) 36 5 (.int .u8 0) 1 Try.underlying36 info_u8 rfl .i64 .i64 k (by omega) (by omega)
  have hcv := run_zeros k (w.alloc (.cells (madeCells #[.int .u8 0] k) 5)) w.heap.size k (fun j hj => made_cell w k j _ hj)
  go_enter Try.func5, Try.ntmps5
  go_wp2_with fail
  refine (P0.out _).mono ?_
  rintro e w1 ⟨rfl, rfl⟩
  go_wp2_with fail
  refine (checkCommand_any _ _ _ _ _ _).mono ?_
  rintro e w1 ⟨rfl, hb1⟩
  have hB1 := bstep (balloc _ _) hb1
  have hc1 : ∀ j, j < k → w1.cell? ⟨w.heap.size, j, none⟩ = some (.int .u8 0) := fun j hj => (hb1.cell (p := ⟨w.heap.size, j, none⟩) (by simp)).trans (made_cell w k j _ hj)
  have hz1 : w.heap.size < w1.heap.size := bsize hb1 (by simp)
  have hcv1 := run_zeros k w1 w.heap.size k hc1
  have HC1 : Hid _ := hc1
  clear hc1 hb1 hcv hmk
  rw [faultA]
  generalize hA : (if 1 ≤ k ∧ k ≤ 12 then (0 : Int) else 1) = A
  have HA : Hid _ := hA
  clear hA
  go_wp2_with fail
  refine (checkCommand_any _ _ _ _ _ _).mono ?_
  rintro e w2 ⟨rfl, hb2⟩
  have hB2 := bstep hB1 hb2
  have hc2 : ∀ j, j < k → w2.cell? ⟨w.heap.size, j, none⟩ = some (.int .u8 0) := fun j hj => (hb2.cell (p := ⟨w.heap.size, j, none⟩) hz1).trans (HC1.out j hj)
  have hz2 : w.heap.size < w2.heap.size := bsize hb2 hz1
  have hcv2 := run_zeros k w2 w.heap.size k hc2
  clear hc2 hb2 hcv1 HC1
  rw [faultC]
  generalize hC : (if k ≤ 20 then (0 : Int) else 1) = C
  have HC : Hid _ := hC
  clear hC
  go_wp2_with fail
  refine (checkCommand_any _ _ _ _ _ _).mono ?_
  rintro e w3 ⟨rfl, hb3⟩
  have hB3 := bstep hB2 hb3
  clear hb3 hcv2 hB1 hB2
  rw [faultD, HA.out]
  go_wp2_with fail
  refine (P1.out _).mono ?_
  rintro e w4 ⟨rfl, rfl⟩
  go_wp2_with fail
  refine (checkCommand_any _ _ _ _ _ _).mono ?_
  rintro e w4 ⟨rfl, hb4⟩
  have hB4 := bstep hB3 hb4
  clear hb4 hB3
  rw [faultF _ (by omega)]
  generalize hF : (if (1099511627776 : Int) + (m : Int) - 1 ≤ 1099511627776 then (0 : Int) else 2) = F
  have HF : Hid _ := hF
  clear hF
  have hm : m = 0 ∨ m = 1 ∨ m = 2 := by omega
  have hk : k < 1 ∨ (1 ≤ k ∧ k ≤ 12) ∨ (12 < k ∧ k ≤ 20) ∨ 20 < k := by omega
  have hAC : (k < 1 ∧ A = 1 ∧ C = 0) ∨ ((1 ≤ k ∧ k ≤ 12) ∧ A = 0 ∧ C = 0) ∨ ((12 < k ∧ k ≤ 20) ∧ A = 1 ∧ C = 0) ∨ (20 < k ∧ A = 1 ∧ C = 1) := by
    rw [← HA.out, ← HC.out]
    rcases hk with h | h | h | h
    · refine .inl ⟨h, if_neg (by omega), if_pos (by omega)⟩
    · refine .inr (.inl ⟨h, if_pos (by omega), if_pos (by omega)⟩)
    · refine .inr (.inr (.inl ⟨h, if_neg (by omega), if_pos (by omega)⟩))
    · refine .inr (.inr (.inr ⟨h, if_neg (by omega), if_neg (by omega)⟩))
  have hmF : (m = 0 ∧ F = 0) ∨ (m = 1 ∧ F = 0) ∨ (m = 2 ∧ F = 2) := by
    rw [← HF.out]
    rcases hm with rfl | rfl | rfl <;> simp
  clear hk hm HA HC HF
  rcases hAC with ⟨h, rfl, rfl⟩ | ⟨h, rfl, rfl⟩ | ⟨h, rfl, rfl⟩ | ⟨h, rfl, rfl⟩ <;> rcases hmF with ⟨rfl, rfl⟩ | ⟨rfl, rfl⟩ | ⟨rfl, rfl⟩
  all_goals
    go_wp2_with fail
    refine (P1.out _).mono ?_
    rintro e w5 ⟨rfl, rfl⟩
    go_wp2_with fail
    go_ret
    exact ⟨ret_bool (by first | rfl | (simp; omega)), hB4⟩

theorem walk (v0 v1 : Value) (w : World) (h0 : IsInt v0) (h1 : IsInt v1) :
    Calls Try.prog 5 #[v0, v1] w fun e w' => e = .returned (.bool true) ∧ Below w.heap.size w w' := by
  obtain ⟨a, rfl, a1, a2⟩ := h0
  obtain ⟨b, rfl, b1, b2⟩ := h1
  exact walk0 a b ⟨a1, a2⟩ ⟨b1, b2⟩ w

theorem own : ownKnob Try.prog.godebug = none := by kernel_rfl
theorem laidOut : laidOutB Try.prog = true := by kernel_rfl

set_option maxRecDepth 100000 in
theorem lifted (os : Os) (started : os.Started) (H : Type) (enc : TypeId × Value → H) :
    ReturnsInHanded {} Try.checked os 5 .any (Rows.commandSizeSpec.pre6 enc Try.prog Try.f5 Rows.commandSizeRow.domain false) (Rows.commandSizeSpec.post enc Try.prog Try.f5 false true false false) := by
  refine returnsInHanded_of_change (C := Try.checked) own started (by kernel_rfl) Try.func5
    (ChangeSpec.witness6 (enc := enc) (C := Try.checked) false ⟨#[], #[.int .i64 0, .int .i64 0], []⟩ 8 (by kernel_rfl) (by kernel_rfl) (by kernel_rfl) (by kernel_rfl)) ?_
  intro W base args ds gs before hval0 hW hcnd _
  have hval : ∀ (j : Nat) t v, Try.f5.params[j]? = some t → args[j]? = some v → Value.okWide Try.prog W .any base t v := hval0
  have hW' := hW
  obtain ⟨p, q, hA0, hV, rfl, hfz, hnd⟩ := hW
  have hA : DataW.TrodAll enc Try.prog W 0 (fun _ => true) true Try.f5.params.toList args.toList ds p := hA0
  rw [Try.params5] at hA hval
  obtain ⟨v0, vs0, d0, ds0, p0, q0, hargs, rfl, rfl, h0, r0⟩ := trodAll_cons hA
  obtain ⟨v1, vs1, d1, ds1, p1, q1, rfl, rfl, rfl, h1, r1⟩ := trodAll_cons r0
  obtain ⟨rfl, rfl, rfl⟩ := trodAll_nil r1
  obtain rfl : args = #[v0, v1] := by cases args; simp_all
  obtain ⟨rfl, rfl⟩ := trodVars_none hV
  have lt0 : ∀ x ∈ p0, x.block < W.heap.size := by obtain ⟨m, hm⟩ := h0; exact DataW.trod_lt m _ _ _ hm
  have g0 := shape_int (hval 0 3 v0 rfl rfl) h0
  have lt1 : ∀ x ∈ p1, x.block < W.heap.size := by obtain ⟨m, hm⟩ := h1; exact DataW.trod_lt m _ _ _ hm
  have g1 := shape_int (hval 1 3 v1 rfl rfl) h1
  clear hA0 hval0
  refine (walk v0 v1 W g0 g1).mono fun e W' ⟨he, bel⟩ => ?_
  subst he
  exact ⟨_, rfl, _, _, _, [], _, [], hW', trodAll_mk1 (shut_bool Try.underlying4 _), (trodAll_cons_mk (Below.trod laidOut (by kernel_rfl) (of_decide_eq_true (by kernel_rfl)) h0 bel lt0) (trodAll_cons_mk (Below.trod laidOut (by kernel_rfl) (of_decide_eq_true (by kernel_rfl)) h1 bel lt1) trodAll_mk0)), rfl, bel.frame _, fun h => by cases h⟩

theorem over : Rows.commandSizeRow.holds Try.pinned (OpenSpec.ofChange Rows.commandSizeSpec) :=
  OpenClaim.holds_of_wide 5 Try.f5 rfl rfl rfl rfl rfl rfl rfl ⟨rfl, rfl, rfl, rfl, rfl⟩ rfl rfl rfl rfl rfl (by kernel_rfl) Try.func5 (by kernel_rfl)
    (of_decide_eq_true (by kernel_rfl)) (by unfold Func.isWrapper; first | (rw [if_pos (by decide +kernel)]; kernel_rfl) | (rw [if_neg (by decide +kernel)]; exact ⟨rfl, rfl⟩))
    (fun os started H enc _ => lifted os started H enc)

end Go.Proofs.Ytahnfhofafjjmaa.commandSizeDone
namespace Go.Proofs.Ytahnfhofafjjmaa
theorem CommandSize_holds : Rows.CommandSizeSaid := commandSizeDone.over
end Go.Proofs.Ytahnfhofafjjmaa
