/- Commands in raw numbers may be; what carries a part that its kind does not have is not in form; kinds beyond the last are none: for all raw numbers and every choice the law returns true. No condition. -/
import Derived.Test.YtlfmpgemanbpeaaGreatKd
import Derived.Test.YtlfmpgemanbpeaaGreatOr
import Derived.Test.YtlfmpgemanbpeaaGreatWg
namespace Go.Proofs.YtlfmpgemanbpeaaGreat.commandBareDone
open Go.ChangeShapes Go.WideShapes Go.ChangeAt Go.RowKit
open Go.Proofs.YtlfmpgemanbpeaaGreat
set_option linter.unusedVariables false
set_option maxRecDepth 100000

theorem reps_none (W : World) : Reps W (valV 0 ⟨#[]⟩ 0 (.slice none 0 0) (.slice none 0 0) (.slice none 0 0)) (emptyVal 0) := ⟨_, _, _, rfl, Lists.empty W 0⟩

/-- What a call of Do with a command not in form comes to, for the value that is not there. -/
def Bad (k : Int) (key fld txt : ByteArray) (n : Int) : Prop := ∀ (W : World), Calls Tryz.prog 20 #[valV 0 ⟨#[]⟩ 0 (.slice none 0 0) (.slice none 0 0) (.slice none 0 0), cmdV k key fld txt n] W fun e w' =>
  ∃ pa pc ia ic sa sc la lc, e = .returned (.tuple #[valV 0 ⟨#[]⟩ 0 (.slice pa 0 pc) (.slice ia 0 ic) (.slice sa 0 sc), repV 0 ⟨#[]⟩ 0 (.slice la 0 lc), .int .i64 8]) ∧ Below W.heap.size W w'

theorem bad_of {k : Int} {key fld txt : ByteArray} {n : Int} (h : cmdFault k key fld txt n = 8) : Bad k key fld txt n := by
  intro W
  have hf : refusalI (emptyVal 0) ⟨k, key, fld, txt, n⟩ = 8 := by
    have hn : (emptyVal 0).none = true := by simp [emptyVal, Val.none, noneN, Val.size]
    simp [refusalI, hn, Cmd.fault, h]
  refine (do_refused _ _ 8 hf (by decide) W _ (reps_none W)).mono ?_
  rintro e w' ⟨v', u, rfl, hr', hu', hb⟩
  obtain ⟨pa, pc, ia, ic, sa, sc, rfl⟩ := hr'.reps.shapes
  obtain ⟨la, lc, rfl⟩ := hu'.rep.shapes
  exact ⟨pa, pc, ia, ic, sa, sc, la, lc, rfl, hb⟩

abbrev cmdO (k : Int) (key fld txt : ByteArray) (n : Int) : Obj := .cells #[.int .i64 k, .string key, .string fld, .string txt, .int .i64 n] 34
theorem laid_one {W0 w : World} {o : Obj} (hb : Below W0.heap.size W0 w) : (w.alloc o).heap[w.heap.size]? = some o ∧ Below W0.heap.size W0 (w.alloc o) ∧ Below w.heap.size w (w.alloc o) :=
  ⟨by show ((_ : Array Obj).push _)[_]? = _; simp, hb.alloc hb.size _, balloc _ _⟩

theorem bad0 : cmdFault 2 ⟨#[107]⟩ ⟨#[]⟩ ⟨#[120]⟩ 0 = 8 := by decide +kernel
theorem bad1 : cmdFault 7 ⟨#[107]⟩ ⟨#[120]⟩ ⟨#[]⟩ 0 = 8 := by decide +kernel
theorem bad2 : cmdFault 6 ⟨#[107]⟩ ⟨#[102]⟩ ⟨#[]⟩ 1 = 8 := by decide +kernel
theorem bad3 : cmdFault 22 ⟨#[107]⟩ ⟨#[]⟩ ⟨#[]⟩ 0 = 8 := by decide +kernel
theorem bad4 : cmdFault 23 ⟨#[107]⟩ ⟨#[]⟩ ⟨#[]⟩ 0 = 3 := by decide +kernel

set_option maxHeartbeats 8000000 in
theorem walk0 (k key fld n : Int) (txt : ByteArray) (b : Int) (w : World) (bk : -9223372036854775808 ≤ k ∧ k ≤ 9223372036854775807) (bkey : -9223372036854775808 ≤ key ∧ key ≤ 9223372036854775807)
    (bf : -9223372036854775808 ≤ fld ∧ fld ≤ 9223372036854775807) (bn : -9223372036854775808 ≤ n ∧ n ≤ 9223372036854775807) (bt : txt.size ≤ 9223372036854775807) (bb : -9223372036854775808 ≤ b ∧ b ≤ 9223372036854775807) :
    Calls Tryz.prog 13 #[rawV k key fld n txt, .int .i64 b] w fun e w' => e = .returned (.bool true) ∧ Below w.heap.size w w' := by
  have lk := pickedN_lt k (show 0 < 22 by omega)
  have hC := fun W => command_any k key fld n txt W bk bkey bf bn bt
  have hF := cmdFor_fault (1 + pickedN k 22) key fld n txt (by omega) (by omega)
  generalize cmdFor (1 + pickedN k 22) key fld n txt = c at hC hF
  obtain ⟨ck, ckey, cfld, ctxt, cn⟩ := c
  have HC : Hid (∀ W, Calls Tryz.prog 19 #[rawV k key fld n txt] W fun e w' => e = .returned (cmdV ck ckey cfld ctxt cn) ∧ Below W.heap.size W w') := hC
  have hG := fun W => checkCommand_any ck ckey cfld ctxt cn W
  rw [show cmdFault ck ckey cfld ctxt cn = 0 from hF] at hG
  have HG : Hid (∀ W, Calls Tryz.prog 27 #[cmdV ck ckey cfld ctxt cn] W fun e w' => e = .returned (.int .i64 0) ∧ Below W.heap.size W w') := hG
  have hp := fun W => picked_any b 4 W bb.1 bb.2 (by omega) (by omega)
  have lq := pickedN_lt b (show 0 < 4 by omega)
  generalize pickedN b 4 = q at hp lq
  have HP : Hid (∀ W, Calls Tryz.prog 24 #[.int .i64 b, .int .i64 4] W fun e w' => e = .returned (.int .i64 (q : Nat)) ∧ W = w') := hp
  have h23 := fun W => checkCommand_any 23 ⟨#[107]⟩ ⟨#[]⟩ ⟨#[]⟩ 0 W
  rw [bad4] at h23
  have H23 : Hid (∀ W, Calls Tryz.prog 27 #[cmdV 23 ⟨#[107]⟩ ⟨#[]⟩ ⟨#[]⟩ 0] W fun e w' => e = .returned (.int .i64 3) ∧ Below W.heap.size W w') := h23
  clear hC hF hG hp h23 lk bk bkey bf bn bt bb
  go_enter Tryz.func13, Tryz.ntmps13
  go_wp2_with fail
  refine (HC.out _).mono ?_
  rintro e w1 ⟨rfl, hb1⟩
  have sz1 := hb1.size
  go_wp2_with fail
  obtain ⟨n1, hB1, hl1⟩ := laid_one (w := w1) (o := cmdO ck ckey cfld ctxt cn) (bstep (balloc _ _) hb1)
  have hz1 : (w1.alloc (cmdO ck ckey cfld ctxt cn)).heap.size = w1.heap.size + 1 := by simp
  generalize w1.alloc (cmdO ck ckey cfld ctxt cn) = W1 at n1 hB1 hl1 hz1 ⊢
  refine (HG.out _).mono ?_
  rintro e w2 ⟨rfl, hb2⟩
  have hB2 := bstep hB1 hb2
  have sz2 := hb2.size
  obtain ⟨c1, f1⟩ := block_cells ((hb2.block _ (by omega)).trans n1)
  clear n1
  go_wp2_with fail
  refine (HP.out _).mono ?_
  rintro e w3 ⟨rfl, rfl⟩
  have hq : q = 0 ∨ q = 1 ∨ q = 2 ∨ q = 3 := by omega
  rcases hq with rfl | rfl | rfl | rfl
  · have D := bad_of bad0
    have hh := fun W => checkCommand_any 2 ⟨#[107]⟩ ⟨#[]⟩ ⟨#[120]⟩ 0 W
    rw [bad0] at hh
    have HH : Hid (∀ W, Calls Tryz.prog 27 #[cmdV 2 ⟨#[107]⟩ ⟨#[]⟩ ⟨#[120]⟩ 0] W fun e w' => e = .returned (.int .i64 8) ∧ Below W.heap.size W w') := hh
    clear hh
    go_wp2_with fail
    obtain ⟨n4, hB4, hl4⟩ := laid_one (w := w2) (o := cmdO 2 ⟨#[107]⟩ ⟨#[]⟩ ⟨#[120]⟩ 0) hB2
    have hz4 : (w2.alloc (cmdO 2 ⟨#[107]⟩ ⟨#[]⟩ ⟨#[120]⟩ 0)).heap.size = w2.heap.size + 1 := by simp
    generalize w2.alloc (cmdO 2 ⟨#[107]⟩ ⟨#[]⟩ ⟨#[120]⟩ 0) = W4 at n4 hB4 hl4 hz4 ⊢
    refine (D _).mono ?_
    rintro e w5 ⟨pa, pc, ia, ic, sa, sc, la, lc, rfl, hb5⟩
    have hB5 := bstep hB4 hb5
    have sz5 := hb5.size
    obtain ⟨c4, f4⟩ := block_cells ((hb5.block _ (by omega)).trans n4)
    have l5 : w2.heap.size < w5.heap.size := by omega
    have hB5' := (hB5.alloc hB5.size (valO 0 ⟨#[]⟩ 0 (.slice pa 0 pc) (.slice ia 0 ic) (.slice sa 0 sc))).alloc (Nat.le_trans hB5.size (by simp)) (repO 0 ⟨#[]⟩ 0 (.slice la 0 lc))
    clear n4 D
    go_wp2_with fail
    refine (HH.out _).mono ?_
    rintro e w6 ⟨rfl, hb6⟩
    go_wp2_with fail
    refine (H23.out _).mono ?_
    rintro e w7 ⟨rfl, hb7⟩
    go_wp2_with fail
    go_ret
    exact ⟨rfl, bstep (bstep hB5' hb6) hb7⟩
  · have D := bad_of bad1
    have hh := fun W => checkCommand_any 7 ⟨#[107]⟩ ⟨#[120]⟩ ⟨#[]⟩ 0 W
    rw [bad1] at hh
    have HH : Hid (∀ W, Calls Tryz.prog 27 #[cmdV 7 ⟨#[107]⟩ ⟨#[120]⟩ ⟨#[]⟩ 0] W fun e w' => e = .returned (.int .i64 8) ∧ Below W.heap.size W w') := hh
    clear hh
    go_wp2_with fail
    obtain ⟨n4, hB4, hl4⟩ := laid_one (w := w2) (o := cmdO 7 ⟨#[107]⟩ ⟨#[120]⟩ ⟨#[]⟩ 0) hB2
    have hz4 : (w2.alloc (cmdO 7 ⟨#[107]⟩ ⟨#[120]⟩ ⟨#[]⟩ 0)).heap.size = w2.heap.size + 1 := by simp
    generalize w2.alloc (cmdO 7 ⟨#[107]⟩ ⟨#[120]⟩ ⟨#[]⟩ 0) = W4 at n4 hB4 hl4 hz4 ⊢
    refine (D _).mono ?_
    rintro e w5 ⟨pa, pc, ia, ic, sa, sc, la, lc, rfl, hb5⟩
    have hB5 := bstep hB4 hb5
    have sz5 := hb5.size
    obtain ⟨c4, f4⟩ := block_cells ((hb5.block _ (by omega)).trans n4)
    have l5 : w2.heap.size < w5.heap.size := by omega
    have hB5' := (hB5.alloc hB5.size (valO 0 ⟨#[]⟩ 0 (.slice pa 0 pc) (.slice ia 0 ic) (.slice sa 0 sc))).alloc (Nat.le_trans hB5.size (by simp)) (repO 0 ⟨#[]⟩ 0 (.slice la 0 lc))
    clear n4 D
    go_wp2_with fail
    refine (HH.out _).mono ?_
    rintro e w6 ⟨rfl, hb6⟩
    go_wp2_with fail
    refine (H23.out _).mono ?_
    rintro e w7 ⟨rfl, hb7⟩
    go_wp2_with fail
    go_ret
    exact ⟨rfl, bstep (bstep hB5' hb6) hb7⟩
  · have D := bad_of bad2
    have hh := fun W => checkCommand_any 6 ⟨#[107]⟩ ⟨#[102]⟩ ⟨#[]⟩ 1 W
    rw [bad2] at hh
    have HH : Hid (∀ W, Calls Tryz.prog 27 #[cmdV 6 ⟨#[107]⟩ ⟨#[102]⟩ ⟨#[]⟩ 1] W fun e w' => e = .returned (.int .i64 8) ∧ Below W.heap.size W w') := hh
    clear hh
    go_wp2_with fail
    obtain ⟨n4, hB4, hl4⟩ := laid_one (w := w2) (o := cmdO 6 ⟨#[107]⟩ ⟨#[102]⟩ ⟨#[]⟩ 1) hB2
    have hz4 : (w2.alloc (cmdO 6 ⟨#[107]⟩ ⟨#[102]⟩ ⟨#[]⟩ 1)).heap.size = w2.heap.size + 1 := by simp
    generalize w2.alloc (cmdO 6 ⟨#[107]⟩ ⟨#[102]⟩ ⟨#[]⟩ 1) = W4 at n4 hB4 hl4 hz4 ⊢
    refine (D _).mono ?_
    rintro e w5 ⟨pa, pc, ia, ic, sa, sc, la, lc, rfl, hb5⟩
    have hB5 := bstep hB4 hb5
    have sz5 := hb5.size
    obtain ⟨c4, f4⟩ := block_cells ((hb5.block _ (by omega)).trans n4)
    have l5 : w2.heap.size < w5.heap.size := by omega
    have hB5' := (hB5.alloc hB5.size (valO 0 ⟨#[]⟩ 0 (.slice pa 0 pc) (.slice ia 0 ic) (.slice sa 0 sc))).alloc (Nat.le_trans hB5.size (by simp)) (repO 0 ⟨#[]⟩ 0 (.slice la 0 lc))
    clear n4 D
    go_wp2_with fail
    refine (HH.out _).mono ?_
    rintro e w6 ⟨rfl, hb6⟩
    go_wp2_with fail
    refine (H23.out _).mono ?_
    rintro e w7 ⟨rfl, hb7⟩
    go_wp2_with fail
    go_ret
    exact ⟨rfl, bstep (bstep hB5' hb6) hb7⟩
  · have D := bad_of bad3
    have hh := fun W => checkCommand_any 22 ⟨#[107]⟩ ⟨#[]⟩ ⟨#[]⟩ 0 W
    rw [bad3] at hh
    have HH : Hid (∀ W, Calls Tryz.prog 27 #[cmdV 22 ⟨#[107]⟩ ⟨#[]⟩ ⟨#[]⟩ 0] W fun e w' => e = .returned (.int .i64 8) ∧ Below W.heap.size W w') := hh
    clear hh
    go_wp2_with fail
    obtain ⟨n4, hB4, hl4⟩ := laid_one (w := w2) (o := cmdO 22 ⟨#[107]⟩ ⟨#[]⟩ ⟨#[]⟩ 0) hB2
    have hz4 : (w2.alloc (cmdO 22 ⟨#[107]⟩ ⟨#[]⟩ ⟨#[]⟩ 0)).heap.size = w2.heap.size + 1 := by simp
    generalize w2.alloc (cmdO 22 ⟨#[107]⟩ ⟨#[]⟩ ⟨#[]⟩ 0) = W4 at n4 hB4 hl4 hz4 ⊢
    refine (D _).mono ?_
    rintro e w5 ⟨pa, pc, ia, ic, sa, sc, la, lc, rfl, hb5⟩
    have hB5 := bstep hB4 hb5
    have sz5 := hb5.size
    obtain ⟨c4, f4⟩ := block_cells ((hb5.block _ (by omega)).trans n4)
    have l5 : w2.heap.size < w5.heap.size := by omega
    have hB5' := (hB5.alloc hB5.size (valO 0 ⟨#[]⟩ 0 (.slice pa 0 pc) (.slice ia 0 ic) (.slice sa 0 sc))).alloc (Nat.le_trans hB5.size (by simp)) (repO 0 ⟨#[]⟩ 0 (.slice la 0 lc))
    clear n4 D
    go_wp2_with fail
    refine (HH.out _).mono ?_
    rintro e w6 ⟨rfl, hb6⟩
    go_wp2_with fail
    refine (H23.out _).mono ?_
    rintro e w7 ⟨rfl, hb7⟩
    go_wp2_with fail
    go_ret
    exact ⟨rfl, bstep (bstep hB5' hb6) hb7⟩

theorem walk (v0 v1 : Value) (w : World) (h0 : IsRaw v0) (h1 : IsInt v1) :
    Calls Tryz.prog 13 #[v0, v1] w fun e w' => e = .returned (.bool true) ∧ Below w.heap.size w w' := by
  obtain ⟨k, key, fld, n, txt, rfl, b1, b2, b3, b4, b5⟩ := h0
  obtain ⟨b, rfl, c1, c2⟩ := h1
  exact walk0 k key fld n txt b w b1 b2 b3 b4 b5 ⟨c1, c2⟩

theorem own : ownKnob Tryz.prog.godebug = none := by kernel_rfl
theorem laidOut : laidOutB Tryz.prog = true := by kernel_rfl

set_option maxRecDepth 100000 in
theorem lifted (os : Os) (started : os.Started) (H : Type) (enc : TypeId × Value → H) :
    ReturnsInHanded {} Tryz.checked os 13 .any (Rows.commandBareSpec.pre6 enc Tryz.prog Tryz.f13 Rows.commandBareRow.domain false) (Rows.commandBareSpec.post enc Tryz.prog Tryz.f13 false true false false) := by
  refine returnsInHanded_of_change (C := Tryz.checked) own started (by kernel_rfl) Tryz.func13
    (ChangeSpec.witness6 (enc := enc) (C := Tryz.checked) false ⟨#[], #[.agg #[.int .i64 0, .int .i64 0, .int .i64 0, .int .i64 0, .string ByteArray.empty], .int .i64 0], []⟩ 8 (by kernel_rfl) (by kernel_rfl) (by kernel_rfl) (by kernel_rfl)) ?_
  intro W base args ds gs before hval0 hW hcnd _
  have hval : ∀ (j : Nat) t v, Tryz.f13.params[j]? = some t → args[j]? = some v → Value.okWide Tryz.prog W .any base t v := hval0
  have hW' := hW
  obtain ⟨p, q, hA0, hV, rfl, hfz, hnd⟩ := hW
  have hA : DataW.TrodAll enc Tryz.prog W 0 (fun _ => true) true Tryz.f13.params.toList args.toList ds p := hA0
  rw [Tryz.params13] at hA hval
  obtain ⟨v0, vs0, d0, ds0, p0, q0, hargs, rfl, rfl, h0, r0⟩ := trodAll_cons hA
  obtain ⟨v1, vs1, d1, ds1, p1, q1, rfl, rfl, rfl, h1, r1⟩ := trodAll_cons r0
  obtain ⟨rfl, rfl, rfl⟩ := trodAll_nil r1
  obtain rfl : args = #[v0, v1] := by cases args; simp_all
  obtain ⟨rfl, rfl⟩ := trodVars_none hV
  have lt0 : ∀ x ∈ p0, x.block < W.heap.size := by obtain ⟨m, hm⟩ := h0; exact DataW.trod_lt m _ _ _ hm
  have g0 := shape_raw (hval 0 24 v0 rfl rfl) h0
  have lt1 : ∀ x ∈ p1, x.block < W.heap.size := by obtain ⟨m, hm⟩ := h1; exact DataW.trod_lt m _ _ _ hm
  have g1 := shape_int (hval 1 3 v1 rfl rfl) h1
  clear hA0 hval0
  refine (walk v0 v1 W g0 g1).mono fun e W' ⟨he, bel⟩ => ?_
  subst he
  exact ⟨_, rfl, _, _, _, [], _, [], hW', trodAll_mk1 (shut_bool Tryz.underlying4 _), (trodAll_cons_mk (Below.trod laidOut (by kernel_rfl) (of_decide_eq_true (by kernel_rfl)) h0 bel lt0) (trodAll_cons_mk (Below.trod laidOut (by kernel_rfl) (of_decide_eq_true (by kernel_rfl)) h1 bel lt1) trodAll_mk0)), rfl, bel.frame _, fun h => by cases h⟩

theorem over : Rows.commandBareRow.holds Tryz.pinned (OpenSpec.ofChange Rows.commandBareSpec) :=
  OpenClaim.holds_of_wide 13 Tryz.f13 rfl rfl rfl rfl rfl rfl rfl ⟨rfl, rfl, rfl, rfl, rfl⟩ rfl rfl rfl rfl rfl (by kernel_rfl) Tryz.func13 (by kernel_rfl)
    (of_decide_eq_true (by kernel_rfl)) (by unfold Func.isWrapper; first | (rw [if_pos (by decide +kernel)]; kernel_rfl) | (rw [if_neg (by decide +kernel)]; exact ⟨rfl, rfl⟩))
    (fun os started H enc _ => lifted os started H enc)

end Go.Proofs.YtlfmpgemanbpeaaGreat.commandBareDone
namespace Go.Proofs.YtlfmpgemanbpeaaGreat
theorem CommandBare_holds : Rows.CommandBareSaid := commandBareDone.over
end Go.Proofs.YtlfmpgemanbpeaaGreat
