/- A log has room for so many items: behind fewer than two hundred one more is laid, behind two hundred none: for every number the law returns true. No condition. -/
import Derived.Test.YteghlkckccdlcaaMc
import Derived.Test.YteghlkckccdlcaaOp
import Derived.Test.YteghlkckccdlcaaBx
namespace Go.Proofs.Yteghlkckccdlcaa.logFullDone
open Go.ChangeShapes Go.WideShapes Go.ChangeAt Go.RowKit
open Go.Proofs.Yteghlkckccdlcaa
set_option linter.unusedVariables false
set_option maxRecDepth 100000

abbrev nopO1 : Obj := .cells #[.int .i64 1, .int .i64 0, .bool true, .int .i64 0, .int .i64 0, .int .i64 0, .string ⟨#[]⟩, .string ⟨#[]⟩, .string ⟨#[]⟩, .int .i64 0] 46
theorem row_one (w : World) : RowI (w.alloc nopO1) (.slice (some ⟨w.heap.size, 0, none⟩) 1 1) [nopAt 1 0] := by
  refine ⟨by simp, _, 1, rfl, by simp, by omega, .inr ⟨w.heap.size, 0, rfl, by simp, fun i hi c hc => ?_⟩⟩
  obtain rfl : i = 0 := by simpa using hi
  have h := (cellsB (alloc_at w nopO1)).1 (0 + 0 * 10 + c)
  rw [h]
  simp [encIt, nopAt, noCmd]
theorem termOf_any (m : Nat) (w : World) : Calls Try.prog 27 #[.int .i64 (m : Int)] w fun e w' => e = .returned (.int .i64 (if m = 0 then 0 else 1)) ∧ w = w' := by
  by_cases h : m = 0
  · subst h
    go_enter Try.func27, Try.ntmps27
    go_wp2_with fail
    go_ret
    exact ⟨rfl, rfl⟩
  · have h1 : min (m : Int) 1 = 1 := by omega
    rw [if_neg h]
    go_enter Try.func27, Try.ntmps27
    go_wp2_with fail
    go_ret
    exact ⟨rfl, rfl⟩

theorem boxC {V w3 : World} {o2 : Obj} {b t : Int} {y : Value} (hb : Below ((V.alloc (logO 0 0 (.slice none 0 0))).alloc o2).drew.heap.size ((V.alloc (logO 0 0 (.slice none 0 0))).alloc o2).drew w3) :
    (((w3.setCell ⟨V.heap.size, 0, none⟩ (.int .i64 b)).setCell ⟨V.heap.size, 1, none⟩ (.int .i64 t)).setCell ⟨V.heap.size, 2, none⟩ y).heap[V.heap.size]? = some (logO b t y) ∧ Below V.heap.size V (((w3.setCell ⟨V.heap.size, 0, none⟩ (.int .i64 b)).setCell ⟨V.heap.size, 1, none⟩ (.int .i64 t)).setCell ⟨V.heap.size, 2, none⟩ y) := by
  have hz : ((V.alloc (logO 0 0 (.slice none 0 0))).alloc o2).drew.heap.size = V.heap.size + 2 := by simp [World.drew]
  have k3 : w3.heap[V.heap.size]? = some (logO 0 0 (.slice none 0 0)) := (hb.block V.heap.size (by omega)).trans ((Below.heap_alloc (V.alloc (logO 0 0 (.slice none 0 0))) o2 V.heap.size (by simp)).trans (alloc_at V _))
  have hup : Below V.heap.size V w3 := bstep ((balloc V (logO 0 0 (.slice none 0 0))).alloc (by simp) o2).drew hb
  exact ⟨setCell_at _ (setCell_at _ (setCell_at _ k3)), ((hup.setCell (Nat.le_refl _) _).setCell (Nat.le_refl _) _).setCell (Nat.le_refl _) _⟩

set_option maxHeartbeats 16000000 in
theorem walk0 (n : Int) (w : World) (b1 : -9223372036854775808 ≤ n ∧ n ≤ 9223372036854775807) :
    Calls Try.prog 12 #[.int .i64 n] w fun e w' => e = .returned (.bool true) ∧ Below w.heap.size w w' := by
  have p1 := fun W => picked_any n 400 W b1.1 b1.2 (by omega) (by omega)
  have l1 := pickedN_lt n (show 0 < 400 by omega)
  generalize pickedN n 400 = k at *
  have P1 : Hid (∀ W, Calls Try.prog 19 #[.int .i64 n, .int .i64 400] W fun e w' => e = .returned (.int .i64 (k : Nat)) ∧ W = w') := p1
  obtain ⟨M, hM⟩ : ∃ M, M = min k 200 := ⟨_, rfl⟩
  have hMk : min (k : Int) 200 = (M : Int) := by omega
  have hM2 : M ≤ 200 := by omega
  have HM0 : Hid (M = min k 200) := hM
  clear hM
  have hX := fun (W : World) (r xs : Value) (h : RowI W r (List.replicate M (nopAt 1 0))) (hx : RowI W xs [nopAt 1 0]) => match_any ⟨0, 0, List.replicate M (nopAt 1 0)⟩ r M (if M = 0 then 0 else 1) xs [nopAt 1 0] W h hx
  rw [matchR_ones M hM2] at hX
  have HT : Hid (∀ W, Calls Try.prog 27 #[.int .i64 (M : Int)] W fun e w' => e = .returned (.int .i64 (if M = 0 then 0 else 1)) ∧ W = w') := fun W => termOf_any M W
  have HX : Hid (∀ (W : World) (r xs : Value), RowI W r (List.replicate M (nopAt 1 0)) → RowI W xs [nopAt 1 0] → Calls Try.prog 14 #[logV 0 0 r, .int .i64 (M : Int), .int .i64 (if M = 0 then 0 else 1), xs] W (MatchOk W (if M < 200 then ⟨⟨0, 0, List.replicate (M + 1) (nopAt 1 0)⟩, true, (M : Int) + 1, 0⟩ else ⟨nilLg, false, 0, 6⟩))) := hX
  generalize (if M = 0 then (0 : Int) else 1) = q at *
  obtain ⟨L, F, fr, er, hLm, hY, hcase⟩ : ∃ (L : List Itm) (F : Bool) (fr er : Int), L.length ≤ 201 ∧ (∀ (W : World) (r xs : Value), RowI W r (List.replicate M (nopAt 1 0)) → RowI W xs [nopAt 1 0] → Calls Try.prog 14 #[logV 0 0 r, .int .i64 (M : Int), .int .i64 q, xs] W (MatchOk W ⟨⟨0, 0, L⟩, F, fr, er⟩)) ∧
      ((k < 200 ∧ L.length = k + 1 ∧ F = true ∧ fr = (k : Int) + 1 ∧ er = 0) ∨ (200 ≤ k ∧ L.length = 0 ∧ F = false ∧ fr = 0 ∧ er = 6)) := by
    have hM := HM0.out
    by_cases h : k < 200
    · have hMM : M = k := by omega
      subst hMM
      refine ⟨List.replicate (M + 1) (nopAt 1 0), true, (M : Int) + 1, 0, by simp; omega, fun W r xs h1 h2 => ?_, .inl ⟨h, by simp, rfl, rfl, rfl⟩⟩
      have := HX.out W r xs h1 h2
      rwa [if_pos h] at this
    · refine ⟨[], false, 0, 6, by simp, fun W r xs h1 h2 => ?_, .inr ⟨by omega, rfl, rfl, rfl, rfl⟩⟩
      have := HX.out W r xs h1 h2
      rwa [if_neg (by omega)] at this
  have HY : Hid (∀ (W : World) (r xs : Value), RowI W r (List.replicate M (nopAt 1 0)) → RowI W xs [nopAt 1 0] → Calls Try.prog 14 #[logV 0 0 r, .int .i64 (M : Int), .int .i64 q, xs] W (MatchOk W ⟨⟨0, 0, L⟩, F, fr, er⟩)) := hY
  have HCs : Hid ((k < 200 ∧ L.length = k + 1 ∧ F = true ∧ fr = (k : Int) + 1 ∧ er = 0) ∨ (200 ≤ k ∧ L.length = 0 ∧ F = false ∧ fr = 0 ∧ er = 6)) := hcase
  clear p1 b1 hX hY HX hcase
  go_enter Try.func12, Try.ntmps12
  go_wp2_with fail
  refine (P1.out _).mono ?_
  rintro e w1 ⟨rfl, rfl⟩
  clear P1
  go_wp2_with fail
  go_loopw [4, 5] (fun sv c wr => ∃ m : Nat, c = .int .i64 (m : Int) ∧ m ≤ M ∧ OwnI w.heap.size wr sv (List.replicate m (nopAt 1 0)) ∧ Below w.heap.size w wr) (fun _ c _ => M - (intOf c).toNat)
  case atStart => exact ⟨0, by simp, by omega, OwnI.nil _ _, Below.refl _ _⟩
  case round =>
    obtain ⟨m, rfl, hm, hown, hb⟩ := hrel
    obtain ⟨va, vc, rfl⟩ := hown.shape
    have HO : Hid (OwnI w.heap.size wr (.slice va (List.replicate m (nopAt 1 0)).length vc) (List.replicate m (nopAt 1 0))) := hown
    have hsz := hb.size
    simp only [List.length_replicate] at HO ⊢
    clear hown
    by_cases hlt : m < M
    · have hlt' : (m : Int) < (M : Int) := by omega
      have HRN : Hid (RowI (wr.alloc nopO1) (.slice (some ⟨wr.heap.size, 0, none⟩) 1 1) [nopAt 1 0]) := row_one wr
      go_wp2_with (at_builtin; refine wpList_append_items _ rfl _ _ rfl w.heap.size _ (List.replicate m (nopAt 1 0)) rfl (World.ownsRow.alloc HO.out nopO1) _ [nopAt 1 0] rfl HRN.out ?_ ?_ ?_)
      · simp; omega
      · have := hsz; simp; omega
      intro v1 w2 hown1 hg1
      have hB2 : Below w.heap.size w w2 := (hb.alloc hb.size nopO1).trans (OwnI.below (World.ownsRow.alloc HO.out nopO1) (by simp; omega) hg1)
      obtain ⟨ya, yc, rfl⟩ := hown1.shape
      rw [show List.replicate m (nopAt 1 0) ++ [nopAt 1 0] = List.replicate (m + 1) (nopAt 1 0) from List.replicate_succ'.symm] at hown1 ⊢
      have HO1 : Hid (OwnI w.heap.size w2 (.slice ya (List.replicate (m + 1) (nopAt 1 0)).length yc) (List.replicate (m + 1) (nopAt 1 0))) := hown1
      simp only [List.length_replicate] at HO1 ⊢
      clear hown1 hg1 HO HRN
      go_wp2_with fail
      refine ⟨⟨m + 1, by go_num, by omega, ?_, hB2⟩, by simp [intOf]; omega⟩
      exact HO1.out
    · have hge : ¬ ((m : Int) < (M : Int)) := by omega
      obtain rfl : m = M := by omega
      have hrow := OwnI.row HO.out (by simp; omega)
      clear HO
      go_wp2_with fail
      have n1 := alloc_at wr (logO 0 0 (.slice va m vc))
      have hB1 := hb.alloc hb.size (logO 0 0 (.slice va m vc))
      have hrow1 := hrow.below (balloc wr (logO 0 0 (.slice va m vc)))
      clear hrow hb hsz
      generalize wr.alloc (logO 0 0 (.slice va m vc)) = V at n1 hB1 hrow1 ⊢
      generalize wr.heap.size = bg at n1 ⊢
      have HRa : Hid (∀ W, Below V.heap.size V W → RowI W (.slice va m vc) (List.replicate m (nopAt 1 0))) := fun W hW => hrow1.below hW
      have HB1 : Hid (Below w.heap.size w V) := hB1
      have hzg := lt_at n1
      obtain ⟨c1, f1⟩ := cellsB n1
      obtain ⟨r0, r1, r2⟩ : V.cell? ⟨bg, 0, none⟩ = some (.int .i64 0) ∧ V.cell? ⟨bg, 1, none⟩ = some (.int .i64 0) ∧ V.cell? ⟨bg, 2, none⟩ = some (.slice va m vc) := ⟨c1 0, c1 1, c1 2⟩
      clear c1 hrow1
      have hne : ¬ bg = V.heap.size := by omega
      have hnf : ¬ V.heap.size = bg := by omega
      have hne2 : ¬ bg = V.heap.size + 1 := by omega
      have hnf2 : ¬ V.heap.size + 1 = bg := by omega
      have Hn1 : Hid (RowI (V.alloc nopO1).drew (.slice (some ⟨V.heap.size, 0, none⟩) 1 1) [nopAt 1 0]) := (row_one V).below (Below.refl _ _).drew
      have HB2 : Hid (Below V.heap.size V ((V.alloc nopO1).alloc (logO 0 0 (.slice none 0 0))).drew) := ((balloc V nopO1).alloc (by simp) _).drew
      have Hn2 : Hid (RowI ((V.alloc nopO1).alloc (logO 0 0 (.slice none 0 0))).drew (.slice (some ⟨V.heap.size, 0, none⟩) 1 1) [nopAt 1 0]) := (row_one V).below (balloc _ _).drew
      have HB3 : Hid (Below V.heap.size V ((V.alloc (logO 0 0 (.slice none 0 0))).alloc nopO1).drew) := ((balloc V (logO 0 0 (.slice none 0 0))).alloc (by simp) _).drew
      have Hn3 : Hid (RowI ((V.alloc (logO 0 0 (.slice none 0 0))).alloc nopO1).drew (.slice (some ⟨V.heap.size + 1, 0, none⟩) 1 1) [nopAt 1 0]) := by
        have h3 := (row_one (V.alloc (logO 0 0 (.slice none 0 0)))).below (Below.refl _ _).drew
        rw [show (V.alloc (logO 0 0 (.slice none 0 0))).heap.size = V.heap.size + 1 by simp] at h3
        exact h3
      have hz1 : bg < (V.alloc nopO1).drew.heap.size := Nat.lt_of_lt_of_le hzg (by simp [World.drew])
      have hz2 : bg < ((V.alloc nopO1).alloc (logO 0 0 (.slice none 0 0))).drew.heap.size := Nat.lt_of_lt_of_le hzg (by simp [World.drew]; omega)
      have hz3 : bg < ((V.alloc (logO 0 0 (.slice none 0 0))).alloc nopO1).drew.heap.size := Nat.lt_of_lt_of_le hzg (by simp [World.drew]; omega)
      have hz4 : V.heap.size + 1 < ((V.alloc nopO1).alloc (logO 0 0 (.slice none 0 0))).drew.heap.size := by simp [World.drew]
      have hz5 : V.heap.size < ((V.alloc (logO 0 0 (.slice none 0 0))).alloc nopO1).drew.heap.size := by simp [World.drew]; omega
      go_region_held3 (fun w' => w'.cell? ⟨bg, 0, none⟩ = some (.int .i64 0) ∧ w'.cell? ⟨bg, 1, none⟩ = some (.int .i64 0) ∧ w'.cell? ⟨bg, 2, none⟩ = some (.slice va m vc)) (go_keep) (first
        | (go_at_call 27; (with_reducible refine (HT.out _).mono ?_); rintro e wz ⟨rfl, rfl⟩)
        | (go_at_call 14; (with_reducible refine (HY.out _ _ _ (HRa.out _ (balloc _ _).drew) (Hn1.out)).mono ?_); rintro e w3 ⟨r, rfl, hown, hb3⟩; obtain ⟨ya, yc, rfl⟩ := hown.shape; obtain ⟨x1, x2⟩ := same_block (hb3.block bg hz1))
        | (go_at_call 14; (with_reducible refine (HY.out _ _ _ (HRa.out _ HB2.out) (Hn2.out)).mono ?_); rintro e w3 ⟨r, rfl, hown, hb3⟩; obtain ⟨ya, yc, rfl⟩ := hown.shape; obtain ⟨x1, x2⟩ := same_block (hb3.block bg hz2); obtain ⟨x3, x4⟩ := same_block (hb3.block (V.heap.size + 1) hz4))
        | (go_at_call 14; (with_reducible refine (HY.out _ _ _ (HRa.out _ HB3.out) (Hn3.out)).mono ?_); rintro e w3 ⟨r, rfl, hown, hb3⟩; obtain ⟨ya, yc, rfl⟩ := hown.shape; obtain ⟨x1, x2⟩ := same_block (hb3.block bg hz3); obtain ⟨x3, x4⟩ := same_block (hb3.block V.heap.size hz5)))
      all_goals
        first
        | (obtain ⟨mx, up, -⟩ := boxA (w2 := V.alloc nopO1) (b := 0) (t := 0) hown hb3 (by show L.length ≤ _; omega)
           replace up := bstep (balloc V nopO1) up
           clear x1 x2 hown hb3
           generalize w3.alloc (logO 0 0 (.slice ya L.length yc)) = V3 at *
           generalize w3.heap.size = bx at *)
        | (obtain ⟨mx, up, -⟩ := boxB (w2 := V.alloc nopO1) (b := 0) (t := 0) rfl rfl hown hb3 (by show L.length ≤ _; omega)
           replace up := bstep (balloc V nopO1) up
           rw [show (V.alloc nopO1).heap.size = V.heap.size + 1 by simp] at mx up
           clear x1 x2 x3 x4 hown hb3
           generalize ((w3.setCell ⟨V.heap.size + 1, 0, none⟩ (.int .i64 0)).setCell ⟨V.heap.size + 1, 1, none⟩ (.int .i64 0)).setCell ⟨V.heap.size + 1, 2, none⟩ (.slice ya L.length yc) = V3 at *
           generalize V.heap.size + 1 = bx at mx ⊢)
        | (obtain ⟨mx, up⟩ := boxC (V := V) (b := 0) (t := 0) (y := .slice ya L.length yc) hb3
           clear x1 x2 x3 x4 hown hb3
           generalize ((w3.setCell ⟨V.heap.size, 0, none⟩ (.int .i64 0)).setCell ⟨V.heap.size, 1, none⟩ (.int .i64 0)).setCell ⟨V.heap.size, 2, none⟩ (.slice ya L.length yc) = V3 at *
           generalize V.heap.size = bx at mx ⊢)
        have hB5 := bstep HB1.out up
        obtain ⟨d1, g1⟩ := cellsB mx
        have hzx := lt_at mx
        clear r0 r1 r2 f1 mx up
        rcases HCs.out with ⟨q1, q2, rfl, rfl, rfl⟩ | ⟨q1, q2, rfl, rfl, rfl⟩
        · have q3 : ¬ (200 ≤ (k : Int)) := by omega
          go_wp2_with fail
          go_ret
          exact ⟨ret_bool (by simp), hB5⟩
        · have q3 : 200 ≤ (k : Int) := by omega
          go_wp2_with fail
          go_ret
          exact ⟨ret_bool (by simp), hB5⟩

theorem walk (v0 : Value) (w : World) (h0 : IsInt v0) :
    Calls Try.prog 12 #[v0] w fun e w' => e = .returned (.bool true) ∧ Below w.heap.size w w' := by
  obtain ⟨x1, rfl, c1, c2⟩ := h0
  exact walk0 x1 w ⟨c1, c2⟩

theorem own : ownKnob Try.prog.godebug = none := by kernel_rfl
theorem laidOut : laidOutB Try.prog = true := by kernel_rfl

set_option maxRecDepth 100000 in
theorem lifted (os : Os) (started : os.Started) (H : Type) (enc : TypeId × Value → H) :
    ReturnsInHanded {} Try.checked os 12 .any (Rows.logFullSpec.pre6 enc Try.prog Try.f12 Rows.logFullRow.domain false) (Rows.logFullSpec.post enc Try.prog Try.f12 false true false false) := by
  refine returnsInHanded_of_change (C := Try.checked) own started (by kernel_rfl) Try.func12
    (ChangeSpec.witness6 (enc := enc) (C := Try.checked) false ⟨#[], #[.int .i64 0], []⟩ 8 (by kernel_rfl) (by kernel_rfl) (by kernel_rfl) (by kernel_rfl)) ?_
  intro W base args ds gs before hval0 hW hcnd _
  have hval : ∀ (j : Nat) t v, Try.f12.params[j]? = some t → args[j]? = some v → Value.okWide Try.prog W .any base t v := hval0
  have hW' := hW
  obtain ⟨p, q, hA0, hV, rfl, hfz, hnd⟩ := hW
  have hA : DataW.TrodAll enc Try.prog W 0 (fun _ => true) true Try.f12.params.toList args.toList ds p := hA0
  rw [Try.params12] at hA hval
  obtain ⟨v0, vs0, d0, ds0, p0, q0, hargs, rfl, rfl, h0, r0⟩ := trodAll_cons hA
  obtain ⟨rfl, rfl, rfl⟩ := trodAll_nil r0
  obtain rfl : args = #[v0] := by cases args; simp_all
  obtain ⟨rfl, rfl⟩ := trodVars_none hV
  have lt0 : ∀ x ∈ p0, x.block < W.heap.size := by obtain ⟨m, hm⟩ := h0; exact DataW.trod_lt m _ _ _ hm
  have g0 := shape_int (hval 0 3 v0 rfl rfl) h0
  clear hA0 hval0
  refine (walk v0 W g0).mono fun e W' ⟨he, bel⟩ => ?_
  subst he
  exact ⟨_, rfl, _, _, _, [], _, [], hW', trodAll_mk1 (shut_bool Try.underlying4 _), (trodAll_cons_mk (Below.trod laidOut (by kernel_rfl) (of_decide_eq_true (by kernel_rfl)) h0 bel lt0) trodAll_mk0), rfl, bel.frame _, fun h => by cases h⟩

theorem over : Rows.logFullRow.holds Try.pinned (OpenSpec.ofChange Rows.logFullSpec) :=
  OpenClaim.holds_of_wide 12 Try.f12 rfl rfl rfl rfl rfl rfl rfl ⟨rfl, rfl, rfl, rfl, rfl⟩ rfl rfl rfl rfl rfl (by kernel_rfl) Try.func12 (by kernel_rfl)
    (of_decide_eq_true (by kernel_rfl)) (by unfold Func.isWrapper; first | (rw [if_pos (by decide +kernel)]; kernel_rfl) | (rw [if_neg (by decide +kernel)]; exact ⟨rfl, rfl⟩))
    (fun os started H enc _ => lifted os started H enc)

end Go.Proofs.Yteghlkckccdlcaa.logFullDone
namespace Go.Proofs.Yteghlkckccdlcaa
theorem LogFull_holds : Rows.LogFullSaid := logFullDone.over
end Go.Proofs.Yteghlkckccdlcaa
