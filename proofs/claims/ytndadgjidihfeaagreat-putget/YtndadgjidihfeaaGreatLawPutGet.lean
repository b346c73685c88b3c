/- What was put is got, whatever was there: for every kind, all raw numbers and every text the law returns true. No condition. -/
import Derived.Test.YtndadgjidihfeaaGreatFw
import Derived.Test.YtndadgjidihfeaaGreatOpJ
namespace Go.Proofs.YtndadgjidihfeaaGreat.putGetDone
open Go.ChangeShapes Go.WideShapes Go.ChangeAt Go.RowKit
open Go.Proofs.YtndadgjidihfeaaGreat
set_option linter.unusedVariables false
set_option maxRecDepth 100000

set_option maxHeartbeats 4000000 in
theorem walk0 (kind : Int) (s : Value) (l : List Raw) (t0 : ByteArray) (w : World) (bk : -9223372036854775808 ≤ kind ∧ kind ≤ 9223372036854775807) (hl : RawsAt w s l) (bt : t0.size ≤ 9223372036854775807) :
    Calls Tryz.prog 5 #[.int .i64 kind, s, .string t0] w fun e w' => e = .returned (.bool true) ∧ Below w.heap.size w w' := by
  have hF := value_any kind s l w bk hl
  have hwl := valFor_well (pickedN kind 6) l
  have hC := fun W => cut_any t0 20 W bt (by omega)
  have hsz := size_cut t0 20
  generalize cutB t0 20 = t at hC hsz
  generalize valFor (pickedN kind 6) l = x at hF hwl
  have A1 : Hid (Acts x (putC t) ⟨1, t, 0, [], [], []⟩ {} 0) := put_acts hwl t hsz
  have A2 : Hid (Acts ⟨1, t, 0, [], [], []⟩ getC ⟨1, t, 0, [], [], []⟩ { text := t } 0) := get_acts t hsz
  have HF : Hid (Calls Tryz.prog 27 #[.int .i64 kind, s] w fun e w' => ∃ v, e = .returned v ∧ RepsF w.heap.size w' v x ∧ Below w.heap.size w w') := hF
  have HC : Hid (∀ W, Calls Tryz.prog 26 #[.string t0, .int .i64 20] W fun e w' => e = .returned (.string t) ∧ W = w') := hC
  clear hF hC hwl hl bk bt
  go_enter Tryz.func5, Tryz.ntmps5
  go_wp2_with fail
  refine (HC.out _).mono ?_
  rintro e w0 ⟨rfl, rfl⟩
  go_wp2_with fail
  refine HF.out.mono ?_
  rintro e w1 ⟨v, rfl, hr, hB⟩
  clear HF HC
  obtain ⟨ps, is, ss, rfl, hv, -⟩ := hr
  obtain ⟨pa, pc, ia, ic, sa, sc, rfl, rfl, rfl, -⟩ := hv.lens
  go_wp2_with fail
  refine (A1.out _ _ _ _ hv).mono ?_
  rintro e w2 ⟨pa2, pc2, ia2, ic2, sa2, sc2, la2, lc2, rfl, hv2, -, hb2⟩
  clear hv
  replace hB := bstep hB hb2
  clear hb2
  simp only [List.length_nil] at hv2 ⊢
  go_wp2_with fail
  obtain ⟨nw, na⟩ := two_new w2 (valO 1 t 0 (.slice pa2 0 pc2) (.slice ia2 0 ic2) (.slice sa2 0 sc2)) (repO 0 ⟨#[]⟩ 0 (.slice la2 0 lc2))
  have hbx : Below w2.heap.size w2 ((w2.alloc (valO 1 t 0 (.slice pa2 0 pc2) (.slice ia2 0 ic2) (.slice sa2 0 sc2))).alloc (repO 0 ⟨#[]⟩ 0 (.slice la2 0 lc2))) := (balloc _ _).alloc (by simp) _
  replace hv2 := hv2.below hbx
  replace hB := bstep hB hbx
  clear hbx
  generalize (w2.alloc (valO 1 t 0 (.slice pa2 0 pc2) (.slice ia2 0 ic2) (.slice sa2 0 sc2))).alloc (repO 0 ⟨#[]⟩ 0 (.slice la2 0 lc2)) = V2 at nw na hv2 hB ⊢
  generalize w2.heap.size = bw at nw na ⊢
  refine (A2.out _ _ _ _ hv2).mono ?_
  rintro e w3 ⟨pa3, pc3, ia3, ic3, sa3, sc3, la3, lc3, rfl, hv3, -, hb3⟩
  replace nw := (hb3.block _ (lt_at nw)).trans nw
  replace na := (hb3.block _ (lt_at na)).trans na
  replace hv2 := hv2.below hb3
  replace hB := bstep hB hb3
  clear hb3
  have hlw := lt_at nw
  have hla := lt_at na
  simp only [List.length_nil] at hv3 ⊢
  go_upto_region 4 with fail
  clear hlw hla
  obtain ⟨nx, nb⟩ := two_new w3 (valO 1 t 0 (.slice pa3 0 pc3) (.slice ia3 0 ic3) (.slice sa3 0 sc3)) (repO 0 t 0 (.slice la3 0 lc3))
  have hbx : Below w3.heap.size w3 ((w3.alloc (valO 1 t 0 (.slice pa3 0 pc3) (.slice ia3 0 ic3) (.slice sa3 0 sc3))).alloc (repO 0 t 0 (.slice la3 0 lc3))) := (balloc _ _).alloc (by simp) _
  replace nw := (hbx.block _ (lt_at nw)).trans nw
  replace na := (hbx.block _ (lt_at na)).trans na
  replace hv2 := hv2.below hbx
  replace hv3 := hv3.below hbx
  replace hB := bstep hB hbx
  clear hbx
  generalize (w3.alloc (valO 1 t 0 (.slice pa3 0 pc3) (.slice ia3 0 ic3) (.slice sa3 0 sc3))).alloc (repO 0 t 0 (.slice la3 0 lc3)) = V3 at nx nb nw na hv2 hv3 hB ⊢
  generalize w3.heap.size = bx at nx nb ⊢
  obtain ⟨c2, f2⟩ := cellsB nw
  obtain ⟨c3, f3⟩ := cellsB na
  obtain ⟨c4, f4⟩ := cellsB nb
  obtain ⟨c5, f5⟩ := cellsB nx
  have hs1 := sameValue_lists hv2 hv3
  go_wp2_with fail
  refine hs1.mono ?_
  rintro e w4 ⟨rfl, hb4⟩
  replace hB := bstep hB hb4
  clear hb4
  go_wp2_with fail
  go_ret
  exact ⟨rfl, hB⟩

theorem walk (v0 v1 v2 : Value) (w : World) (h0 : IsInt v0) (h1 : IsRaws w v1) (h2 : IsString v2) :
    Calls Tryz.prog 5 #[v0, v1, v2] w fun e w' => e = .returned (.bool true) ∧ Below w.heap.size w w' := by
  obtain ⟨k, rfl, c1, c2⟩ := h0
  obtain ⟨l, hl, hz⟩ := h1
  obtain ⟨t, rfl, ht⟩ := h2
  exact walk0 k v1 l t w ⟨c1, c2⟩ hl ht

theorem own : ownKnob Tryz.prog.godebug = none := by kernel_rfl
theorem laidOut : laidOutB Tryz.prog = true := by kernel_rfl

set_option maxRecDepth 100000 in
theorem lifted (os : Os) (started : os.Started) (H : Type) (enc : TypeId × Value → H) :
    ReturnsInHanded {} Tryz.checked os 5 .any (Rows.putGetSpec.pre6 enc Tryz.prog Tryz.f5 Rows.putGetRow.domain false) (Rows.putGetSpec.post enc Tryz.prog Tryz.f5 false true false false) := by
  refine returnsInHanded_of_change_sized (C := Tryz.checked) own started (by kernel_rfl) Tryz.func5
    (ChangeSpec.witness6 (enc := enc) (C := Tryz.checked) false ⟨#[], #[.int .i64 0, .slice none 0 0, .string ByteArray.empty], []⟩ 8 (by kernel_rfl) (by kernel_rfl) (by kernel_rfl) (by kernel_rfl)) ?_
  intro W base args ds gs before hval0 hW hcnd hsz _
  have hval : ∀ (j : Nat) t v, Tryz.f5.params[j]? = some t → args[j]? = some v → Value.okWide Tryz.prog W .any base t v := hval0
  have hW' := hW
  obtain ⟨p, q, hA0, hV, rfl, hfz, hnd⟩ := hW
  have hA : DataW.TrodAll enc Tryz.prog W 0 (fun _ => true) true Tryz.f5.params.toList args.toList ds p := hA0
  rw [Tryz.params5] at hA hval
  obtain ⟨v0, vs0, d0, ds0, p0, q0, hargs, rfl, rfl, h0, r0⟩ := trodAll_cons hA
  obtain ⟨v1, vs1, d1, ds1, p1, q1, rfl, rfl, rfl, h1, r1⟩ := trodAll_cons r0
  obtain ⟨v2, vs2, d2, ds2, p2, q2, rfl, rfl, rfl, h2, r2⟩ := trodAll_cons r1
  obtain ⟨rfl, rfl, rfl⟩ := trodAll_nil r2
  obtain rfl : args = #[v0, v1, v2] := by cases args; simp_all
  obtain ⟨rfl, rfl⟩ := trodVars_none hV
  have lt0 : ∀ x ∈ p0, x.block < W.heap.size := by obtain ⟨m, hm⟩ := h0; exact DataW.trod_lt m _ _ _ hm
  have g0 := shape_int (hval 0 3 v0 rfl rfl) h0
  have lt1 : ∀ x ∈ p1, x.block < W.heap.size := by obtain ⟨m, hm⟩ := h1; exact DataW.trod_lt m _ _ _ hm
  have g1 := shape_raws (hval 1 38 v1 rfl rfl) h1 (fun n hn => of_decide_eq_true (List.all_eq_true.1 hsz n (DataW.weights_mem_each (j := 1) rfl rfl n hn)))
  have lt2 : ∀ x ∈ p2, x.block < W.heap.size := by obtain ⟨m, hm⟩ := h2; exact DataW.trod_lt m _ _ _ hm
  have g2 := shape_string (hval 2 9 v2 rfl rfl) h2
  clear hA0 hval0
  refine (walk v0 v1 v2 W g0 g1 g2).mono fun e W' ⟨he, bel⟩ => ?_
  subst he
  exact ⟨_, rfl, _, _, _, [], _, [], hW', trodAll_mk1 (shut_bool Tryz.underlying4 _), (trodAll_cons_mk (Below.trod laidOut (by kernel_rfl) (of_decide_eq_true (by kernel_rfl)) h0 bel lt0) (trodAll_cons_mk (Below.trod laidOut (by kernel_rfl) (of_decide_eq_true (by kernel_rfl)) h1 bel lt1) (trodAll_cons_mk (Below.trod laidOut (by kernel_rfl) (of_decide_eq_true (by kernel_rfl)) h2 bel lt2) trodAll_mk0))), rfl, bel.frame _, fun h => by cases h⟩

theorem over : Rows.putGetRow.holds Tryz.pinned (OpenSpec.ofChange Rows.putGetSpec) :=
  OpenClaim.holds_of_wide 5 Tryz.f5 rfl rfl rfl rfl rfl rfl rfl ⟨rfl, rfl, rfl, rfl, rfl⟩ rfl rfl rfl rfl rfl (by kernel_rfl) Tryz.func5 (by kernel_rfl)
    (of_decide_eq_true (by kernel_rfl)) (by unfold Func.isWrapper; first | (rw [if_pos (by decide +kernel)]; kernel_rfl) | (rw [if_neg (by decide +kernel)]; exact ⟨rfl, rfl⟩))
    (fun os started H enc _ => lifted os started H enc)

end Go.Proofs.YtndadgjidihfeaaGreat.putGetDone
namespace Go.Proofs.YtndadgjidihfeaaGreat
theorem PutGet_holds : Rows.PutGetSaid := putGetDone.over
end Go.Proofs.YtndadgjidihfeaaGreat
