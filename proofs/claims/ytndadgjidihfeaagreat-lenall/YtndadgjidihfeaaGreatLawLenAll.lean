/- All elements of a value are as many as are counted, and to look changes nothing: for every kind of elements and all raw numbers the law returns true. No condition. -/
import Derived.Test.YtndadgjidihfeaaGreatFw
namespace Go.Proofs.YtndadgjidihfeaaGreat.lenAllDone
open Go.ChangeShapes Go.WideShapes Go.ChangeAt Go.RowKit
open Go.Proofs.YtndadgjidihfeaaGreat
set_option linter.unusedVariables false
set_option maxRecDepth 100000

set_option maxHeartbeats 4000000 in
theorem walk0 (kind : Int) (s : Value) (l : List Raw) (w : World) (bk : -9223372036854775808 ≤ kind ∧ kind ≤ 9223372036854775807) (hl : RawsAt w s l) (hz : l.length * 48 ≤ reachBytes) :
    Calls Tryz.prog 13 #[.int .i64 kind, s] w fun e w' => e = .returned (.bool true) ∧ Below w.heap.size w w' := by
  have p4 := fun W => picked_any kind 4 W bk.1 bk.2 (by omega) (by omega)
  have l4 := pickedN_lt kind (show 0 < 4 by omega)
  generalize pickedN kind 4 = q at p4 l4
  have hF := full_any (2 + (q : Int)) s l w (by omega) hl hz
  have hq : pickedN (2 + (q : Int)) 6 = 2 + q := by
    have := picked_self (2 + q) 6 (by omega)
    rw [show ((2 + q : Nat) : Int) = 2 + (q : Int) by omega] at this; exact this
  rw [hq] at hF
  obtain ⟨hok, hkd⟩ := fullFor_ok (2 + q) (by omega) l
  generalize fullFor (2 + q) l = x at hF hok hkd
  have h3 : 3 ≤ x.kind := by omega
  have A1 : Hid (Acts x lenC x { n := (x.size : Int) } 0) := len_acts hok h3
  have A2 : Hid (Acts x allC x { list := x.names } 0) := all_acts hok h3
  have hone := hok.one h3
  have hnl := names_length x
  have HF : Hid (Calls Tryz.prog 22 #[.int .i64 (2 + (q : Int)), s] w fun e w' => ∃ v, e = .returned v ∧ RepsF w.heap.size w' v x ∧ Below w.heap.size w w') := hF
  have P4 : Hid (∀ W, Calls Tryz.prog 28 #[.int .i64 kind, .int .i64 4] W fun e w' => e = .returned (.int .i64 (q : Nat)) ∧ W = w') := p4
  have hp0 : (0 : Int) < (x.size : Int) := by omega
  have HN : Hid (x.names.length = x.size) := hnl
  clear hF p4 hok hkd h3 hl hz hq hnl hone bk
  go_enter Tryz.func13, Tryz.ntmps13
  go_wp2_with fail
  refine (P4.out _).mono ?_
  rintro e w0 ⟨rfl, rfl⟩
  go_wp2_with fail
  refine HF.out.mono ?_
  rintro e w1 ⟨v, rfl, hr, hB⟩
  clear HF P4
  obtain ⟨ps, is, ss, rfl, hv, -⟩ := hr
  obtain ⟨pa, pc, ia, ic, sa, sc, rfl, rfl, rfl, -⟩ := hv.lens
  go_wp2_with fail
  have nv := alloc_at w1 (valO x.kind x.text x.count (.slice pa x.pairs.length pc) (.slice ia x.items.length ic) (.slice sa x.scores.length sc))
  have hbx := balloc w1 (valO x.kind x.text x.count (.slice pa x.pairs.length pc) (.slice ia x.items.length ic) (.slice sa x.scores.length sc))
  replace hv := hv.below hbx
  replace hB := hB.alloc hB.size (valO x.kind x.text x.count (.slice pa x.pairs.length pc) (.slice ia x.items.length ic) (.slice sa x.scores.length sc))
  clear hbx
  generalize w1.alloc (valO x.kind x.text x.count (.slice pa x.pairs.length pc) (.slice ia x.items.length ic) (.slice sa x.scores.length sc)) = V1 at nv hv hB ⊢
  generalize w1.heap.size = bv at nv ⊢
  refine (A1.out _ _ _ _ hv).mono ?_
  rintro e w2 ⟨pa2, pc2, ia2, ic2, sa2, sc2, la2, lc2, rfl, hv2, -, hb2⟩
  replace nv := (hb2.block _ (lt_at nv)).trans nv
  replace hv := hv.below hb2
  replace hB := bstep hB hb2
  clear hb2
  obtain ⟨c1, f1⟩ := cellsB nv
  have hlv := lt_at nv
  go_wp2_with fail
  clear c1 f1 hlv
  obtain ⟨nw, na⟩ := two_new w2 (valO x.kind x.text x.count (.slice pa2 x.pairs.length pc2) (.slice ia2 x.items.length ic2) (.slice sa2 x.scores.length sc2)) (repO 0 ⟨#[]⟩ (x.size : Int) (.slice la2 0 lc2))
  have hbx : Below w2.heap.size w2 ((w2.alloc (valO x.kind x.text x.count (.slice pa2 x.pairs.length pc2) (.slice ia2 x.items.length ic2) (.slice sa2 x.scores.length sc2))).alloc (repO 0 ⟨#[]⟩ (x.size : Int) (.slice la2 0 lc2))) := (balloc _ _).alloc (by simp) _
  replace nv := (hbx.block _ (lt_at nv)).trans nv
  replace hv := hv.below hbx
  replace hv2 := hv2.below hbx
  replace hB := bstep hB hbx
  clear hbx
  generalize (w2.alloc (valO x.kind x.text x.count (.slice pa2 x.pairs.length pc2) (.slice ia2 x.items.length ic2) (.slice sa2 x.scores.length sc2))).alloc (repO 0 ⟨#[]⟩ (x.size : Int) (.slice la2 0 lc2)) = V2 at nw na nv hv hv2 hB ⊢
  generalize w2.heap.size = bw at nw na ⊢
  refine (A2.out _ _ _ _ hv).mono ?_
  rintro e w3 ⟨pa3, pc3, ia3, ic3, sa3, sc3, la3, lc3, rfl, hv3, -, hb3⟩
  rw [HN.out]
  replace nv := (hb3.block _ (lt_at nv)).trans nv
  replace nw := (hb3.block _ (lt_at nw)).trans nw
  replace na := (hb3.block _ (lt_at na)).trans na
  replace hv := hv.below hb3
  replace hv2 := hv2.below hb3
  replace hB := bstep hB hb3
  clear hb3
  have hlv := lt_at nv
  have hlw := lt_at nw
  have hla := lt_at na
  go_upto_region 4 with fail
  clear hlv hlw hla
  obtain ⟨nx, nb⟩ := two_new w3 (valO x.kind x.text x.count (.slice pa3 x.pairs.length pc3) (.slice ia3 x.items.length ic3) (.slice sa3 x.scores.length sc3)) (repO 0 ⟨#[]⟩ 0 (.slice la3 x.size lc3))
  have hbx : Below w3.heap.size w3 ((w3.alloc (valO x.kind x.text x.count (.slice pa3 x.pairs.length pc3) (.slice ia3 x.items.length ic3) (.slice sa3 x.scores.length sc3))).alloc (repO 0 ⟨#[]⟩ 0 (.slice la3 x.size lc3))) := (balloc _ _).alloc (by simp) _
  replace nv := (hbx.block _ (lt_at nv)).trans nv
  replace nw := (hbx.block _ (lt_at nw)).trans nw
  replace na := (hbx.block _ (lt_at na)).trans na
  replace hv := hv.below hbx
  replace hv2 := hv2.below hbx
  replace hv3 := hv3.below hbx
  replace hB := bstep hB hbx
  clear hbx
  generalize (w3.alloc (valO x.kind x.text x.count (.slice pa3 x.pairs.length pc3) (.slice ia3 x.items.length ic3) (.slice sa3 x.scores.length sc3))).alloc (repO 0 ⟨#[]⟩ 0 (.slice la3 x.size lc3)) = V3 at nx nb nv nw na hv hv2 hv3 hB ⊢
  generalize w3.heap.size = bx at nx nb ⊢
  obtain ⟨c1, f1⟩ := cellsB nv
  obtain ⟨c2, f2⟩ := cellsB nw
  obtain ⟨c3, f3⟩ := cellsB na
  obtain ⟨c4, f4⟩ := cellsB nb
  have hs1 := sameValue_lists hv hv2
  go_wp2_with fail
  refine hs1.mono ?_
  rintro e w4 ⟨rfl, hb4⟩
  clear c1 f1 c2 f2 c3 f3 c4 f4 hs1
  replace nv := (hb4.block _ (lt_at nv)).trans nv
  replace nx := (hb4.block _ (lt_at nx)).trans nx
  replace hv := hv.below hb4
  replace hv3 := hv3.below hb4
  replace hB := bstep hB hb4
  clear hb4
  obtain ⟨c1, f1⟩ := cellsB nv
  obtain ⟨c2, f2⟩ := cellsB nx
  have hs2 := sameValue_lists hv hv3
  go_wp2_with fail
  refine hs2.mono ?_
  rintro e w5 ⟨rfl, hb5⟩
  replace hB := bstep hB hb5
  clear hb5
  go_wp2_with fail
  go_ret
  exact ⟨rfl, hB⟩

theorem walk (v0 v1 : Value) (w : World) (h0 : IsInt v0) (h1 : IsRaws w v1) :
    Calls Tryz.prog 13 #[v0, v1] w fun e w' => e = .returned (.bool true) ∧ Below w.heap.size w w' := by
  obtain ⟨k, rfl, c1, c2⟩ := h0
  obtain ⟨l, hl, hz⟩ := h1
  exact walk0 k v1 l w ⟨c1, c2⟩ hl hz

theorem own : ownKnob Tryz.prog.godebug = none := by kernel_rfl
theorem laidOut : laidOutB Tryz.prog = true := by kernel_rfl

set_option maxRecDepth 100000 in
theorem lifted (os : Os) (started : os.Started) (H : Type) (enc : TypeId × Value → H) :
    ReturnsInHanded {} Tryz.checked os 13 .any (Rows.lenAllSpec.pre6 enc Tryz.prog Tryz.f13 Rows.lenAllRow.domain false) (Rows.lenAllSpec.post enc Tryz.prog Tryz.f13 false true false false) := by
  refine returnsInHanded_of_change_sized (C := Tryz.checked) own started (by kernel_rfl) Tryz.func13
    (ChangeSpec.witness6 (enc := enc) (C := Tryz.checked) false ⟨#[], #[.int .i64 0, .slice none 0 0], []⟩ 8 (by kernel_rfl) (by kernel_rfl) (by kernel_rfl) (by kernel_rfl)) ?_
  intro W base args ds gs before hval0 hW hcnd hsz _
  have hval : ∀ (j : Nat) t v, Tryz.f13.params[j]? = some t → args[j]? = some v → Value.okWide Tryz.prog W .any base t v := hval0
  have hW' := hW
  obtain ⟨p, q, hA0, hV, rfl, hfz, hnd⟩ := hW
  have hA : DataW.TrodAll enc Tryz.prog W 0 (fun _ => true) true Tryz.f13.params.toList args.toList ds p := hA0
  rw [Tryz.params13] at hA hval
  obtain ⟨v0, vs0, d0, ds0, p0, q0, hargs, rfl, rfl, h0, r0⟩ := trodAll_cons hA
  obtain ⟨v1, vs1, d1, ds1, p1, q1, rfl, rfl, rfl, h1, r1⟩ := trodAll_cons r0
  obtain ⟨rfl, rfl, rfl⟩ := trodAll_nil r1
  obtain rfl : args = #[v0, v1] := by cases args; simp_all
  obtain ⟨rfl, rfl⟩ := trodVars_none hV
  have lt0 : ∀ x ∈ p0, x.block < W.heap.size := by obtain ⟨m, hm⟩ := h0; exact DataW.trod_lt m _ _ _ hm
  have g0 := shape_int (hval 0 3 v0 rfl rfl) h0
  have lt1 : ∀ x ∈ p1, x.block < W.heap.size := by obtain ⟨m, hm⟩ := h1; exact DataW.trod_lt m _ _ _ hm
  have g1 := shape_raws (hval 1 38 v1 rfl rfl) h1 (fun n hn => of_decide_eq_true (List.all_eq_true.1 hsz n (DataW.weights_mem_each (j := 1) rfl rfl n hn)))
  clear hA0 hval0
  refine (walk v0 v1 W g0 g1).mono fun e W' ⟨he, bel⟩ => ?_
  subst he
  exact ⟨_, rfl, _, _, _, [], _, [], hW', trodAll_mk1 (shut_bool Tryz.underlying4 _), (trodAll_cons_mk (Below.trod laidOut (by kernel_rfl) (of_decide_eq_true (by kernel_rfl)) h0 bel lt0) (trodAll_cons_mk (Below.trod laidOut (by kernel_rfl) (of_decide_eq_true (by kernel_rfl)) h1 bel lt1) trodAll_mk0)), rfl, bel.frame _, fun h => by cases h⟩

theorem over : Rows.lenAllRow.holds Tryz.pinned (OpenSpec.ofChange Rows.lenAllSpec) :=
  OpenClaim.holds_of_wide 13 Tryz.f13 rfl rfl rfl rfl rfl rfl rfl ⟨rfl, rfl, rfl, rfl, rfl⟩ rfl rfl rfl rfl rfl (by kernel_rfl) Tryz.func13 (by kernel_rfl)
    (of_decide_eq_true (by kernel_rfl)) (by unfold Func.isWrapper; first | (rw [if_pos (by decide +kernel)]; kernel_rfl) | (rw [if_neg (by decide +kernel)]; exact ⟨rfl, rfl⟩))
    (fun os started H enc _ => lifted os started H enc)

end Go.Proofs.YtndadgjidihfeaaGreat.lenAllDone
namespace Go.Proofs.YtndadgjidihfeaaGreat
theorem LenAll_holds : Rows.LenAllSaid := lenAllDone.over
end Go.Proofs.YtndadgjidihfeaaGreat
