/- What is deleted is gone; a second time there is nothing: for all steps and every key the law returns true. No condition. -/
import Derived.Test.YtfnephnecighaaaGreatSyJ
import Derived.Test.YtfnephnecighaaaGreatSs
namespace Go.Proofs.YtfnephnecighaaaGreat.delOnceDone
open Go.ChangeShapes Go.WideShapes Go.ChangeAt Go.RowKit
open Go.Proofs.YtfnephnecighaaaGreat
set_option linter.unusedVariables false
set_option maxRecDepth 100000

theorem kept_ok {s : Sto} (h : OkSto s) : keptK s.now s.es = s.es := by
  refine List.filter_eq_self.2 fun e he => ?_
  have := (wrong_iff.1 (h.ok e he)).2.2
  simp [goneB]; omega
theorem fault_key (k : Int) (key : ByteArray) (h : key.size = 1) (hk : k = 19 ∨ k = 18) : Cmd.fault ⟨k, key, ⟨#[]⟩, ⟨#[]⟩, 0⟩ = 0 := by
  rcases hk with rfl | rfl <;> simp [Cmd.fault, cmdFault, foreignB, partsB, hasKeyB, hasFieldB, hasTextB, hasNumberB, isNameB, isTextB, isCountB, h, show (⟨#[]⟩ : ByteArray).size = 0 from rfl]
theorem del_acts {s : Sto} (h : OkSto s) {key : ByteArray} (hk : key.size = 1) : ∃ s' : Sto, ActsS s s.now ⟨19, key, ⟨#[]⟩, ⟨#[]⟩, 0⟩ s' { n := if hasK key s.es = true then 1 else 0 } 0 ∧ OkSto s' ∧ hasK key s'.es = false ∧ s'.now = s.now ∧ (hasK key s.es = false → s' = s) := by
  have hr : refS s s.now ⟨19, key, ⟨#[]⟩, ⟨#[]⟩, 0⟩ = 0 := refS_ok.2 ⟨h, ⟨h.t0, h.t1⟩, fault_key 19 key hk (.inl rfl)⟩
  have hm : max s.now s.now = s.now := by omega
  cases hh : hasK key s.es with
  | true =>
    have ha : ansK s.now ⟨19, key, ⟨#[]⟩, ⟨#[]⟩, 0⟩ s.es = (cutAt s.es (atK key s.es), { n := 1 }) := by rw [ansK, if_neg (by simp), if_pos rfl, if_pos hh]
    have h1 := applied hr hm (kept_ok h) ha
    have hok := applyS_ok hr
    rw [h1.1] at hok
    refine ⟨⟨s.now, cutAt s.es (atK key s.es)⟩, acts_of hr (by rw [if_pos rfl]; exact h1), hok, ?_, rfl, fun e => by cases e⟩
    exact (has_not hok.rise).2 fun e he => ((mem_cut h.rise hh e).1 he).2
  | false =>
    have ha : ansK s.now ⟨19, key, ⟨#[]⟩, ⟨#[]⟩, 0⟩ s.es = (s.es, {}) := by rw [ansK, if_neg (by simp), if_pos rfl, if_neg (by simp [hh])]
    have h1 := applied hr hm (kept_ok h) ha
    exact ⟨s, acts_of hr (by rw [if_neg (by simp)]; exact h1), h, hh, rfl, fun _ => rfl⟩
theorem all_acts {s : Sto} (h : OkSto s) {key : ByteArray} (hk : key.size = 1) (hh : hasK key s.es = false) : ActsS s s.now ⟨18, key, ⟨#[]⟩, ⟨#[]⟩, 0⟩ s { code := 5 } 0 := by
  have hf := fault_key 18 key hk (.inr rfl)
  have hr : refS s s.now ⟨18, key, ⟨#[]⟩, ⟨#[]⟩, 0⟩ = 0 := refS_ok.2 ⟨h, ⟨h.t0, h.t1⟩, hf⟩
  have hg : (getK key s.es).x = emptyVal 0 := by rw [get_none hh]; rfl
  have hR : doR (emptyVal 0) ⟨18, key, ⟨#[]⟩, ⟨#[]⟩, 0⟩ = { code := 5 } := by
    have hr0 := (show Well (emptyVal 0) from .inl rfl).ref hf (show ofStoreB 18 = false from rfl)
    have ha : answerV (emptyVal 0) ⟨18, key, ⟨#[]⟩, ⟨#[]⟩, 0⟩ = (emptyVal 0, { code := 5 }) := by unfold answerV; rw [if_pos none_empty, if_neg (by simp [makesB])]
    unfold doR
    rw [if_neg (by omega), ha, if_pos (by simp)]
  refine acts_of hr (applied (A := (s.es, { code := 5 })) hr (by omega) (kept_ok h) ((ans_change rfl).trans ?_))
  have := change_fail (c := ⟨18, key, ⟨#[]⟩, ⟨#[]⟩, 0⟩) (L := s.es) (by rw [hg, hR]; simp)
  rw [hg, hR] at this
  exact this

set_option maxHeartbeats 8000000 in
theorem walk0 (v : Value) (l : List Stp) (n : Int) (w : World) (hl : StepsAt w v l) (bn : -9223372036854775808 ≤ n ∧ n ≤ 9223372036854775807) :
    Calls Tryz.prog 7 #[v, .int .i64 n] w fun e w' => e = .returned (.bool true) ∧ Below w.heap.size w w' := by
  have hst := store_any v l w hl
  have hso := storeFor_ok l
  have hsm := fun W => some_any n W bn.1 bn.2
  have hks := size_some n
  generalize storeFor l = s at hst hso
  generalize someB n = key at hsm hks
  obtain ⟨s', d1, o1, h1, hn1, -⟩ := del_acts hso hks
  obtain ⟨s'', d2, -, -, -, he⟩ := del_acts o1 hks
  obtain rfl := he h1
  have d3 := all_acts o1 hks h1
  rw [h1, if_neg (by simp)] at d2
  have hfh := find_has hso.rise key
  obtain ⟨now, L⟩ := s
  obtain ⟨now', L'⟩ := s''
  simp only at hn1
  subst hn1
  obtain ⟨m, hm⟩ : ∃ m, L.length = m := ⟨_, rfl⟩
  obtain ⟨m', hm'⟩ : ∃ m', L'.length = m' := ⟨_, rfl⟩
  obtain ⟨hit, hhit⟩ : ∃ h, hasK key L = h := ⟨_, rfl⟩
  simp only [hhit] at d1
  obtain ⟨rn, hrn⟩ : ∃ rn : Int, (if hit = true then (1 : Int) else 0) = rn := ⟨_, rfl⟩
  rw [hrn] at d1
  have HRN := hideE hrn
  clear hrn
  have A1 : Hid (ActsW now' L now' 19 key ⟨#[]⟩ ⟨#[]⟩ 0 now' L' m' 0 ⟨#[]⟩ rn [] 0 0) := acts_w d1 hm' rfl
  have A2 : Hid (ActsW now' L' now' 19 key ⟨#[]⟩ ⟨#[]⟩ 0 now' L' m' 0 ⟨#[]⟩ 0 [] 0 0) := acts_w d2 hm' rfl
  have A3 : Hid (ActsW now' L' now' 18 key ⟨#[]⟩ ⟨#[]⟩ 0 now' L' m' 5 ⟨#[]⟩ 0 [] 0 0) := acts_w d3 hm' rfl
  have HST : Hid (Calls Tryz.prog 20 #[v] w fun e w' => ∃ ea ec, e = .returned (stoV now' (.slice ea m ec)) ∧ StL w' now' ea m ec L ∧ Below w.heap.size w w') := hst.mono fun e w' ⟨v', h1, h2, h3⟩ => by
    obtain ⟨ea, ec, rfl⟩ := h2.shape
    simp only [hm] at h1 h2
    exact ⟨ea, ec, h1, h2.st, h3⟩
  have HSM : Hid (∀ W, Calls Tryz.prog 25 #[.int .i64 n] W fun e w' => e = .returned (.string key) ∧ Below W.heap.size W w') := hsm
  have HTH : Hid (thereB key L = hit) := hfh.1.trans hhit
  obtain ⟨-, va, vc, rfl, -⟩ := hl
  generalize l.length = lv at *
  clear hst hso hsm hks d1 o1 h1 d2 d3 he hm hm' hfh hhit bn
  go_enter Tryz.func7, Tryz.ntmps7
  go_wp2_with fail
  refine HST.out.mono ?_
  rintro e w1 ⟨ea, ec, rfl, hs, hB⟩
  go_wp2_with fail
  have ge_b5 := hB.size
  have n5 := alloc_at w1 (stoO now' (.slice ea m ec))
  have hbx := balloc w1 (stoO now' (.slice ea m ec))
  replace hs := hs.below hbx
  replace hB := hB.alloc hB.size (stoO now' (.slice ea m ec))
  clear hbx
  generalize w1.alloc (stoO now' (.slice ea m ec)) = V1 at n5 hs hB ⊢
  generalize w1.heap.size = b5 at n5 ge_b5 ⊢
  refine (HSM.out _).mono ?_
  rintro e w2 ⟨rfl, hb2⟩
  replace n5 := (hb2.block _ (lt_at n5)).trans n5
  replace hs := hs.below hb2
  replace hB := bstep hB hb2
  clear hb2
  obtain ⟨c5, f5⟩ := cellsB n5
  have hen := entry_w key hs
  rw [HTH.out] at hen
  generalize findE key L = fe at hen
  obtain ⟨fk, ⟨f1, f2, f3, fp, fi, fs⟩, ft⟩ := fe
  simp only at hen
  have HEN : Hid (Calls Tryz.prog 24 #[stoV now' (.slice ea m ec), .string key] w2 fun e w' => ∃ ps is ss, e = .returned (.tuple #[entV fk f1 f2 f3 ps is ss ft, .bool hit]) ∧ Lists w' ps is ss ⟨f1, f2, f3, fp, fi, fs⟩ ∧ Below w2.heap.size w2 w') := hen
  clear hen
  go_wp2_with fail
  clear c5 f5
  refine HEN.out.mono ?_
  rintro e w3 ⟨ps, is, ss, rfl, hl3, hb3⟩
  obtain ⟨pa, pc, ia, ic, sa, sc, rfl, rfl, rfl, -⟩ := hl3.lens
  replace n5 := (hb3.block _ (lt_at n5)).trans n5
  replace hs := hs.below hb3
  replace hB := bstep hB hb3
  clear hb3
  have l5 := lt_at n5
  clear hl3
  go_upto_region 4 with fail
  clear l5
  have ge_b7 := hB.size
  have n7 := alloc_at w3 (entO fk f1 f2 f3 (.slice pa fp.length pc) (.slice ia fi.length ic) (.slice sa fs.length sc) ft)
  have hbx := balloc w3 (entO fk f1 f2 f3 (.slice pa fp.length pc) (.slice ia fi.length ic) (.slice sa fs.length sc) ft)
  replace n5 := (hbx.block _ (lt_at n5)).trans n5
  replace hs := hs.below hbx
  replace hB := hB.alloc hB.size (entO fk f1 f2 f3 (.slice pa fp.length pc) (.slice ia fi.length ic) (.slice sa fs.length sc) ft)
  clear hbx
  generalize w3.alloc (entO fk f1 f2 f3 (.slice pa fp.length pc) (.slice ia fi.length ic) (.slice sa fs.length sc) ft) = V3 at n7 n5 hs hB ⊢
  generalize w3.heap.size = b7 at n7 ge_b7 ⊢
  obtain ⟨c5, f5⟩ := cellsB n5
  go_wp2_with fail
  clear c5 f5 n7
  refine (A1.out _ _ _ _ hs).mono ?_
  rintro e w4 ⟨ea4, ec4, la4, lc4, rfl, ha, -, -, hb4⟩
  replace n5 := (hb4.block _ (lt_at n5)).trans n5
  replace hs := hs.below hb4
  replace hB := bstep hB hb4
  clear hb4
  have l5 := lt_at n5
  go_upto_region 5 with fail
  clear l5
  have ge_b9 := hB.size
  obtain ⟨n9, n10⟩ := two_new w4 (stoO now' (.slice ea4 m' ec4)) (repO 0 ⟨#[]⟩ rn (.slice la4 0 lc4))
  have hbx : Below w4.heap.size w4 ((w4.alloc (stoO now' (.slice ea4 m' ec4))).alloc (repO 0 ⟨#[]⟩ rn (.slice la4 0 lc4))) := (balloc _ _).alloc (by simp) _
  replace n5 := (hbx.block _ (lt_at n5)).trans n5
  replace hs := hs.below hbx
  replace ha := ha.below hbx
  replace hB := bstep hB hbx
  clear hbx
  generalize (w4.alloc (stoO now' (.slice ea4 m' ec4))).alloc (repO 0 ⟨#[]⟩ rn (.slice la4 0 lc4)) = V4 at n9 n10 n5 hs ha hB ⊢
  generalize w4.heap.size = b9 at n9 n10 ge_b9 ⊢
  obtain ⟨c5, f5⟩ := cellsB n5
  obtain ⟨c9, f9⟩ := cellsB n9
  go_wp2_with fail
  clear c5 f5 c9 f9
  refine (A2.out _ _ _ _ ha).mono ?_
  rintro e w5 ⟨ea5, ec5, la5, lc5, rfl, hb, -, -, hb5⟩
  replace n5 := (hb5.block _ (lt_at n5)).trans n5
  replace n9 := (hb5.block _ (lt_at n9)).trans n9
  replace n10 := (hb5.block _ (lt_at n10)).trans n10
  replace ha := ha.below hb5
  replace hB := bstep hB hb5
  clear hb5
  have l5 := lt_at n5
  have l9 := lt_at n9
  go_upto_region 6 with fail
  clear l5 l9
  have ge_b12 := hB.size
  obtain ⟨n12, n13⟩ := two_new w5 (stoO now' (.slice ea5 m' ec5)) (repO 0 ⟨#[]⟩ 0 (.slice la5 0 lc5))
  have hbx : Below w5.heap.size w5 ((w5.alloc (stoO now' (.slice ea5 m' ec5))).alloc (repO 0 ⟨#[]⟩ 0 (.slice la5 0 lc5))) := (balloc _ _).alloc (by simp) _
  replace n5 := (hbx.block _ (lt_at n5)).trans n5
  replace n9 := (hbx.block _ (lt_at n9)).trans n9
  replace n10 := (hbx.block _ (lt_at n10)).trans n10
  replace ha := ha.below hbx
  replace hb := hb.below hbx
  replace hB := bstep hB hbx
  clear hbx
  generalize (w5.alloc (stoO now' (.slice ea5 m' ec5))).alloc (repO 0 ⟨#[]⟩ 0 (.slice la5 0 lc5)) = V5 at n12 n13 n5 n9 n10 ha hb hB ⊢
  generalize w5.heap.size = b12 at n12 n13 ge_b12 ⊢
  obtain ⟨c5, f5⟩ := cellsB n5
  obtain ⟨c9, f9⟩ := cellsB n9
  go_wp2_with fail
  clear c5 f5 c9 f9
  refine (A3.out _ _ _ _ ha).mono ?_
  rintro e w6 ⟨ea6, ec6, la6, lc6, rfl, -, -, -, hb6⟩
  replace n5 := (hb6.block _ (lt_at n5)).trans n5
  replace n9 := (hb6.block _ (lt_at n9)).trans n9
  replace n10 := (hb6.block _ (lt_at n10)).trans n10
  replace n12 := (hb6.block _ (lt_at n12)).trans n12
  replace n13 := (hb6.block _ (lt_at n13)).trans n13
  replace ha := ha.below hb6
  replace hb := hb.below hb6
  replace hB := bstep hB hb6
  clear hb6
  have l5 := lt_at n5
  have l9 := lt_at n9
  go_upto_region 7 with fail
  clear l5 l9
  have ge_b15 := hB.size
  obtain ⟨n15, n16⟩ := two_new w6 (stoO now' (.slice ea6 m' ec6)) (repO 5 ⟨#[]⟩ 0 (.slice la6 0 lc6))
  have hbx : Below w6.heap.size w6 ((w6.alloc (stoO now' (.slice ea6 m' ec6))).alloc (repO 5 ⟨#[]⟩ 0 (.slice la6 0 lc6))) := (balloc _ _).alloc (by simp) _
  replace n9 := (hbx.block _ (lt_at n9)).trans n9
  replace n10 := (hbx.block _ (lt_at n10)).trans n10
  replace n12 := (hbx.block _ (lt_at n12)).trans n12
  replace n13 := (hbx.block _ (lt_at n13)).trans n13
  replace ha := ha.below hbx
  replace hb := hb.below hbx
  replace hB := bstep hB hbx
  clear hbx
  generalize (w6.alloc (stoO now' (.slice ea6 m' ec6))).alloc (repO 5 ⟨#[]⟩ 0 (.slice la6 0 lc6)) = V6 at n15 n16 n9 n10 n12 n13 ha hb hB ⊢
  generalize w6.heap.size = b15 at n15 n16 ge_b15 ⊢
  obtain ⟨c9, f9⟩ := cellsB n9
  obtain ⟨c10, f10⟩ := cellsB n10
  obtain ⟨c12, f12⟩ := cellsB n12
  obtain ⟨c13, f13⟩ := cellsB n13
  obtain ⟨c16, f16⟩ := cellsB n16
  have HSS := hideE (sameStore_eq now' ea4 ea5 m' ec4 ec5 L' V6 ha hb)
  have HB := hideE hB
  clear n9 n10 n12 n13 n15 n16 ha hb hs hB
  cases hit
  · obtain rfl : rn = 0 := by have := HRN.out; simpa using this.symm
    go_wp2_with fail
    refine HSS.out.mono ?_
    rintro e w7 ⟨rfl, hb7⟩
    go_wp2_with fail
    go_ret
    exact ⟨rfl, bstep HB.out hb7⟩
  · obtain rfl : rn = 1 := by have := HRN.out; simpa using this.symm
    go_wp2_with fail
    refine HSS.out.mono ?_
    rintro e w7 ⟨rfl, hb7⟩
    go_wp2_with fail
    go_ret
    exact ⟨rfl, bstep HB.out hb7⟩

theorem walk (v0 v1 : Value) (w : World) (h0 : IsSteps w v0) (h1 : IsInt v1) :
    Calls Tryz.prog 7 #[v0, v1] w fun e w' => e = .returned (.bool true) ∧ Below w.heap.size w w' := by
  obtain ⟨l, hl⟩ := h0
  obtain ⟨k, rfl, c1, c2⟩ := h1
  exact walk0 v0 l k w hl ⟨c1, c2⟩

theorem own : ownKnob Tryz.prog.godebug = none := by kernel_rfl
theorem laidOut : laidOutB Tryz.prog = true := by kernel_rfl

set_option maxRecDepth 100000 in
theorem lifted (os : Os) (started : os.Started) (H : Type) (enc : TypeId × Value → H) :
    ReturnsInHanded {} Tryz.checked os 7 .any (Rows.delOnceSpec.pre6 enc Tryz.prog Tryz.f7 Rows.delOnceRow.domain false) (Rows.delOnceSpec.post enc Tryz.prog Tryz.f7 false true false false) := by
  refine returnsInHanded_of_change (C := Tryz.checked) own started (by kernel_rfl) Tryz.func7
    (ChangeSpec.witness6 (enc := enc) (C := Tryz.checked) false ⟨#[], #[.slice none 0 0, .int .i64 0], []⟩ 8 (by kernel_rfl) (by kernel_rfl) (by kernel_rfl) (by kernel_rfl)) ?_
  intro W base args ds gs before hval0 hW hcnd _
  have hval : ∀ (j : Nat) t v, Tryz.f7.params[j]? = some t → args[j]? = some v → Value.okWide Tryz.prog W .any base t v := hval0
  have hW' := hW
  obtain ⟨p, q, hA0, hV, rfl, hfz, hnd⟩ := hW
  have hA : DataW.TrodAll enc Tryz.prog W 0 (fun _ => true) true Tryz.f7.params.toList args.toList ds p := hA0
  rw [Tryz.params7] at hA hval
  obtain ⟨v0, vs0, d0, ds0, p0, q0, hargs, rfl, rfl, h0, r0⟩ := trodAll_cons hA
  obtain ⟨v1, vs1, d1, ds1, p1, q1, rfl, rfl, rfl, h1, r1⟩ := trodAll_cons r0
  obtain ⟨rfl, rfl, rfl⟩ := trodAll_nil r1
  obtain rfl : args = #[v0, v1] := by cases args; simp_all
  obtain ⟨rfl, rfl⟩ := trodVars_none hV
  have lt0 : ∀ x ∈ p0, x.block < W.heap.size := by obtain ⟨m, hm⟩ := h0; exact DataW.trod_lt m _ _ _ hm
  have g0 := shape_steps (hval 0 46 v0 rfl rfl) h0
  have lt1 : ∀ x ∈ p1, x.block < W.heap.size := by obtain ⟨m, hm⟩ := h1; exact DataW.trod_lt m _ _ _ hm
  have g1 := shape_int (hval 1 3 v1 rfl rfl) h1
  clear hA0 hval0
  refine (walk v0 v1 W g0 g1).mono fun e W' ⟨he, bel⟩ => ?_
  subst he
  exact ⟨_, rfl, _, _, _, [], _, [], hW', trodAll_mk1 (shut_bool Tryz.underlying4 _), (trodAll_cons_mk (Below.trod laidOut (by kernel_rfl) (of_decide_eq_true (by kernel_rfl)) h0 bel lt0) (trodAll_cons_mk (Below.trod laidOut (by kernel_rfl) (of_decide_eq_true (by kernel_rfl)) h1 bel lt1) trodAll_mk0)), rfl, bel.frame _, fun h => by cases h⟩

theorem over : Rows.delOnceRow.holds Tryz.pinned (OpenSpec.ofChange Rows.delOnceSpec) :=
  OpenClaim.holds_of_wide 7 Tryz.f7 rfl rfl rfl rfl rfl rfl rfl ⟨rfl, rfl, rfl, rfl, rfl⟩ rfl rfl rfl rfl rfl (by kernel_rfl) Tryz.func7 (by kernel_rfl)
    (of_decide_eq_true (by kernel_rfl)) (by unfold Func.isWrapper; first | (rw [if_pos (by decide +kernel)]; kernel_rfl) | (rw [if_neg (by decide +kernel)]; exact ⟨rfl, rfl⟩))
    (fun os started H enc _ => lifted os started H enc)

end Go.Proofs.YtfnephnecighaaaGreat.delOnceDone
namespace Go.Proofs.YtfnephnecighaaaGreat
theorem DelOnce_holds : Rows.DelOnceSaid := delOnceDone.over
end Go.Proofs.YtfnephnecighaaaGreat
