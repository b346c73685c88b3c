/- Whatever is done, a value may be, or there is none: for every kind and all raw numbers the law returns true. No condition. -/
import Derived.Test.YtndadgjidihfeaaGreatFw
namespace Go.Proofs.YtndadgjidihfeaaGreat.valueMayDone
open Go.ChangeShapes Go.WideShapes Go.ChangeAt Go.RowKit
open Go.Proofs.YtndadgjidihfeaaGreat
set_option linter.unusedVariables false
set_option maxRecDepth 100000

set_option maxHeartbeats 4000000 in
theorem walk0 (kind : Int) (s : Value) (l : List Raw) (r : Raw) (w : World) (bk : -9223372036854775808 ≤ kind ∧ kind ≤ 9223372036854775807) (hl : RawsAt w s l) (hz : l.length * 48 ≤ reachBytes) (hr : r.wf) :
    Calls Tryz.prog 4 #[.int .i64 kind, s, rawV r.k r.key r.fld r.n r.txt] w fun e w' => e = .returned (.bool true) ∧ Below w.heap.size w w' := by
  have hF := fun W (h : Below w.heap.size w W) => full_any kind s l W bk (hl.below h) hz
  have l6 := pickedN_lt kind (show 0 < 6 by omega)
  generalize pickedN kind 6 = p at hF l6
  obtain ⟨hok, hkd⟩ := fullFor_ok p l6 l
  generalize fullFor p l = x at hF hok hkd
  obtain ⟨k, key, fld, n, txt⟩ := r
  obtain ⟨b1, b2, b3, b4, b5⟩ := hr
  simp only [i64s] at b1 b2 b3 b4 b5 ⊢
  have hC := fun W => command_any k key fld n txt W b1 b2 b3 b4 b5
  have hcf := cmdFor_fault (1 + pickedN k 22) key fld n txt (by omega) (by have := pickedN_lt k (show 0 < 22 by omega); omega)
  have hck : (cmdFor (1 + pickedN k 22) key fld n txt).k = ((1 + pickedN k 22 : Nat) : Int) := rfl
  have l22 := pickedN_lt k (show 0 < 22 by omega)
  generalize cmdFor (1 + pickedN k 22) key fld n txt = c at hC hcf hck
  generalize 1 + pickedN k 22 = j at hck
  have hA := acts_any x c
  have hw := doV_well (x := x) c (.inr hok)
  have hK := fun W ps is ss (h : Lists W ps is ss x) => check_any (valV x.kind x.text x.count ps is ss) x W ⟨ps, is, ss, rfl, h⟩
  rw [hok.fault] at hK
  have hy : (18 < c.k ∧ refusalI x c = 3 ∧ (doV x c).kind = 0) ∨ (¬ 18 < c.k ∧ refusalI x c = 0) := by
    by_cases h18 : 18 < c.k
    · have hc22 := (okCmd hcf).hi
      have hst : ofStoreB c.k = true := by simp [ofStoreB]; omega
      have e : refusalI x c = 3 := by unfold refusalI; rw [if_neg (by rw [hok.fault]; simp), if_neg (by simp [hcf]), hst, if_pos rfl]
      exact .inl ⟨h18, e, by unfold doV; rw [if_pos (by rw [e]; decide)]; rfl⟩
    · have hst : ofStoreB c.k = false := by simp [ofStoreB]; omega
      exact .inr ⟨h18, Well.ref (.inr hok) hcf hst⟩
  generalize doV x c = y at hA hw hy
  generalize doR x c = q at hA
  generalize refusalI x c = f at hA hy
  obtain ⟨ck, ckey, cfld, ctxt, cn⟩ := c
  simp only at hy hck
  have HF : Hid (∀ W, Below w.heap.size w W → Calls Tryz.prog 22 #[.int .i64 kind, s] W fun e w' => ∃ v, e = .returned v ∧ RepsF W.heap.size w' v x ∧ Below W.heap.size W w') := hF
  have HC : Hid (∀ W, Calls Tryz.prog 24 #[rawV k key fld n txt] W fun e w' => e = .returned (cmdV ck ckey cfld ctxt cn) ∧ Below W.heap.size W w') := hC
  have HA : Hid (Acts x ⟨ck, ckey, cfld, ctxt, cn⟩ y q f) := hA
  have HK : Hid (∀ W ps is ss, Lists W ps is ss x → Calls Tryz.prog 23 #[valV x.kind x.text x.count ps is ss] W fun e w' => e = .returned (.int .i64 0) ∧ Below W.heap.size W w') := hK
  have HW : Hid (Well y) := hw
  clear hF hC hA hK hok hkd hl hz bk b1 b2 b3 b4 b5 hw hcf hck l22
  have hb0 := balloc w (.cells #[.int .i64 k, .int .i64 key, .int .i64 fld, .int .i64 n, .string txt] 40)
  go_enter Tryz.func4, Tryz.ntmps4
  go_wp2_with fail
  refine (HF.out _ hb0).mono ?_
  rintro e w1 ⟨v, rfl, hr, hb1⟩
  have nr := (hb1.block w.heap.size (by simp)).trans (alloc_here w (.cells #[.int .i64 k, .int .i64 key, .int .i64 fld, .int .i64 n, .string txt] 40))
  have hB := bstep hb0 hb1
  clear HF hb0 hb1
  obtain ⟨ps, is, ss, rfl, hv, -⟩ := hr
  obtain ⟨pa, pc, ia, ic, sa, sc, rfl, rfl, rfl, -⟩ := hv.lens
  go_wp2_with fail
  have nv := alloc_at w1 (valO x.kind x.text x.count (.slice pa x.pairs.length pc) (.slice ia x.items.length ic) (.slice sa x.scores.length sc))
  have hbx := balloc w1 (valO x.kind x.text x.count (.slice pa x.pairs.length pc) (.slice ia x.items.length ic) (.slice sa x.scores.length sc))
  replace nr := (hbx.block _ (lt_at nr)).trans nr
  replace hv := hv.below hbx
  replace hB := hB.alloc hB.size (valO x.kind x.text x.count (.slice pa x.pairs.length pc) (.slice ia x.items.length ic) (.slice sa x.scores.length sc))
  clear hbx
  generalize w1.alloc (valO x.kind x.text x.count (.slice pa x.pairs.length pc) (.slice ia x.items.length ic) (.slice sa x.scores.length sc)) = V1 at nv nr hv hB ⊢
  generalize w1.heap.size = bv at nv ⊢
  refine (HK.out _ _ _ _ hv).mono ?_
  rintro e w2 ⟨rfl, hb2⟩
  replace nv := (hb2.block _ (lt_at nv)).trans nv
  replace nr := (hb2.block _ (lt_at nr)).trans nr
  replace hv := hv.below hb2
  replace hB := bstep hB hb2
  clear hb2
  obtain ⟨c1, f1⟩ := cellsB nr
  go_wp2_with fail
  refine (HC.out _).mono ?_
  rintro e w3 ⟨rfl, hb3⟩
  clear c1 f1
  replace nv := (hb3.block _ (lt_at nv)).trans nv
  replace hv := hv.below hb3
  replace hB := bstep hB hb3
  clear hb3
  have hlv := lt_at nv
  obtain ⟨c1, f1⟩ := cellsB nv
  go_wp2_with fail
  clear hlv c1 f1
  have nc := alloc_at w3 (.cells #[.int .i64 ck, .string ckey, .string cfld, .string ctxt, .int .i64 cn] 28)
  have hbx := balloc w3 (.cells #[.int .i64 ck, .string ckey, .string cfld, .string ctxt, .int .i64 cn] 28)
  replace nv := (hbx.block _ (lt_at nv)).trans nv
  replace hv := hv.below hbx
  replace hB := hB.alloc hB.size (.cells #[.int .i64 ck, .string ckey, .string cfld, .string ctxt, .int .i64 cn] 28)
  clear hbx
  generalize w3.alloc (.cells #[.int .i64 ck, .string ckey, .string cfld, .string ctxt, .int .i64 cn] 28) = V3 at nc nv hv hB ⊢
  generalize w3.heap.size = bc at nc ⊢
  refine (HA.out _ _ _ _ hv).mono ?_
  rintro e w4 ⟨pa2, pc2, ia2, ic2, sa2, sc2, la2, lc2, rfl, hv2, -, hb4⟩
  clear HA HC
  replace nc := (hb4.block _ (lt_at nc)).trans nc
  replace hB := bstep hB hb4
  clear hb4
  obtain ⟨c1, f1⟩ := cellsB nc
  have hlc := lt_at nc
  have HCY : ∀ W ps is ss, OkVal y → Lists W ps is ss y → Calls Tryz.prog 23 #[valV y.kind y.text y.count ps is ss] W fun e w' => e = .returned (.int .i64 0) ∧ Below W.heap.size W w' := fun W ps is ss ho h => by
    have := check_any (valV y.kind y.text y.count ps is ss) y W ⟨ps, is, ss, rfl, h⟩
    rwa [ho.fault] at this
  rcases hy with ⟨h18, rfl, hk0⟩ | ⟨h18, rfl⟩
  · rw [hk0]
    go_wp2_with fail
    go_ret
    exact ⟨rfl, (hB.alloc hB.size _).alloc (Nat.le_trans hB.size (by simp)) _⟩
  · rcases HW.out with rfl | hok'
    · simp only [emptyVal, List.length_nil] at hv2 ⊢
      go_wp2_with fail
      obtain ⟨ny, nq⟩ := two_new w4 (valO 0 ⟨#[]⟩ 0 (.slice pa2 0 pc2) (.slice ia2 0 ic2) (.slice sa2 0 sc2)) (repO q.code q.text q.n (.slice la2 q.list.length lc2))
      have hbx : Below w4.heap.size w4 ((w4.alloc (valO 0 ⟨#[]⟩ 0 (.slice pa2 0 pc2) (.slice ia2 0 ic2) (.slice sa2 0 sc2))).alloc (repO q.code q.text q.n (.slice la2 q.list.length lc2))) := (balloc _ _).alloc (by simp) _
      replace hv2 := hv2.below hbx
      replace hB := bstep hB hbx
      clear hbx
      generalize (w4.alloc (valO 0 ⟨#[]⟩ 0 (.slice pa2 0 pc2) (.slice ia2 0 ic2) (.slice sa2 0 sc2))).alloc (repO q.code q.text q.n (.slice la2 q.list.length lc2)) = V4 at ny nq hv2 hB ⊢
      generalize w4.heap.size = bY at ny nq ⊢
      refine (sameValue_eq _ _ (emptyVal 0) _ ⟨_, _, _, rfl, hv2⟩ ⟨_, _, _, rfl, Lists.empty _ 0⟩).mono ?_
      rintro e w5 ⟨rfl, hb5⟩
      replace hB := bstep hB hb5
      clear hb5
      go_wp2_with fail
      go_ret
      exact ⟨rfl, hB⟩
    · have h0 : (y.kind == 0) = false := by have := hok'.lo; simp; omega
      have HY := fun W ps is ss h => HCY W ps is ss hok' h
      go_wp2_with fail
      obtain ⟨ny, nq⟩ := two_new w4 (valO y.kind y.text y.count (.slice pa2 y.pairs.length pc2) (.slice ia2 y.items.length ic2) (.slice sa2 y.scores.length sc2)) (repO q.code q.text q.n (.slice la2 q.list.length lc2))
      have hbx : Below w4.heap.size w4 ((w4.alloc (valO y.kind y.text y.count (.slice pa2 y.pairs.length pc2) (.slice ia2 y.items.length ic2) (.slice sa2 y.scores.length sc2))).alloc (repO q.code q.text q.n (.slice la2 q.list.length lc2))) := (balloc _ _).alloc (by simp) _
      replace hv2 := hv2.below hbx
      replace hB := bstep hB hbx
      clear hbx
      generalize (w4.alloc (valO y.kind y.text y.count (.slice pa2 y.pairs.length pc2) (.slice ia2 y.items.length ic2) (.slice sa2 y.scores.length sc2))).alloc (repO q.code q.text q.n (.slice la2 q.list.length lc2)) = V4 at ny nq hv2 hB ⊢
      generalize w4.heap.size = bY at ny nq ⊢
      refine (HY _ _ _ _ hv2).mono ?_
      rintro e w5 ⟨rfl, hb5⟩
      replace hB := bstep hB hb5
      clear hb5
      go_wp2_with fail
      go_ret
      exact ⟨rfl, hB⟩

theorem walk (v0 v1 v2 : Value) (w : World) (h0 : IsInt v0) (h1 : IsRaws w v1) (h2 : IsRaw v2) :
    Calls Tryz.prog 4 #[v0, v1, v2] w fun e w' => e = .returned (.bool true) ∧ Below w.heap.size w w' := by
  obtain ⟨k, rfl, c1, c2⟩ := h0
  obtain ⟨l, hl, hz⟩ := h1
  obtain ⟨k2, key, fld, n, txt, rfl, b1, b2, b3, b4, b5⟩ := h2
  exact walk0 k v1 l ⟨k2, key, fld, n, txt⟩ w ⟨c1, c2⟩ hl hz ⟨b1, b2, b3, b4, b5⟩

theorem own : ownKnob Tryz.prog.godebug = none := by kernel_rfl
theorem laidOut : laidOutB Tryz.prog = true := by kernel_rfl

set_option maxRecDepth 100000 in
theorem lifted (os : Os) (started : os.Started) (H : Type) (enc : TypeId × Value → H) :
    ReturnsInHanded {} Tryz.checked os 4 .any (Rows.valueMaySpec.pre6 enc Tryz.prog Tryz.f4 Rows.valueMayRow.domain false) (Rows.valueMaySpec.post enc Tryz.prog Tryz.f4 false true false false) := by
  refine returnsInHanded_of_change_sized (C := Tryz.checked) own started (by kernel_rfl) Tryz.func4
    (ChangeSpec.witness6 (enc := enc) (C := Tryz.checked) false ⟨#[], #[.int .i64 0, .slice none 0 0, .agg #[.int .i64 0, .int .i64 0, .int .i64 0, .int .i64 0, .string ByteArray.empty]], []⟩ 8 (by kernel_rfl) (by kernel_rfl) (by kernel_rfl) (by kernel_rfl)) ?_
  intro W base args ds gs before hval0 hW hcnd hsz _
  have hval : ∀ (j : Nat) t v, Tryz.f4.params[j]? = some t → args[j]? = some v → Value.okWide Tryz.prog W .any base t v := hval0
  have hW' := hW
  obtain ⟨p, q, hA0, hV, rfl, hfz, hnd⟩ := hW
  have hA : DataW.TrodAll enc Tryz.prog W 0 (fun _ => true) true Tryz.f4.params.toList args.toList ds p := hA0
  rw [Tryz.params4] at hA hval
  obtain ⟨v0, vs0, d0, ds0, p0, q0, hargs, rfl, rfl, h0, r0⟩ := trodAll_cons hA
  obtain ⟨v1, vs1, d1, ds1, p1, q1, rfl, rfl, rfl, h1, r1⟩ := trodAll_cons r0
  obtain ⟨v2, vs2, d2, ds2, p2, q2, rfl, rfl, rfl, h2, r2⟩ := trodAll_cons r1
  obtain ⟨rfl, rfl, rfl⟩ := trodAll_nil r2
  obtain rfl : args = #[v0, v1, v2] := by cases args; simp_all
  obtain ⟨rfl, rfl⟩ := trodVars_none hV
  have lt0 : ∀ x ∈ p0, x.block < W.heap.size := by obtain ⟨m, hm⟩ := h0; exact DataW.trod_lt m _ _ _ hm
  have g0 := shape_int (hval 0 3 v0 rfl rfl) h0
  have lt1 : ∀ x ∈ p1, x.block < W.heap.size := by obtain ⟨m, hm⟩ := h1; exact DataW.trod_lt m _ _ _ hm
  have g1 := shape_raws (hval 1 38 v1 rfl rfl) h1 (fun n hn => of_decide_eq_true (List.all_eq_true.1 hsz n (DataW.weights_mem_each (j := 1) rfl rfl n hn)))
  have lt2 : ∀ x ∈ p2, x.block < W.heap.size := by obtain ⟨m, hm⟩ := h2; exact DataW.trod_lt m _ _ _ hm
  have g2 := shape_raw (hval 2 40 v2 rfl rfl) h2
  clear hA0 hval0
  refine (walk v0 v1 v2 W g0 g1 g2).mono fun e W' ⟨he, bel⟩ => ?_
  subst he
  exact ⟨_, rfl, _, _, _, [], _, [], hW', trodAll_mk1 (shut_bool Tryz.underlying4 _), (trodAll_cons_mk (Below.trod laidOut (by kernel_rfl) (of_decide_eq_true (by kernel_rfl)) h0 bel lt0) (trodAll_cons_mk (Below.trod laidOut (by kernel_rfl) (of_decide_eq_true (by kernel_rfl)) h1 bel lt1) (trodAll_cons_mk (Below.trod laidOut (by kernel_rfl) (of_decide_eq_true (by kernel_rfl)) h2 bel lt2) trodAll_mk0))), rfl, bel.frame _, fun h => by cases h⟩

theorem over : Rows.valueMayRow.holds Tryz.pinned (OpenSpec.ofChange Rows.valueMaySpec) :=
  OpenClaim.holds_of_wide 4 Tryz.f4 rfl rfl rfl rfl rfl rfl rfl ⟨rfl, rfl, rfl, rfl, rfl⟩ rfl rfl rfl rfl rfl (by kernel_rfl) Tryz.func4 (by kernel_rfl)
    (of_decide_eq_true (by kernel_rfl)) (by unfold Func.isWrapper; first | (rw [if_pos (by decide +kernel)]; kernel_rfl) | (rw [if_neg (by decide +kernel)]; exact ⟨rfl, rfl⟩))
    (fun os started H enc _ => lifted os started H enc)

end Go.Proofs.YtndadgjidihfeaaGreat.valueMayDone
namespace Go.Proofs.YtndadgjidihfeaaGreat
theorem ValueMay_holds : Rows.ValueMaySaid := valueMayDone.over
end Go.Proofs.YtndadgjidihfeaaGreat
