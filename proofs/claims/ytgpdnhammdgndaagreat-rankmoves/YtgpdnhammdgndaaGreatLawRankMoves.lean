/- Who has another number stands elsewhere, and once: a member of a rank that is added again with another number stands there once, with that number, and the rank is as long as it was; once taken out it is one shorter: for all raw numbers, every place and number the law returns true. No condition. -/
import Derived.Test.YtgpdnhammdgndaaGreatFwJ
import Derived.Test.YtgpdnhammdgndaaGreatQs
namespace Go.Proofs.YtgpdnhammdgndaaGreat.rankMovesDone
open Go.ChangeShapes Go.WideShapes Go.ChangeAt Go.RowKit
open Go.Proofs.YtgpdnhammdgndaaGreat
set_option linter.unusedVariables false
set_option maxRecDepth 100000

theorem rank_of {x : Val} (hok : OkVal x) (hk : x.kind = 6) : ∃ L, 1 ≤ L.length ∧ RankL L ∧ x = rankX L := by
  rcases hok.cases with ⟨t, -, rfl⟩ | ⟨n, -, rfl⟩ | ⟨l, -, -, -, -, rfl⟩ | ⟨l, -, -, -, rfl⟩ | ⟨l, -, -, -, -, rfl⟩ | ⟨l, h1, h2, h3, h4, h5, h6, rfl⟩
  · simp at hk
  · simp at hk
  · simp at hk
  · simp at hk
  · simp at hk
  · exact ⟨l, h1, ⟨h2, h3, h4, h5, h6⟩, rfl⟩
theorem rowS_cell {w : World} {a : Option Addr} {n c : Nat} {l : List (ByteArray × Int)} (h : RowAt 2 encS w (.slice a n c) l) (hp : 0 < l.length) :
    ∃ b off, a = some ⟨b, off, none⟩ ∧ b < w.heap.size ∧ ∀ m (hm : m < l.length), w.cell? ⟨b, off + m * 2, none⟩ = some (.string l[m].1) ∧ w.cell? ⟨b, off + m * 2 + 1, none⟩ = some (.int .i64 l[m].2) := by
  obtain ⟨-, a', c', hs, h1, h2, h3⟩ := h
  simp only [Value.slice.injEq] at hs
  obtain ⟨rfl, rfl, rfl⟩ := hs
  rcases h3 with ⟨-, rfl, -⟩ | ⟨b, off, rfl, hb, hc⟩
  · simp at hp
  · exact ⟨b, off, rfl, hb, fun m hm => ⟨hc m hm 0 (by omega), hc m hm 1 (by omega)⟩⟩

set_option maxHeartbeats 8000000 in
theorem walk0 (s : Value) (l : List Raw) (at' n : Int) (w : World) (hl : RawsAt w s l) (hz : l.length * 48 ≤ reachBytes) (b2 : -9223372036854775808 ≤ at' ∧ at' ≤ 9223372036854775807) (b3 : -9223372036854775808 ≤ n ∧ n ≤ 9223372036854775807) :
    Calls Tryz.prog 8 #[s, .int .i64 at', .int .i64 n] w fun e w' => e = .returned (.bool true) ∧ Below w.heap.size w w' := by
  have hF := full_any 5 s l w (by omega) hl hz
  rw [show pickedN 5 6 = 5 from picked_self 5 6 (by omega)] at hF
  obtain ⟨hok, hkd⟩ := fullFor_ok 5 (by omega) l
  generalize fullFor 5 l = x at hF hok hkd
  obtain ⟨L, h1, hRk, rfl⟩ := rank_of hok (by omega)
  have h20 := hRk.1
  have p1 := fun W => picked_any at' L.length W b2.1 b2.2 (by omega) (by omega)
  have hi := pickedN_lt at' (show 0 < L.length by omega)
  generalize pickedN at' L.length = i at *
  have p2 := fun W => picked_any n 1000 W b3.1 b3.2 (by omega) (by omega)
  have hq := pickedN_lt n (show 0 < 1000 by omega)
  generalize pickedN n 1000 = q at *
  obtain ⟨L', hA1, hRL', hlen, j, hj, hLj⟩ := zadd_acts hRk i hi ((q : Int) - 500) (by simp [isCountB]; omega)
  obtain ⟨hA2, hlen2⟩ := zrem_acts hRL' j hj
  have hall := many_all hRL'.2.2.2.2 j hj
  have hown := fun m (hm : m < L'.length) => many_own hRL'.2.2.2.2 j m hj hm
  rw [hLj] at hA2 hall hown
  simp only at hA2 hall hown
  have hget : ∀ m (hm : m < L'.length), L'[m].1 = L[i].1 → L'[m].2 = (q : Int) - 500 := fun m hm he => by
    have := hown m hm he
    subst this
    rw [hLj]
  have hgi : L[i]? = some L[i] := List.getElem?_eq_getElem hi
  have hcell : ∀ {a : Option Addr} {c : Nat} {w : World}, RowAt 2 encS w (.slice a L.length c) L → ∃ b off, a = some ⟨b, off, none⟩ ∧ b < w.heap.size ∧ w.cell? ⟨b, off + i * 2, none⟩ = some (.string L[i].1) := fun h => by
    obtain ⟨b, off, e1, e2, e3⟩ := rowS_cell h (by omega)
    exact ⟨b, off, e1, e2, (e3 i hi).1⟩
  generalize L[i].1 = M at *
  generalize keptV (rankX (cutAt L' j)) = y at *
  have HF : Hid (Calls Tryz.prog 19 #[.int .i64 5, s] w fun e w' => ∃ v, e = .returned v ∧ RepsF w.heap.size w' v (rankX L) ∧ Below w.heap.size w w') := hF
  have P1 : Hid (∀ W, Calls Tryz.prog 15 #[.int .i64 at', .int .i64 (L.length : Int)] W fun e w' => e = .returned (.int .i64 (i : Nat)) ∧ W = w') := p1
  have P2 : Hid (∀ W, Calls Tryz.prog 15 #[.int .i64 n, .int .i64 1000] W fun e w' => e = .returned (.int .i64 (q : Nat)) ∧ W = w') := p2
  have A1 : Hid (Acts (rankX L) (zaddC M ((q : Int) - 500)) (rankX L') {} 0) := hA1
  have A2 : Hid (Acts (rankX L') (zremC M) y { n := 1 } 0) := hA2
  have HG : Hid (∀ m (hm : m < L'.length), L'[m].1 = M → L'[m].2 = (q : Int) - 500) := hget
  have HC : Hid (∀ {a : Option Addr} {c : Nat} {w : World}, RowAt 2 encS w (.slice a L.length c) L → ∃ b off, a = some ⟨b, off, none⟩ ∧ b < w.heap.size ∧ w.cell? ⟨b, off + i * 2, none⟩ = some (.string M)) := hcell
  have HM : Hid (manyOf M L' L'.length = 1) := hall
  have HL : Hid (L'.length = L.length) := hlen
  have HL2 : Hid (y.scores.length = L'.length - 1) := hlen2
  have hL'0 : 0 < L'.length := by omega
  have hL'20 : L'.length ≤ 20 := by omega
  clear hF p1 p2 hA1 hA2 hget hcell hall hlen hlen2 hown hok hkd hRk hRL' hLj hj hl hz b2 b3 hgi
  have hi' : (i : Int) < (L.length : Int) := by omega
  have h0' : ((L.length : Int) == 0) = false := by rw [beq_eq_false_iff_ne]; omega
  have hwq : IntKind.i64.wrap ((q : Int) - 500) = (q : Int) - 500 := by rw [IntKind.wrap_i64]; omega
  go_enter Tryz.func8, Tryz.ntmps8
  go_wp2_with fail
  refine HF.out.mono ?_
  rintro e w1 ⟨v, rfl, hr, hB⟩
  clear HF
  obtain ⟨ps, is, ss, rfl, hv, -⟩ := hr
  obtain ⟨pa, pc, ia, ic, sa, sc, rfl, rfl, rfl, -⟩ := hv.lens
  simp only at *
  go_wp2_with fail
  have nv := alloc_at w1 (valO 6 ⟨#[]⟩ 0 (.slice pa 0 pc) (.slice ia 0 ic) (.slice sa L.length sc))
  have hbx := balloc w1 (valO 6 ⟨#[]⟩ 0 (.slice pa 0 pc) (.slice ia 0 ic) (.slice sa L.length sc))
  replace hv := hv.below hbx
  replace hB := hB.alloc hB.size (valO 6 ⟨#[]⟩ 0 (.slice pa 0 pc) (.slice ia 0 ic) (.slice sa L.length sc))
  clear hbx
  generalize w1.alloc (valO 6 ⟨#[]⟩ 0 (.slice pa 0 pc) (.slice ia 0 ic) (.slice sa L.length sc)) = V1 at nv hv hB ⊢
  generalize w1.heap.size = bv at nv ⊢
  obtain ⟨b, off, hsa, hbb, hcc⟩ := HC.out hv.s
  subst hsa
  have inst := Grown.isThere V1
  obtain ⟨u1, u2⟩ := Grown.cells nv
  have u3 : ∀ g : Grown V1, g.w.cell? ⟨b, off + i * 2, none⟩ = some (.string M) := fun g => Grown.cell hbb hcc g
  clear hcc HC
  go_wp2_with fail
  refine wp_region_grown (by kernel_rfl) (by kernel_rfl) ?_
  repeat (first | go_big_quiet_skip | (go_big_quiet_want; go_big_quiet_op; first | go_big_quiet_on | (apply Exists.intro; refine ⟨fun _ => ?_, ?_⟩; (· (go_at_call 15; exact Calls.grown_same _ P1.out)); go_big_quiet_on)))
  refine wpQuiet_nil ?_
  rintro _ ⟨⟨w2, hb2⟩, rfl⟩
  clear inst u1 u2 u3 P1 hbb
  replace nv := (hb2.block _ (lt_at nv)).trans nv
  replace hv := hv.below hb2
  replace hB := bstep hB hb2
  clear hb2
  go_wp2_with fail
  refine (P2.out _).mono ?_
  rintro e w3 ⟨rfl, rfl⟩
  clear P2
  obtain ⟨c1, f1⟩ := cellsB nv
  go_wp2_with fail
  refine (A1.out _ _ _ _ hv).mono ?_
  rintro e w4 ⟨pa2, pc2, ia2, ic2, sa2, sc2, la2, lc2, rfl, hv2, -, hb4⟩
  clear c1 f1 A1
  replace nv := (hb4.block _ (lt_at nv)).trans nv
  replace hB := bstep hB hb4
  clear hb4
  clear hv
  simp only [List.length_nil] at hv2 ⊢
  go_wp2_with fail
  obtain ⟨nw, nr⟩ := two_new w4 (valO 6 ⟨#[]⟩ 0 (.slice pa2 0 pc2) (.slice ia2 0 ic2) (.slice sa2 L'.length sc2)) (repO 0 ⟨#[]⟩ 0 (.slice la2 0 lc2))
  have hbx : Below w4.heap.size w4 ((w4.alloc (valO 6 ⟨#[]⟩ 0 (.slice pa2 0 pc2) (.slice ia2 0 ic2) (.slice sa2 L'.length sc2))).alloc (repO 0 ⟨#[]⟩ 0 (.slice la2 0 lc2))) := (balloc _ _).alloc (by simp) _
  replace nv := (hbx.block _ (lt_at nv)).trans nv
  replace hv2 := hv2.below hbx
  replace hB := bstep hB hbx
  clear hbx
  generalize (w4.alloc (valO 6 ⟨#[]⟩ 0 (.slice pa2 0 pc2) (.slice ia2 0 ic2) (.slice sa2 L'.length sc2))).alloc (repO 0 ⟨#[]⟩ 0 (.slice la2 0 lc2)) = V4 at nw nr nv hv2 hB ⊢
  generalize w4.heap.size = bw at nw nr ⊢
  obtain ⟨b', off', hsa, hbb, hcc⟩ := rowS_cell hv2.s hL'0
  subst hsa
  have HNV : Hid (V4.heap[bv]? = some (valO 6 ⟨#[]⟩ 0 (.slice pa 0 pc) (.slice ia 0 ic) (.slice (some ⟨b, off, none⟩) L.length sc))) := nv
  have HNW : Hid (V4.heap[bw]? = some (valO 6 ⟨#[]⟩ 0 (.slice pa2 0 pc2) (.slice ia2 0 ic2) (.slice (some ⟨b', off', none⟩) L'.length sc2))) := nw
  have HNR : Hid (V4.heap[bw + 1]? = some (repO 0 ⟨#[]⟩ 0 (.slice la2 0 lc2))) := nr
  have HV2 : Hid (Lists V4 (.slice pa2 0 pc2) (.slice ia2 0 ic2) (.slice (some ⟨b', off', none⟩) L'.length sc2) (rankX L')) := hv2
  have HB : Hid (Below w.heap.size w V4) := hB
  have HCC : Hid (∀ m (hm : m < L'.length), V4.cell? ⟨b', off' + m * 2, none⟩ = some (.string L'[m].1) ∧ V4.cell? ⟨b', off' + m * 2 + 1, none⟩ = some (.int .i64 L'[m].2)) := hcc
  clear nv nw nr hv2 hB hcc
  go_wp2_with fail
  go_loopw [13, 14] (fun mv c wr => ∃ m : Nat, c = .int .i64 (m : Int) ∧ mv = .int .i64 (manyOf M L' m : Nat) ∧ m ≤ L'.length ∧ Below V4.heap.size V4 wr) (fun _ c _ => L'.length - (intOf c).toNat)
  case atStart => exact ⟨0, rfl, by simp [manyOf], by omega, Below.refl _ _⟩
  case round =>
    obtain ⟨m, rfl, rfl, hm, hb⟩ := hrel
    have nw := (hb.block _ (lt_at HNW.out)).trans HNW.out
    obtain ⟨c1, f1⟩ := cellsB nw
    by_cases hlt : m < L'.length
    · have hi0 : (m : Int) < (L'.length : Int) := by omega
      obtain ⟨e0, e1⟩ := HCC.out m hlt
      replace e0 := (hb.cell (p := ⟨b', off' + m * 2, none⟩) hbb).trans e0
      replace e1 := (hb.cell (p := ⟨b', off' + m * 2 + 1, none⟩) hbb).trans e1
      have hst := many_step M L' m hlt
      have hg := HG.out m hlt
      have hmo : manyOf M L' m ≤ 20 := Nat.le_trans (List.length_filter_le _ _) (by simp; omega)
      have hmm := isMember_iff M L'[m]
      generalize L'[m] = u at *
      obtain ⟨u, z⟩ := u
      simp only at *
      generalize manyOf M L' m = k at *
      have HS : Hid (manyOf M L' (m + 1) = k + (if isMember M (u, z) = true then 1 else 0)) := hst
      have HMM : Hid (isMember M (u, z) = true ↔ u = M) := hmm
      clear hst hmm nw
      by_cases hu : u = M
      · have hz : z = (q : Int) - 500 := hg hu
        subst hu
        subst hz
        have hwk : IntKind.i64.wrap ((k : Int) + 1) = (k : Int) + 1 := by rw [IntKind.wrap_i64]; omega
        have hs : (u.toList == u.toList) = true := by simp
        go_wp2_with fail
        exact ⟨⟨m + 1, by go_num, by rw [HS.out, if_pos (HMM.out.2 rfl)]; simp, by omega, hb⟩, by simp [intOf]; omega⟩
      · have hs : (u.toList == M.toList) = false := by
          cases h : u.toList == M.toList with
          | false => rfl
          | true => exact absurd (HMM.out.1 h) hu
        clear hg
        go_wp2_with fail
        exact ⟨⟨m + 1, by go_num, by rw [HS.out, if_neg (fun h => hu (HMM.out.1 h))]; simp, by omega, hb⟩, by simp [intOf]; omega⟩
    · have hge : ¬ (m : Int) < (L'.length : Int) := by omega
      have hml : m = L'.length := by omega
      subst hml
      have hv := HV2.out.below hb
      have nr := (hb.block _ (lt_at HNR.out)).trans HNR.out
      have nv := (hb.block _ (lt_at HNV.out)).trans HNV.out
      have hB := bstep HB.out hb
      have hone := HM.out
      rw [hone]
      clear hone hb HNR HNV HV2 HB HCC HG HM
      have hlv := lt_at nv
      obtain ⟨c3, f3⟩ := cellsB nv
      have hlw := lt_at nw
      have hlr := lt_at nr
      obtain ⟨c2, f2⟩ := cellsB nr
      go_wp2_with fail
      refine (A2.out _ _ _ _ hv).mono ?_
      rintro e w5 ⟨pa3, pc3, ia3, ic3, sa3, sc3, la3, lc3, rfl, -, -, hb5⟩
      clear A2 c1 f1 c2 f2 c3 f3 hlw hlr hlv
      replace nw := (hb5.block _ (lt_at nw)).trans nw
      replace nr := (hb5.block _ (lt_at nr)).trans nr
      replace nv := (hb5.block _ (lt_at nv)).trans nv
      replace hB := bstep hB hb5
      clear hb5
      obtain ⟨c1, f1⟩ := cellsB nw
      obtain ⟨c2, f2⟩ := cellsB nr
      obtain ⟨c3, f3⟩ := cellsB nv
      have hlw := lt_at nw
      have hlr := lt_at nr
      have hlv := lt_at nv
      have hN : ∃ N : Nat, L.length = N ∧ L'.length = N ∧ y.scores.length = N - 1 ∧ 1 ≤ N ∧ N ≤ 20 := ⟨L.length, rfl, HL.out, by have := HL2.out; rw [HL.out] at this; exact this, h1, h20⟩
      obtain ⟨N, e1, e2, e3, e4, e5⟩ := hN
      rw [e1] at c3
      rw [e2] at c1
      have e6 : ((N - 1 : Nat) : Int) = (N : Int) - 1 := by omega
      have hwn : IntKind.i64.wrap ((N : Int) - 1) = (N : Int) - 1 := by rw [IntKind.wrap_i64]; omega
      rw [e3]
      clear e1 e2 e3 nw nr nv HL HL2 hi' h0' hL'0 hL'20 h1 h20 hi
      go_wp2_with fail
      go_ret
      exact ⟨rfl, (hB.alloc hB.size _).alloc (by have := hB.size; simp; omega) _⟩

theorem walk (v0 v1 v2 : Value) (w : World) (h0 : IsRaws w v0) (h1 : IsInt v1) (h2 : IsInt v2) :
    Calls Tryz.prog 8 #[v0, v1, v2] w fun e w' => e = .returned (.bool true) ∧ Below w.heap.size w w' := by
  obtain ⟨l, hl, hz⟩ := h0
  obtain ⟨x1, rfl, c1, c2⟩ := h1
  obtain ⟨x2, rfl, c3, c4⟩ := h2
  exact walk0 v0 l x1 x2 w hl hz ⟨c1, c2⟩ ⟨c3, c4⟩

theorem own : ownKnob Tryz.prog.godebug = none := by kernel_rfl
theorem laidOut : laidOutB Tryz.prog = true := by kernel_rfl

set_option maxRecDepth 100000 in
theorem lifted (os : Os) (started : os.Started) (H : Type) (enc : TypeId × Value → H) :
    ReturnsInHanded {} Tryz.checked os 8 .any (Rows.rankMovesSpec.pre6 enc Tryz.prog Tryz.f8 Rows.rankMovesRow.domain false) (Rows.rankMovesSpec.post enc Tryz.prog Tryz.f8 false true false false) := by
  refine returnsInHanded_of_change_sized (C := Tryz.checked) own started (by kernel_rfl) Tryz.func8
    (ChangeSpec.witness6 (enc := enc) (C := Tryz.checked) false ⟨#[], #[.slice none 0 0, .int .i64 0, .int .i64 0], []⟩ 8 (by kernel_rfl) (by kernel_rfl) (by kernel_rfl) (by kernel_rfl)) ?_
  intro W base args ds gs before hval0 hW hcnd hsz _
  have hval : ∀ (j : Nat) t v, Tryz.f8.params[j]? = some t → args[j]? = some v → Value.okWide Tryz.prog W .any base t v := hval0
  have hW' := hW
  obtain ⟨p, q, hA0, hV, rfl, hfz, hnd⟩ := hW
  have hA : DataW.TrodAll enc Tryz.prog W 0 (fun _ => true) true Tryz.f8.params.toList args.toList ds p := hA0
  rw [Tryz.params8] at hA hval
  obtain ⟨v0, vs0, d0, ds0, p0, q0, hargs, rfl, rfl, h0, r0⟩ := trodAll_cons hA
  obtain ⟨v1, vs1, d1, ds1, p1, q1, rfl, rfl, rfl, h1, r1⟩ := trodAll_cons r0
  obtain ⟨v2, vs2, d2, ds2, p2, q2, rfl, rfl, rfl, h2, r2⟩ := trodAll_cons r1
  obtain ⟨rfl, rfl, rfl⟩ := trodAll_nil r2
  obtain rfl : args = #[v0, v1, v2] := by cases args; simp_all
  obtain ⟨rfl, rfl⟩ := trodVars_none hV
  have lt0 : ∀ x ∈ p0, x.block < W.heap.size := by obtain ⟨m, hm⟩ := h0; exact DataW.trod_lt m _ _ _ hm
  have g0 := shape_raws (hval 0 38 v0 rfl rfl) h0 (fun n hn => of_decide_eq_true (List.all_eq_true.1 hsz n (DataW.weights_mem_each (j := 0) rfl rfl n hn)))
  have lt1 : ∀ x ∈ p1, x.block < W.heap.size := by obtain ⟨m, hm⟩ := h1; exact DataW.trod_lt m _ _ _ hm
  have g1 := shape_int (hval 1 3 v1 rfl rfl) h1
  have lt2 : ∀ x ∈ p2, x.block < W.heap.size := by obtain ⟨m, hm⟩ := h2; exact DataW.trod_lt m _ _ _ hm
  have g2 := shape_int (hval 2 3 v2 rfl rfl) h2
  clear hA0 hval0
  refine (walk v0 v1 v2 W g0 g1 g2).mono fun e W' ⟨he, bel⟩ => ?_
  subst he
  exact ⟨_, rfl, _, _, _, [], _, [], hW', trodAll_mk1 (shut_bool Tryz.underlying4 _), (trodAll_cons_mk (Below.trod laidOut (by kernel_rfl) (of_decide_eq_true (by kernel_rfl)) h0 bel lt0) (trodAll_cons_mk (Below.trod laidOut (by kernel_rfl) (of_decide_eq_true (by kernel_rfl)) h1 bel lt1) (trodAll_cons_mk (Below.trod laidOut (by kernel_rfl) (of_decide_eq_true (by kernel_rfl)) h2 bel lt2) trodAll_mk0))), rfl, bel.frame _, fun h => by cases h⟩

theorem over : Rows.rankMovesRow.holds Tryz.pinned (OpenSpec.ofChange Rows.rankMovesSpec) :=
  OpenClaim.holds_of_wide 8 Tryz.f8 rfl rfl rfl rfl rfl rfl rfl ⟨rfl, rfl, rfl, rfl, rfl⟩ rfl rfl rfl rfl rfl (by kernel_rfl) Tryz.func8 (by kernel_rfl)
    (of_decide_eq_true (by kernel_rfl)) (by unfold Func.isWrapper; first | (rw [if_pos (by decide +kernel)]; kernel_rfl) | (rw [if_neg (by decide +kernel)]; exact ⟨rfl, rfl⟩))
    (fun os started H enc _ => lifted os started H enc)

end Go.Proofs.YtgpdnhammdgndaaGreat.rankMovesDone
namespace Go.Proofs.YtgpdnhammdgndaaGreat
theorem RankMoves_holds : Rows.RankMovesSaid := rankMovesDone.over
end Go.Proofs.YtgpdnhammdgndaaGreat
