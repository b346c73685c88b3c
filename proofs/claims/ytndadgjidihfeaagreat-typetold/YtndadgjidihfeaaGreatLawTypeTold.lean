/- A command of another kind is refused, and leaves all as it was: for every kind and all raw numbers the law returns true. No condition. -/
import Derived.Test.YtndadgjidihfeaaGreatFw
namespace Go.Proofs.YtndadgjidihfeaaGreat.typeToldDone
open Go.ChangeShapes Go.WideShapes Go.ChangeAt Go.RowKit
open Go.Proofs.YtndadgjidihfeaaGreat
set_option linter.unusedVariables false
set_option maxRecDepth 100000

def kindK (k : Int) : Int := if k = 2 then 1 else if k = 3 then 2 else if 4 ≤ k ∧ k ≤ 6 then 3 else if 7 ≤ k ∧ k ≤ 10 then 4 else if 11 ≤ k ∧ k ≤ 13 then 5 else if 14 ≤ k ∧ k ≤ 16 then 6 else 0
set_option maxHeartbeats 4000000 in
theorem kindK_any (k : Int) (w : World) : Calls Tryz.prog 31 #[.int .i64 k] w fun e w' => e = .returned (.int .i64 (kindK k)) ∧ w = w' := by
  have hc : k = 2 ∨ k = 3 ∨ (4 ≤ k ∧ k ≤ 6) ∨ (7 ≤ k ∧ k ≤ 10) ∨ (11 ≤ k ∧ k ≤ 13) ∨ (14 ≤ k ∧ k ≤ 16) ∨ k < 2 ∨ 16 < k := by omega
  go_enter Tryz.func31, Tryz.ntmps31
  go_wp2
  all_goals (go_ret; exact ⟨ret_int (by simp only [beq_iff_eq, beq_eq_false_iff_ne, ne_eq] at *; unfold kindK; (repeat' split) <;> omega), rfl⟩)

theorem perf_code (x : Val) (c : Cmd) : (performV x c).2.code ≠ 4 := by
  unfold performV
  by_cases h1 : c.k = 1
  · rw [if_pos h1]; simp
  rw [if_neg h1]
  by_cases h2 : c.k = 2
  · rw [if_pos h2]; simp
  rw [if_neg h2]
  by_cases h3 : c.k = 3
  · rw [if_pos h3]; unfold addV; split <;> simp
  rw [if_neg h3]
  by_cases h17 : c.k = 17
  · rw [if_pos h17]; simp
  rw [if_neg h17]
  by_cases h18 : c.k = 18
  · rw [if_pos h18]; simp
  rw [if_neg h18]
  split
  · unfold hashV; repeat' split
    all_goals simp
  split
  · unfold listV; repeat' split
    all_goals simp
  split
  · unfold setV; repeat' split
    all_goals simp
  · unfold rankV; repeat' split
    all_goals simp

/-- What a command with a value that may be comes to: refused for its kind; done; or refused, all as it was. -/
theorem told {x : Val} {c : Cmd} (hok : OkVal x) (hc : c.fault = 0) (h18 : ¬ 18 < c.k) :
    refusalI x c = 0 ∧ ((fitsB x.kind c.k = false ∧ doV x c = x ∧ doR x c = { code := 4 }) ∨ (fitsB x.kind c.k = true ∧ (doR x c).code = 0) ∨ (fitsB x.kind c.k = true ∧ ∃ f, f ≠ 0 ∧ f ≠ 4 ∧ doV x c = x ∧ doR x c = { code := f })) := by
  have hst : ofStoreB c.k = false := by simp [ofStoreB]; omega
  have hr := Well.ref (.inr hok) hc hst
  refine ⟨hr, ?_⟩
  unfold doV doR answerV
  rw [hr, hok.not_none]
  simp only [ne_eq, not_true_eq_false, if_false, Bool.false_eq_true]
  cases hf : fitsB x.kind c.k with
  | false => left; simp
  | true =>
    right
    simp only [if_true]
    by_cases h0 : (performV x c).2.code = 0
    · left; simp [h0]
    · right
      have h4 := perf_code x c
      generalize performV x c = z at h0 h4 ⊢
      exact ⟨trivial, z.2.code, h0, h4, by rw [if_pos h0], by rw [if_pos h0]⟩

theorem clash_cases {x : Val} {k : Int} (h1 : 1 ≤ x.kind) (h6 : x.kind ≤ 6) (hk1 : 1 ≤ k) (hk : k ≤ 18) :
    (fitsB x.kind k = true ∧ ((k = 1 ∧ kindK k = 0) ∨ ((k = 17 ∨ k = 18) ∧ kindK k = 0 ∧ 2 < x.kind) ∨ (kindK k ≠ 0 ∧ kindK k = x.kind ∧ k ≠ 17 ∧ k ≠ 18))) ∨
    (fitsB x.kind k = false ∧ (((k = 17 ∨ k = 18) ∧ kindK k = 0 ∧ x.kind ≤ 2) ∨ (kindK k ≠ 0 ∧ kindK k ≠ x.kind ∧ k ≠ 17 ∧ k ≠ 18))) := by
  unfold fitsB
  by_cases e1 : k = 1
  · left; subst e1; simp [kindK]
  rw [if_neg e1]
  by_cases e2 : k = 17 ∨ k = 18
  · rw [if_pos e2]
    have h0 : kindK k = 0 := by rcases e2 with rfl | rfl <;> rfl
    by_cases h2 : 2 < x.kind
    · left; exact ⟨by simp [holdsB]; omega, .inr (.inl ⟨e2, h0, h2⟩)⟩
    · right; exact ⟨by simp [holdsB]; omega, .inl ⟨e2, h0, by omega⟩⟩
  · rw [if_neg e2]
    have hkk : kindK k = kindOfI k ∧ kindK k ≠ 0 := by unfold kindK kindOfI; (repeat' split) <;> omega
    rw [← hkk.1]
    by_cases h : kindK k = x.kind
    · left; exact ⟨by simp [h], .inr (.inr ⟨hkk.2, h, by omega, by omega⟩)⟩
    · right; exact ⟨by simp; omega, .inr ⟨hkk.2, h, by omega, by omega⟩⟩

set_option maxHeartbeats 8000000 in
theorem walk0 (kind : Int) (s : Value) (l : List Raw) (r : Raw) (w : World) (bk : -9223372036854775808 ≤ kind ∧ kind ≤ 9223372036854775807) (hl : RawsAt w s l) (hz : l.length * 48 ≤ reachBytes) (hr : r.wf) :
    Calls Tryz.prog 11 #[.int .i64 kind, s, rawV r.k r.key r.fld r.n r.txt] w fun e w' => e = .returned (.bool true) ∧ Below w.heap.size w w' := by
  have hF := fun W (h : Below w.heap.size w W) => full_any kind s l W bk (hl.below h) hz
  have l6 := pickedN_lt kind (show 0 < 6 by omega)
  generalize pickedN kind 6 = p at hF l6
  obtain ⟨hok, hkd⟩ := fullFor_ok p l6 l
  generalize fullFor p l = x at hF hok hkd
  obtain ⟨k, key, fld, n, txt⟩ := r
  obtain ⟨b1, b2, b3, b4, b5⟩ := hr
  simp only [i64s] at b1 b2 b3 b4 b5 ⊢
  have hC := fun W => command_any k key fld n txt W b1 b2 b3 b4 b5
  have hcf := cmdFor_fault (1 + pickedN k 22) key fld n txt (by omega) (by have := pickedN_lt k (show 0 < 22 by omega); omega)
  generalize cmdFor (1 + pickedN k 22) key fld n txt = c at hC hcf
  have hA := acts_any x c
  have htold := told hok hcf
  have hlo := (okCmd hcf).lo
  have hcl := clash_cases (k := c.k) hok.lo hok.hi hlo
  have hx0 : (x.kind == 0) = false := by have := hok.lo; simp; omega
  have hx0' : (x.kind != 0) = true := by have := hok.lo; simp; omega
  generalize doV x c = y at hA htold
  generalize doR x c = q at hA htold
  generalize refusalI x c = f at hA htold
  obtain ⟨ck, ckey, cfld, ctxt, cn⟩ := c
  simp only at htold hlo hcl
  have hKK := fun W => kindK_any ck W
  generalize kindK ck = K at hcl hKK
  have HF : Hid (∀ W, Below w.heap.size w W → Calls Tryz.prog 22 #[.int .i64 kind, s] W fun e w' => ∃ v, e = .returned v ∧ RepsF W.heap.size w' v x ∧ Below W.heap.size W w') := hF
  have HC : Hid (∀ W, Calls Tryz.prog 24 #[rawV k key fld n txt] W fun e w' => e = .returned (cmdV ck ckey cfld ctxt cn) ∧ Below W.heap.size W w') := hC
  have HA : Hid (Acts x ⟨ck, ckey, cfld, ctxt, cn⟩ y q f) := hA
  have HT : Hid (¬ 18 < ck → f = 0 ∧ ((fitsB x.kind ck = false ∧ y = x ∧ q = { code := 4 }) ∨ (fitsB x.kind ck = true ∧ q.code = 0) ∨ (fitsB x.kind ck = true ∧ ∃ f, f ≠ 0 ∧ f ≠ 4 ∧ y = x ∧ q = { code := f }))) := htold
  have HL : Hid (ck ≤ 18 → (fitsB x.kind ck = true ∧ ((ck = 1 ∧ K = 0) ∨ ((ck = 17 ∨ ck = 18) ∧ K = 0 ∧ 2 < x.kind) ∨ (K ≠ 0 ∧ K = x.kind ∧ ck ≠ 17 ∧ ck ≠ 18))) ∨ (fitsB x.kind ck = false ∧ (((ck = 17 ∨ ck = 18) ∧ K = 0 ∧ x.kind ≤ 2) ∨ (K ≠ 0 ∧ K ≠ x.kind ∧ ck ≠ 17 ∧ ck ≠ 18)))) := hcl
  have HKK : Hid (∀ W, Calls Tryz.prog 31 #[.int .i64 ck] W fun e w' => e = .returned (.int .i64 K) ∧ W = w') := hKK
  clear hF hC hA hok hkd hl hz bk b1 b2 b3 b4 b5 hcf htold hcl hKK hlo
  have hb0 := balloc w (.cells #[.int .i64 k, .int .i64 key, .int .i64 fld, .int .i64 n, .string txt] 40)
  go_enter Tryz.func11, Tryz.ntmps11
  go_wp2_with fail
  refine (HF.out _ hb0).mono ?_
  rintro e w1 ⟨v, rfl, hr, hb1⟩
  have nr := (hb1.block w.heap.size (by simp)).trans (alloc_here w (.cells #[.int .i64 k, .int .i64 key, .int .i64 fld, .int .i64 n, .string txt] 40))
  have hB := bstep hb0 hb1
  clear HF hb0 hb1
  obtain ⟨ps, is, ss, rfl, hv, -⟩ := hr
  obtain ⟨pa, pc, ia, ic, sa, sc, rfl, rfl, rfl, -⟩ := hv.lens
  have hlr := lt_at nr
  obtain ⟨c1, f1⟩ := cellsB nr
  go_wp2_with fail
  clear c1 f1 hlr
  have nv := alloc_at w1 (valO x.kind x.text x.count (.slice pa x.pairs.length pc) (.slice ia x.items.length ic) (.slice sa x.scores.length sc))
  have hbx := balloc w1 (valO x.kind x.text x.count (.slice pa x.pairs.length pc) (.slice ia x.items.length ic) (.slice sa x.scores.length sc))
  replace nr := (hbx.block _ (lt_at nr)).trans nr
  replace hv := hv.below hbx
  replace hB := hB.alloc hB.size (valO x.kind x.text x.count (.slice pa x.pairs.length pc) (.slice ia x.items.length ic) (.slice sa x.scores.length sc))
  clear hbx
  generalize w1.alloc (valO x.kind x.text x.count (.slice pa x.pairs.length pc) (.slice ia x.items.length ic) (.slice sa x.scores.length sc)) = V1 at nv nr hv hB ⊢
  generalize w1.heap.size = bv at nv ⊢
  refine (HC.out _).mono ?_
  rintro e w3 ⟨rfl, hb3⟩
  clear HC
  replace nv := (hb3.block _ (lt_at nv)).trans nv
  replace hv := hv.below hb3
  replace hB := bstep hB hb3
  clear hb3
  have hlv := lt_at nv
  obtain ⟨c1, f1⟩ := cellsB nv
  by_cases h18 : 18 < ck
  · go_wp2_with fail
    go_ret
    exact ⟨rfl, hB.alloc hB.size _⟩
  · go_wp2_with fail
    clear hlv c1 f1
    have nc := alloc_at w3 (.cells #[.int .i64 ck, .string ckey, .string cfld, .string ctxt, .int .i64 cn] 28)
    have hbx := balloc w3 (.cells #[.int .i64 ck, .string ckey, .string cfld, .string ctxt, .int .i64 cn] 28)
    replace nv := (hbx.block _ (lt_at nv)).trans nv
    replace hv := hv.below hbx
    replace hB := hB.alloc hB.size (.cells #[.int .i64 ck, .string ckey, .string cfld, .string ctxt, .int .i64 cn] 28)
    clear hbx
    generalize w3.alloc (.cells #[.int .i64 ck, .string ckey, .string cfld, .string ctxt, .int .i64 cn] 28) = V3 at nc nv hv hB ⊢
    generalize w3.heap.size = bc at nc ⊢
    obtain ⟨hf0, hcases⟩ := HT.out h18
    subst hf0
    have hcl := HL.out (by omega)
    refine (HA.out _ _ _ _ hv).mono ?_
    rintro e w4 ⟨pa2, pc2, ia2, ic2, sa2, sc2, la2, lc2, rfl, hv2, -, hb4⟩
    clear HA HT HL
    replace nc := (hb4.block _ (lt_at nc)).trans nc
    replace nv := (hb4.block _ (lt_at nv)).trans nv
    replace hv := hv.below hb4
    replace hB := bstep hB hb4
    clear hb4
    obtain ⟨c1, f1⟩ := cellsB nc
    have hlc := lt_at nc
    have hlv := lt_at nv
    go_wp2_with fail
    clear c1 f1 hlc hlv
    obtain ⟨nw, nq⟩ := two_new w4 (valO y.kind y.text y.count (.slice pa2 y.pairs.length pc2) (.slice ia2 y.items.length ic2) (.slice sa2 y.scores.length sc2)) (repO q.code q.text q.n (.slice la2 q.list.length lc2))
    have hbx : Below w4.heap.size w4 ((w4.alloc (valO y.kind y.text y.count (.slice pa2 y.pairs.length pc2) (.slice ia2 y.items.length ic2) (.slice sa2 y.scores.length sc2))).alloc (repO q.code q.text q.n (.slice la2 q.list.length lc2))) := (balloc _ _).alloc (by simp) _
    replace nc := (hbx.block _ (lt_at nc)).trans nc
    replace nv := (hbx.block _ (lt_at nv)).trans nv
    replace hv := hv.below hbx
    replace hv2 := hv2.below hbx
    replace hB := bstep hB hbx
    clear hbx
    generalize (w4.alloc (valO y.kind y.text y.count (.slice pa2 y.pairs.length pc2) (.slice ia2 y.items.length ic2) (.slice sa2 y.scores.length sc2))).alloc (repO q.code q.text q.n (.slice la2 q.list.length lc2)) = V4 at nw nq nc nv hv hv2 hB ⊢
    generalize w4.heap.size = bw at nw nq ⊢
    refine (HKK.out _).mono ?_
    rintro e w5 ⟨rfl, rfl⟩
    clear HKK
    obtain ⟨c1, f1⟩ := cellsB nc
    obtain ⟨c2, f2⟩ := cellsB nv
    obtain ⟨c3, f3⟩ := cellsB nq
    obtain ⟨c4, f4⟩ := cellsB nw
    have hfin : (y = x → Calls Tryz.prog 25 #[valV x.kind x.text x.count (.slice pa x.pairs.length pc) (.slice ia x.items.length ic) (.slice sa x.scores.length sc), valV y.kind y.text y.count (.slice pa2 y.pairs.length pc2) (.slice ia2 y.items.length ic2) (.slice sa2 y.scores.length sc2)] V4 fun e w' => e = .returned (.bool true) ∧ Below V4.heap.size V4 w') := by
      rintro rfl; exact sameValue_lists hv hv2
    have hlq := lt_at nq
    clear nc nv nw nq hv hv2
    have hd : ∀ (b : Bool) (P : Prop) [Decidable P], (P ↔ b = true) → decide P = b := fun b P _ h => by cases b <;> simp_all
    obtain ⟨qc, qt, qn, ql⟩ := q
    simp only at hcases c3 ⊢
    rcases hcl with ⟨ft, hk⟩ | ⟨ft, hk⟩
    · rw [ft] at hcases
      have hq : (qc = 0) ∨ (qc ≠ 0 ∧ qc ≠ 4 ∧ y = x ∧ qt = ⟨#[]⟩ ∧ qn = 0 ∧ ql = []) := by
        rcases hcases with ⟨h, -⟩ | ⟨-, h⟩ | ⟨-, f, f0, f4, hy, hq⟩
        · cases h
        · exact .inl h
        · simp only [Rep.mk.injEq] at hq; exact .inr ⟨by omega, by omega, hy, hq.2.1, hq.2.2.1, hq.2.2.2⟩
      clear hcases ft
      have hcode : (qc == 4) = false := by simp; omega
      have g : ((K != 0) = false ∧ (ck == 17) = false ∧ (ck == 18) = false) ∨ ((K != 0) = false ∧ ((ck == 17) = true ∨ ((ck == 17) = false ∧ (ck == 18) = true)) ∧ decide (x.kind ≤ 2) = false) ∨ ((K != 0) = true ∧ (K != x.kind) = false ∧ (ck == 17) = false ∧ (ck == 18) = false) := by
        rcases hk with ⟨e1, e2⟩ | ⟨e1, e2, e3⟩ | ⟨e1, e2, e3, e4⟩
        · left; simp; omega
        · right; left; simp; omega
        · right; right; simp; omega
      clear hk
      rcases hq with h0 | ⟨h0, h4, hy, t0, n0, l0⟩
      · have hz : (qc == 0) = true := by simp [h0]
        clear hfin
        rcases g with ⟨g1, g2, g3⟩ | ⟨g1, g2 | ⟨g2, g3⟩, g4⟩ | ⟨g1, g2, g3, g4⟩
        all_goals
          go_wp2_with fail
          go_ret
          exact ⟨rfl, hB⟩
      · have hz : (qc == 0) = false := by simp [h0]
        subst hy
        have hS := hfin rfl
        clear hfin
        subst t0 n0 l0
        simp only [List.length_nil] at c3 ⊢
        rcases g with ⟨g1, g2, g3⟩ | ⟨g1, g2 | ⟨g2, g3⟩, g4⟩ | ⟨g1, g2, g3, g4⟩
        all_goals
          go_wp2_with fail
          (with_reducible refine hS.mono ?_)
          rintro e w6 ⟨rfl, hb6⟩
          have d3 := fun o => (hb6.cell (p := ⟨bw + 1, o, none⟩) hlq).trans (c3 o)
          go_wp2_with fail
          go_ret
          exact ⟨rfl, bstep hB hb6⟩
    · rw [ft] at hcases
      have hq : y = x ∧ qc = 4 ∧ qt = ⟨#[]⟩ ∧ qn = 0 ∧ ql = [] := by
        rcases hcases with ⟨-, hy, hq⟩ | ⟨h, -⟩ | ⟨h, -⟩
        · simp only [Rep.mk.injEq] at hq; exact ⟨hy, hq⟩
        · cases h
        · cases h
      clear hcases ft
      obtain ⟨hy, h4, t0, n0, l0⟩ := hq
      have g : ((K != 0) = false ∧ ((ck == 17) = true ∨ ((ck == 17) = false ∧ (ck == 18) = true)) ∧ decide (x.kind ≤ 2) = true) ∨ ((K != 0) = true ∧ (K != x.kind) = true) := by
        rcases hk with ⟨e1, e2, e3⟩ | ⟨e1, e2, e3, e4⟩
        · left; simp; omega
        · right; simp; omega
      subst hy
      have hS := hfin rfl
      clear hfin hk
      subst t0 n0 l0 h4
      simp only [List.length_nil] at c3 ⊢
      rcases g with ⟨g1, g2 | ⟨g2, g3⟩, g4⟩ | ⟨g1, g2⟩
      all_goals
        go_wp2_with fail
        (with_reducible refine hS.mono ?_)
        rintro e w6 ⟨rfl, hb6⟩
        have d3 := fun o => (hb6.cell (p := ⟨bw + 1, o, none⟩) hlq).trans (c3 o)
        go_wp2_with fail
        go_ret
        exact ⟨rfl, bstep hB hb6⟩

theorem walk (v0 v1 v2 : Value) (w : World) (h0 : IsInt v0) (h1 : IsRaws w v1) (h2 : IsRaw v2) :
    Calls Tryz.prog 11 #[v0, v1, v2] w fun e w' => e = .returned (.bool true) ∧ Below w.heap.size w w' := by
  obtain ⟨k, rfl, c1, c2⟩ := h0
  obtain ⟨l, hl, hz⟩ := h1
  obtain ⟨k2, key, fld, n, txt, rfl, b1, b2, b3, b4, b5⟩ := h2
  exact walk0 k v1 l ⟨k2, key, fld, n, txt⟩ w ⟨c1, c2⟩ hl hz ⟨b1, b2, b3, b4, b5⟩

theorem own : ownKnob Tryz.prog.godebug = none := by kernel_rfl
theorem laidOut : laidOutB Tryz.prog = true := by kernel_rfl

set_option maxRecDepth 100000 in
theorem lifted (os : Os) (started : os.Started) (H : Type) (enc : TypeId × Value → H) :
    ReturnsInHanded {} Tryz.checked os 11 .any (Rows.typeToldSpec.pre6 enc Tryz.prog Tryz.f11 Rows.typeToldRow.domain false) (Rows.typeToldSpec.post enc Tryz.prog Tryz.f11 false true false false) := by
  refine returnsInHanded_of_change_sized (C := Tryz.checked) own started (by kernel_rfl) Tryz.func11
    (ChangeSpec.witness6 (enc := enc) (C := Tryz.checked) false ⟨#[], #[.int .i64 0, .slice none 0 0, .agg #[.int .i64 0, .int .i64 0, .int .i64 0, .int .i64 0, .string ByteArray.empty]], []⟩ 8 (by kernel_rfl) (by kernel_rfl) (by kernel_rfl) (by kernel_rfl)) ?_
  intro W base args ds gs before hval0 hW hcnd hsz _
  have hval : ∀ (j : Nat) t v, Tryz.f11.params[j]? = some t → args[j]? = some v → Value.okWide Tryz.prog W .any base t v := hval0
  have hW' := hW
  obtain ⟨p, q, hA0, hV, rfl, hfz, hnd⟩ := hW
  have hA : DataW.TrodAll enc Tryz.prog W 0 (fun _ => true) true Tryz.f11.params.toList args.toList ds p := hA0
  rw [Tryz.params11] at hA hval
  obtain ⟨v0, vs0, d0, ds0, p0, q0, hargs, rfl, rfl, h0, r0⟩ := trodAll_cons hA
  obtain ⟨v1, vs1, d1, ds1, p1, q1, rfl, rfl, rfl, h1, r1⟩ := trodAll_cons r0
  obtain ⟨v2, vs2, d2, ds2, p2, q2, rfl, rfl, rfl, h2, r2⟩ := trodAll_cons r1
  obtain ⟨rfl, rfl, rfl⟩ := trodAll_nil r2
  obtain rfl : args = #[v0, v1, v2] := by cases args; simp_all
  obtain ⟨rfl, rfl⟩ := trodVars_none hV
  have lt0 : ∀ x ∈ p0, x.block < W.heap.size := by obtain ⟨m, hm⟩ := h0; exact DataW.trod_lt m _ _ _ hm
  have g0 := shape_int (hval 0 3 v0 rfl rfl) h0
  have lt1 : ∀ x ∈ p1, x.block < W.heap.size := by obtain ⟨m, hm⟩ := h1; exact DataW.trod_lt m _ _ _ hm
  have g1 := shape_raws (hval 1 38 v1 rfl rfl) h1 (fun n hn => of_decide_eq_true (List.all_eq_true.1 hsz n (DataW.weights_mem_each (j := 1) rfl rfl n hn)))
  have lt2 : ∀ x ∈ p2, x.block < W.heap.size := by obtain ⟨m, hm⟩ := h2; exact DataW.trod_lt m _ _ _ hm
  have g2 := shape_raw (hval 2 40 v2 rfl rfl) h2
  clear hA0 hval0
  refine (walk v0 v1 v2 W g0 g1 g2).mono fun e W' ⟨he, bel⟩ => ?_
  subst he
  exact ⟨_, rfl, _, _, _, [], _, [], hW', trodAll_mk1 (shut_bool Tryz.underlying4 _), (trodAll_cons_mk (Below.trod laidOut (by kernel_rfl) (of_decide_eq_true (by kernel_rfl)) h0 bel lt0) (trodAll_cons_mk (Below.trod laidOut (by kernel_rfl) (of_decide_eq_true (by kernel_rfl)) h1 bel lt1) (trodAll_cons_mk (Below.trod laidOut (by kernel_rfl) (of_decide_eq_true (by kernel_rfl)) h2 bel lt2) trodAll_mk0))), rfl, bel.frame _, fun h => by cases h⟩

theorem over : Rows.typeToldRow.holds Tryz.pinned (OpenSpec.ofChange Rows.typeToldSpec) :=
  OpenClaim.holds_of_wide 11 Tryz.f11 rfl rfl rfl rfl rfl rfl rfl ⟨rfl, rfl, rfl, rfl, rfl⟩ rfl rfl rfl rfl rfl (by kernel_rfl) Tryz.func11 (by kernel_rfl)
    (of_decide_eq_true (by kernel_rfl)) (by unfold Func.isWrapper; first | (rw [if_pos (by decide +kernel)]; kernel_rfl) | (rw [if_neg (by decide +kernel)]; exact ⟨rfl, rfl⟩))
    (fun os started H enc _ => lifted os started H enc)

end Go.Proofs.YtndadgjidihfeaaGreat.typeToldDone
namespace Go.Proofs.YtndadgjidihfeaaGreat
theorem TypeTold_holds : Rows.TypeToldSaid := typeToldDone.over
end Go.Proofs.YtndadgjidihfeaaGreat
