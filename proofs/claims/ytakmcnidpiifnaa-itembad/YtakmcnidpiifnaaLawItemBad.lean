/- An item of raw numbers may be; with a term of 0, with a time below 0 or beyond the last, or as one that does nothing and has a call, it is refused, also when it is to be written: for all raw numbers and every choice the law returns true. No condition. -/
import Derived.Test.YtakmcnidpiifnaaOd
namespace Go.Proofs.Ytakmcnidpiifnaa.itemBadDone
open Go.ChangeShapes Go.WideShapes Go.ChangeAt Go.RowKit
open Go.Proofs.Ytakmcnidpiifnaa
set_option linter.unusedVariables false
set_option maxRecDepth 100000

theorem may (t u : Int) (p : Bool) (cl seq k : Int) (key fld txt : ByteArray) (n : Int) (h : itemFault t u p cl seq k key fld txt n = 0) : numB t = true ∧ timeB u = true := by
  unfold itemFault at h
  split at h
  · rename_i e; simpa using e
  · omega
theorem bad0 (u : Int) (p : Bool) (cl seq k : Int) (key fld txt : ByteArray) (n : Int) : itemFault 0 u p cl seq k key fld txt n = 2 := by simp [itemFault, numB]
theorem bad1 (t : Int) (p : Bool) (cl seq k : Int) (key fld txt : ByteArray) (n : Int) : itemFault t (-1) p cl seq k key fld txt n = 2 := by simp [itemFault, timeB]
theorem bad2 (t : Int) (p : Bool) (cl seq k : Int) (key fld txt : ByteArray) (n : Int) : itemFault t 1073741825 p cl seq k key fld txt n = 2 := by simp [itemFault, timeB]
theorem bad3 (t u : Int) (h : numB t = true ∧ timeB u = true) : itemFault t u true 0 1 0 ⟨#[]⟩ ⟨#[]⟩ ⟨#[]⟩ 0 = 8 := by simp [itemFault, h.1, h.2, emptyB]

/-- What a refused item comes to: asked, and when it is to be written. -/
def Bad (t u : Int) (p : Bool) (cl seq k : Int) (key fld txt : ByteArray) (n f : Int) : Prop :=
  (∀ W, Calls Try.prog 27 #[itemV t u p cl seq k key fld txt n] W fun e w' => e = .returned (.int .i64 f) ∧ Below W.heap.size W w') ∧
  (∀ W, Calls Try.prog 29 #[itemV t u p cl seq k key fld txt n] W fun e w' => e = .returned (.tuple #[.slice none 0 0, .int .i64 f]) ∧ Below W.heap.size W w')
theorem bad_of {t u : Int} {p : Bool} {cl seq k : Int} {key fld txt : ByteArray} {n f : Int} (h : itemFault t u p cl seq k key fld txt n = f) (h0 : f ≠ 0) : Bad t u p cl seq k key fld txt n f :=
  ⟨fun W => by have := checkItem_any t u p cl seq k key fld txt n W; rwa [h] at this, fun W => encodeItem_bad ⟨t, u, p, cl, seq, ⟨k, key, fld, txt, n⟩⟩ f W h h0⟩

set_option maxHeartbeats 8000000 in
theorem walk0 (cl off wait k key fld n : Int) (txt : ByteArray) (b : Int) (w : World) (bc : -9223372036854775808 ≤ cl ∧ cl ≤ 9223372036854775807) (bo : -9223372036854775808 ≤ off ∧ off ≤ 9223372036854775807)
    (bk : -9223372036854775808 ≤ k ∧ k ≤ 9223372036854775807) (bkey : -9223372036854775808 ≤ key ∧ key ≤ 9223372036854775807)
    (bf : -9223372036854775808 ≤ fld ∧ fld ≤ 9223372036854775807) (bn : -9223372036854775808 ≤ n ∧ n ≤ 9223372036854775807) (bt : txt.size ≤ 9223372036854775807) (bb : -9223372036854775808 ≤ b ∧ b ≤ 9223372036854775807) :
    Calls Try.prog 14 #[deedV cl off wait k key fld n txt, .int .i64 b] w fun e w' => e = .returned (.bool true) ∧ Below w.heap.size w w' := by
  have hI := fun W => item_any cl off wait k key fld n txt 3 3 W bc bo bk bkey bf bn bt (by omega) (by omega)
  have hF := itemFor_fault cl off k key fld n txt 3 3
  generalize itemFor cl off k key fld n txt 3 3 = x at hI hF
  obtain ⟨xt, xu, xp, xcl, xseq, ck, ckey, cfld, ctxt, cn⟩ := x
  have HI : Hid (∀ W, Calls Try.prog 34 #[deedV cl off wait k key fld n txt, .int .i64 3, .int .i64 3] W fun e w' => e = .returned (itemV xt xu xp xcl xseq ck ckey cfld ctxt cn) ∧ Below W.heap.size W w') := hI
  have hF' : itemFault xt xu xp xcl xseq ck ckey cfld ctxt cn = 0 := hF
  have hm := may _ _ _ _ _ _ _ _ _ _ hF'
  have hG := fun W => checkItem_any xt xu xp xcl xseq ck ckey cfld ctxt cn W
  rw [hF'] at hG
  have HG : Hid (∀ W, Calls Try.prog 27 #[itemV xt xu xp xcl xseq ck ckey cfld ctxt cn] W fun e w' => e = .returned (.int .i64 0) ∧ Below W.heap.size W w') := hG
  have hp := fun W => picked_any b 4 W bb.1 bb.2 (by omega) (by omega)
  have lq := pickedN_lt b (show 0 < 4 by omega)
  generalize pickedN b 4 = q at hp lq
  have HP : Hid (∀ W, Calls Try.prog 35 #[.int .i64 b, .int .i64 4] W fun e w' => e = .returned (.int .i64 (q : Nat)) ∧ W = w') := hp
  have D0 : Hid (Bad 0 xu xp xcl xseq ck ckey cfld ctxt cn 2) := bad_of (bad0 ..) (by decide)
  have D1 : Hid (Bad xt (-1) xp xcl xseq ck ckey cfld ctxt cn 2) := bad_of (bad1 ..) (by decide)
  have D2 : Hid (Bad xt 1073741825 xp xcl xseq ck ckey cfld ctxt cn 2) := bad_of (bad2 ..) (by decide)
  have D3 : Hid (Bad xt xu true 0 1 0 ⟨#[]⟩ ⟨#[]⟩ ⟨#[]⟩ 0 8) := bad_of (bad3 _ _ hm) (by decide)
  clear hI hF hF' hm hG hp bc bo bk bkey bf bn bt bb
  go_enter Try.func14, Try.ntmps14
  go_wp2_with fail
  refine (HI.out _).mono ?_
  rintro e w1 ⟨rfl, hb1⟩
  have hB1 := bstep (balloc _ _) hb1
  have s1 := hB1.size
  clear hb1
  go_wp2_with fail
  have n1 : (w1.alloc (itemO xt xu xp xcl xseq ck ckey cfld ctxt cn)).heap[w1.heap.size]? = some (itemO xt xu xp xcl xseq ck ckey cfld ctxt cn) := by show ((_ : Array Obj).push _)[_]? = _; simp
  have hB2 := hB1.alloc s1 (itemO xt xu xp xcl xseq ck ckey cfld ctxt cn)
  have hz : (w1.alloc (itemO xt xu xp xcl xseq ck ckey cfld ctxt cn)).heap.size = w1.heap.size + 1 := by simp
  generalize w1.alloc (itemO xt xu xp xcl xseq ck ckey cfld ctxt cn) = V at n1 hB2 hz ⊢
  refine (HG.out _).mono ?_
  rintro e w2 ⟨rfl, hb2⟩
  have hB3 := bstep hB2 hb2
  have n2 := (hb2.block w1.heap.size (by omega)).trans n1
  have hl : w1.heap.size < w2.heap.size := Nat.lt_of_lt_of_le (by omega) hb2.size
  clear n1 hb2 hB1 hB2 hz
  generalize w1.heap.size = b1 at n2 hl s1 ⊢
  go_wp2_with fail
  refine (HP.out _).mono ?_
  rintro e w3 ⟨rfl, rfl⟩
  obtain ⟨c2, f2⟩ := cells_at n2
  have hq : q = 0 ∨ q = 1 ∨ q = 2 ∨ q = 3 := by omega
  rcases hq with rfl | rfl | rfl | rfl
  · have D := D0.out
    go_wp2_with fail
    refine (D.2 _).mono ?_
    rintro e w4 ⟨rfl, hb4⟩
    obtain ⟨d1, d2⟩ := same_block (hb4.block b1 (by simp; omega))
    have hB4 : Below w.heap.size w w4 := by
      refine bstep ?_ hb4
      iterate 1 refine Below.setCell ?_ s1 _
      exact hB3
    clear hb4
    go_wp2_with fail
    refine (D.1 _).mono ?_
    rintro e w5 ⟨rfl, hb5⟩
    go_wp2_with fail
    go_ret
    exact ⟨rfl, bstep hB4 hb5⟩
  · have D := D1.out
    go_wp2_with fail
    refine (D.2 _).mono ?_
    rintro e w4 ⟨rfl, hb4⟩
    obtain ⟨d1, d2⟩ := same_block (hb4.block b1 (by simp; omega))
    have hB4 : Below w.heap.size w w4 := by
      refine bstep ?_ hb4
      iterate 1 refine Below.setCell ?_ s1 _
      exact hB3
    clear hb4
    go_wp2_with fail
    refine (D.1 _).mono ?_
    rintro e w5 ⟨rfl, hb5⟩
    go_wp2_with fail
    go_ret
    exact ⟨rfl, bstep hB4 hb5⟩
  · have D := D2.out
    go_wp2_with fail
    refine (D.2 _).mono ?_
    rintro e w4 ⟨rfl, hb4⟩
    obtain ⟨d1, d2⟩ := same_block (hb4.block b1 (by simp; omega))
    have hB4 : Below w.heap.size w w4 := by
      refine bstep ?_ hb4
      iterate 1 refine Below.setCell ?_ s1 _
      exact hB3
    clear hb4
    go_wp2_with fail
    refine (D.1 _).mono ?_
    rintro e w5 ⟨rfl, hb5⟩
    go_wp2_with fail
    go_ret
    exact ⟨rfl, bstep hB4 hb5⟩
  · have D := D3.out
    go_wp2_with fail
    refine (D.2 _).mono ?_
    rintro e w4 ⟨rfl, hb4⟩
    obtain ⟨d1, d2⟩ := same_block (hb4.block b1 (by simp; omega))
    have hB4 : Below w.heap.size w w4 := by
      refine bstep ?_ hb4
      iterate 8 refine Below.setCell ?_ s1 _
      exact hB3
    clear hb4
    go_wp2_with fail
    refine (D.1 _).mono ?_
    rintro e w5 ⟨rfl, hb5⟩
    go_wp2_with fail
    go_ret
    exact ⟨rfl, bstep hB4 hb5⟩

theorem walk (v0 v1 : Value) (w : World) (h0 : IsDeed v0) (h1 : IsInt v1) :
    Calls Try.prog 14 #[v0, v1] w fun e w' => e = .returned (.bool true) ∧ Below w.heap.size w w' := by
  obtain ⟨cl, off, wait, k, key, fld, n, txt, rfl, b1, b2, b3, b4, b5, b6, b7⟩ := h0
  obtain ⟨b, rfl, c1, c2⟩ := h1
  exact walk0 cl off wait k key fld n txt b w b1 b2 b3 b4 b5 b6 b7 ⟨c1, c2⟩

theorem own : ownKnob Try.prog.godebug = none := by kernel_rfl
theorem laidOut : laidOutB Try.prog = true := by kernel_rfl

set_option maxRecDepth 100000 in
theorem lifted (os : Os) (started : os.Started) (H : Type) (enc : TypeId × Value → H) :
    ReturnsInHanded {} Try.checked os 14 .any (Rows.itemBadSpec.pre6 enc Try.prog Try.f14 Rows.itemBadRow.domain false) (Rows.itemBadSpec.post enc Try.prog Try.f14 false true false false) := by
  refine returnsInHanded_of_change (C := Try.checked) own started (by kernel_rfl) Try.func14
    (ChangeSpec.witness6 (enc := enc) (C := Try.checked) false ⟨#[], #[.agg #[.int .i64 0, .int .i64 0, .int .i64 0, .int .i64 0, .int .i64 0, .int .i64 0, .int .i64 0, .string ByteArray.empty], .int .i64 0], []⟩ 8 (by kernel_rfl) (by kernel_rfl) (by kernel_rfl) (by kernel_rfl)) ?_
  intro W base args ds gs before hval0 hW hcnd _
  have hval : ∀ (j : Nat) t v, Try.f14.params[j]? = some t → args[j]? = some v → Value.okWide Try.prog W .any base t v := hval0
  have hW' := hW
  obtain ⟨p, q, hA0, hV, rfl, hfz, hnd⟩ := hW
  have hA : DataW.TrodAll enc Try.prog W 0 (fun _ => true) true Try.f14.params.toList args.toList ds p := hA0
  rw [Try.params14] at hA hval
  obtain ⟨v0, vs0, d0, ds0, p0, q0, hargs, rfl, rfl, h0, r0⟩ := trodAll_cons hA
  obtain ⟨v1, vs1, d1, ds1, p1, q1, rfl, rfl, rfl, h1, r1⟩ := trodAll_cons r0
  obtain ⟨rfl, rfl, rfl⟩ := trodAll_nil r1
  obtain rfl : args = #[v0, v1] := by cases args; simp_all
  obtain ⟨rfl, rfl⟩ := trodVars_none hV
  have lt0 : ∀ x ∈ p0, x.block < W.heap.size := by obtain ⟨m, hm⟩ := h0; exact DataW.trod_lt m _ _ _ hm
  have g0 := shape_deed (hval 0 66 v0 rfl rfl) h0
  have lt1 : ∀ x ∈ p1, x.block < W.heap.size := by obtain ⟨m, hm⟩ := h1; exact DataW.trod_lt m _ _ _ hm
  have g1 := shape_int (hval 1 3 v1 rfl rfl) h1
  clear hA0 hval0
  refine (walk v0 v1 W g0 g1).mono fun e W' ⟨he, bel⟩ => ?_
  subst he
  exact ⟨_, rfl, _, _, _, [], _, [], hW', trodAll_mk1 (shut_bool Try.underlying4 _), (trodAll_cons_mk (Below.trod laidOut (by kernel_rfl) (of_decide_eq_true (by kernel_rfl)) h0 bel lt0) (trodAll_cons_mk (Below.trod laidOut (by kernel_rfl) (of_decide_eq_true (by kernel_rfl)) h1 bel lt1) trodAll_mk0)), rfl, bel.frame _, fun h => by cases h⟩

theorem over : Rows.itemBadRow.holds Try.pinned (OpenSpec.ofChange Rows.itemBadSpec) :=
  OpenClaim.holds_of_wide 14 Try.f14 rfl rfl rfl rfl rfl rfl rfl ⟨rfl, rfl, rfl, rfl, rfl⟩ rfl rfl rfl rfl rfl (by kernel_rfl) Try.func14 (by kernel_rfl)
    (of_decide_eq_true (by kernel_rfl)) (by unfold Func.isWrapper; first | (rw [if_pos (by decide +kernel)]; kernel_rfl) | (rw [if_neg (by decide +kernel)]; exact ⟨rfl, rfl⟩))
    (fun os started H enc _ => lifted os started H enc)

end Go.Proofs.Ytakmcnidpiifnaa.itemBadDone
namespace Go.Proofs.Ytakmcnidpiifnaa
theorem ItemBad_holds : Rows.ItemBadSaid := itemBadDone.over
end Go.Proofs.Ytakmcnidpiifnaa
