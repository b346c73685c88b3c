/- Each place of a log of raw numbers has its item's term, the base its own; below the base, and beyond all numbers, there is none: for all raw numbers and every base the law returns true. No condition. -/
import Derived.Test.YtdpjganbielnkaaHc
import Derived.Test.YtdpjganbielnkaaGb
import Derived.Test.YtdpjganbielnkaaOj
namespace Go.Proofs.Ytdpjganbielnkaa.termToldDone
open Go.ChangeShapes Go.WideShapes Go.ChangeAt Go.RowKit
open Go.Proofs.Ytdpjganbielnkaa
set_option linter.unusedVariables false
set_option maxRecDepth 100000

theorem at_item {g : Lg} (hk : g.okB = true) (m : Nat) (hm : m < g.items.length) : g.termR (g.base + 1 + m) = (g.items[m].t, 0) := by
  have hle := okB_le hk
  have h0 : g.last = g.base + g.items.length := rfl
  have : placeI g.base g.last (g.base + 1 + m) = 0 := by unfold placeI heldI; rw [if_neg (by omega), if_neg (by omega), if_neg (by omega)]
  have e : g.termAt (g.base + 1 + m) = g.items[m].t := by
    unfold Lg.termAt
    rw [if_neg (by omega), show (g.base + 1 + (m : Int) - g.base - 1).toNat = m by omega]
    simp [hm]
  simp [Lg.termR, hk, this, e]
theorem at_base {g : Lg} (hk : g.okB = true) : g.termR g.base = (g.term, 0) := by
  have hle := okB_le hk
  have h0 : g.last = g.base + g.items.length := rfl
  have : placeI g.base g.last g.base = 0 := by unfold placeI heldI; rw [if_neg (by omega), if_neg (by omega), if_neg (by omega)]
  simp [Lg.termR, hk, this, termAt_base]
theorem below_base {g : Lg} (hk : g.okB = true) : g.termR (g.base - 1) = (0, if g.base = 0 then 2 else 11) := by
  have hle := okB_le hk
  have h0 : g.last = g.base + g.items.length := rfl
  by_cases hb : g.base = 0
  · have : placeI g.base g.last (g.base - 1) = 2 := by unfold placeI; rw [if_pos (by omega)]
    unfold Lg.termR
    rw [if_pos hk, if_neg (by rw [this]; omega), this, if_pos hb]
  · have : placeI g.base g.last (g.base - 1) = 11 := by unfold placeI heldI; rw [if_neg (by omega), if_pos (by omega)]
    simp [Lg.termR, hk, this, hb]
theorem beyond {g : Lg} (hk : g.okB = true) : g.termR 1048577 = (0, 2) := by
  have : placeI g.base g.last 1048577 = 2 := by unfold placeI; rw [if_pos (by omega)]
  simp [Lg.termR, hk, this]

set_option maxHeartbeats 8000000 in
theorem walk0 (s : Value) (l : List Deed) (base : Int) (w : World) (hd : DeedsAt w s l) (b1 : -9223372036854775808 ≤ base) (b2 : base ≤ 9223372036854775807) :
    Calls Try.prog 11 #[s, .int .i64 base] w fun e w' => e = .returned (.bool true) ∧ Below w.heap.size w w' := by
  have hG := log_any s l base w hd b1 b2
  have hk := logFor_ok l base
  have hs := logFor_small l base
  generalize logFor l base = g at *
  have HG : Hid (Calls Try.prog 41 #[s, .int .i64 base] w fun e w' => ∃ r, e = .returned (logV g.base g.term r) ∧ OwnI w.heap.size w' r g.items ∧ Below w.heap.size w w') := hG
  clear hG
  have hI := fun (m : Nat) (hm : m < g.items.length) (W : World) (r : Value) (h : RowAt 10 encIt W r g.items) => (at_item hk m hm ▸ term_any g r (g.base + 1 + m) W h : Calls Try.prog 28 #[logV g.base g.term r, .int .i64 (g.base + 1 + m)] W fun e w' => e = .returned (.tuple #[.int .i64 (g.items[m].t, (0 : Int)).1, .int .i64 (g.items[m].t, (0 : Int)).2]) ∧ Below W.heap.size W w')
  have hB := fun (W : World) (r : Value) (h : RowAt 10 encIt W r g.items) => term_any g r g.base W h
  have hD := fun (W : World) (r : Value) (h : RowAt 10 encIt W r g.items) => term_any g r (g.base - 1) W h
  have hX := fun (W : World) (r : Value) (h : RowAt 10 encIt W r g.items) => term_any g r 1048577 W h
  rw [at_base hk] at hB
  rw [below_base hk] at hD
  rw [beyond hk] at hX
  clear hk hd
  obtain ⟨b, t, A⟩ := g
  simp only at *
  have HI : Hid (∀ (m : Nat) (hm : m < A.length) (W : World) (r : Value), RowAt 10 encIt W r A → Calls Try.prog 28 #[logV b t r, .int .i64 (b + 1 + m)] W fun e w' => e = .returned (.tuple #[.int .i64 A[m].t, .int .i64 0]) ∧ Below W.heap.size W w') := hI
  have HB : Hid (∀ (W : World) (r : Value), RowAt 10 encIt W r A → Calls Try.prog 28 #[logV b t r, .int .i64 b] W fun e w' => e = .returned (.tuple #[.int .i64 t, .int .i64 0]) ∧ Below W.heap.size W w') := hB
  have HD : Hid (∀ (W : World) (r : Value), RowAt 10 encIt W r A → Calls Try.prog 28 #[logV b t r, .int .i64 (b - 1)] W fun e w' => e = .returned (.tuple #[.int .i64 0, .int .i64 (if b = 0 then 2 else 11)]) ∧ Below W.heap.size W w') := hD
  have HX : Hid (∀ (W : World) (r : Value), RowAt 10 encIt W r A → Calls Try.prog 28 #[logV b t r, .int .i64 1048577] W fun e w' => e = .returned (.tuple #[.int .i64 0, .int .i64 2]) ∧ Below W.heap.size W w') := hX
  clear hI hB hD hX
  have hA : A.length ≤ 30 := hs.1
  have hb0 : 0 ≤ b := hs.2.1
  have hb9 : b ≤ 11 := hs.2.2
  clear hs
  go_enter Try.func11, Try.ntmps11
  go_wp2_with fail
  refine HG.out.mono ?_
  rintro e w1 ⟨r, rfl, hown, hb1⟩
  clear HG
  have hrow := hown.row (by omega)
  obtain ⟨sa, sc, rfl⟩ := hown.shape
  clear hown
  go_wp2_with fail
  have n1 := alloc_at w1 (logO b t (.slice sa A.length sc))
  have hB1 := hb1.alloc hb1.size (logO b t (.slice sa A.length sc))
  have hrow1 := hrow.below (balloc w1 (logO b t (.slice sa A.length sc)))
  clear hrow hb1
  generalize w1.alloc (logO b t (.slice sa A.length sc)) = V at n1 hB1 hrow1 ⊢
  generalize w1.heap.size = bk at n1 ⊢
  go_loopw [6] (fun c wr => ∃ m : Nat, c = .int .i64 (m : Int) ∧ m ≤ A.length ∧ Below w.heap.size w wr ∧ wr.heap[bk]? = some (logO b t (.slice sa A.length sc)) ∧ RowAt 10 encIt wr (.slice sa A.length sc) A) (fun c _ => A.length - (intOf c).toNat)
  case atStart => exact ⟨0, by simp, by omega, hB1, n1, hrow1⟩
  case round =>
    obtain ⟨m, rfl, hm, hb, n, hrow⟩ := hrel
    clear n1 hB1 hrow1
    obtain ⟨c2, f2⟩ := cellsB n
    by_cases hlt : m < A.length
    · have hi0 : (m : Int) < (A.length : Int) := by omega
      go_wp2_with fail
      refine (HI.out m hlt _ _ hrow).mono ?_
      rintro e w2 ⟨rfl, hb2⟩
      have n2 := (hb2.block bk (lt_at n)).trans n
      have hB2 := bstep hb hb2
      have hrow2 := hrow.below hb2
      have hrow3 := hrow2
      clear hb hb2 hrow n HI HB HD HX c2 f2
      obtain ⟨c3, f3⟩ := cellsB n2
      obtain ⟨-, a', cap', hs, k1, k2, k3⟩ := hrow2
      simp only [Value.slice.injEq, true_and] at hs
      obtain ⟨rfl, rfl⟩ := hs
      rcases k3 with ⟨-, rfl, -⟩ | ⟨bb, off, rfl, hbk, hc⟩
      · simp at hlt
      · obtain ⟨c0, -⟩ := RowAt.ten hc m hlt
        clear hc
        go_wp2_with fail
        exact ⟨⟨m + 1, by go_num, by omega, hB2, n2, hrow3⟩, by simp [intOf]; omega⟩
    · have hi0 : ¬ (m : Int) < (A.length : Int) := by omega
      go_wp2_with fail
      refine (HB.out _ _ hrow).mono ?_
      rintro e w2 ⟨rfl, hb2⟩
      have n2 := (hb2.block bk (lt_at n)).trans n
      have hB2 := bstep hb hb2
      have hrow2 := hrow.below hb2
      clear hb hb2 hrow n HI HB c2 f2
      obtain ⟨c2, f2⟩ := cellsB n2
      go_wp2_with fail
      refine (HD.out _ _ hrow2).mono ?_
      rintro e w3 ⟨rfl, hb3⟩
      have n3 := (hb3.block bk (lt_at n2)).trans n2
      have hB3 := bstep hB2 hb3
      have hrow3 := hrow2.below hb3
      clear hB2 hb3 hrow2 n2 HD c2 f2
      obtain ⟨c3, f3⟩ := cellsB n3
      by_cases hz : b = 0
      · subst hz
        simp only [if_true]
        go_wp2_with fail
        refine (HX.out _ _ hrow3).mono ?_
        rintro e w4 ⟨rfl, hb4⟩
        have n4 := (hb4.block bk (lt_at n3)).trans n3
        have hB4 := bstep hB3 hb4
        clear hB3 hb4 hrow3 n3 HX c3 f3
        obtain ⟨c4, f4⟩ := cellsB n4
        go_wp2_with fail
        go_ret
        exact ⟨rfl, hB4⟩
      · simp only [hz, if_false]
        have hz' : (b == 0) = false := by simpa using hz
        go_wp2_with fail
        refine (HX.out _ _ hrow3).mono ?_
        rintro e w4 ⟨rfl, hb4⟩
        have n4 := (hb4.block bk (lt_at n3)).trans n3
        have hB4 := bstep hB3 hb4
        clear hB3 hb4 hrow3 n3 HX c3 f3
        obtain ⟨c4, f4⟩ := cellsB n4
        go_wp2_with fail
        go_ret
        exact ⟨rfl, hB4⟩

theorem walk (v0 v1 : Value) (w : World) (h0 : IsDeeds w v0) (h1 : IsInt v1) :
    Calls Try.prog 11 #[v0, v1] w fun e w' => e = .returned (.bool true) ∧ Below w.heap.size w w' := by
  obtain ⟨l, hd⟩ := h0
  obtain ⟨b, rfl, c1, c2⟩ := h1
  exact walk0 v0 l b w hd c1 c2

theorem own : ownKnob Try.prog.godebug = none := by kernel_rfl
theorem laidOut : laidOutB Try.prog = true := by kernel_rfl

set_option maxRecDepth 100000 in
theorem lifted (os : Os) (started : os.Started) (H : Type) (enc : TypeId × Value → H) :
    ReturnsInHanded {} Try.checked os 11 .any (Rows.termToldSpec.pre6 enc Try.prog Try.f11 Rows.termToldRow.domain false) (Rows.termToldSpec.post enc Try.prog Try.f11 false true false false) := by
  refine returnsInHanded_of_change (C := Try.checked) own started (by kernel_rfl) Try.func11
    (ChangeSpec.witness6 (enc := enc) (C := Try.checked) false ⟨#[], #[.slice none 0 0, .int .i64 0], []⟩ 8 (by kernel_rfl) (by kernel_rfl) (by kernel_rfl) (by kernel_rfl)) ?_
  intro W base args ds gs before hval0 hW hcnd _
  have hval : ∀ (j : Nat) t v, Try.f11.params[j]? = some t → args[j]? = some v → Value.okWide Try.prog W .any base t v := hval0
  have hW' := hW
  obtain ⟨p, q, hA0, hV, rfl, hfz, hnd⟩ := hW
  have hA : DataW.TrodAll enc Try.prog W 0 (fun _ => true) true Try.f11.params.toList args.toList ds p := hA0
  rw [Try.params11] at hA hval
  obtain ⟨v0, vs0, d0, ds0, p0, q0, hargs, rfl, rfl, h0, r0⟩ := trodAll_cons hA
  obtain ⟨v1, vs1, d1, ds1, p1, q1, rfl, rfl, rfl, h1, r1⟩ := trodAll_cons r0
  obtain ⟨rfl, rfl, rfl⟩ := trodAll_nil r1
  obtain rfl : args = #[v0, v1] := by cases args; simp_all
  obtain ⟨rfl, rfl⟩ := trodVars_none hV
  have lt0 : ∀ x ∈ p0, x.block < W.heap.size := by obtain ⟨m, hm⟩ := h0; exact DataW.trod_lt m _ _ _ hm
  have g0 := shape_deeds (hval 0 47 v0 rfl rfl) h0
  have lt1 : ∀ x ∈ p1, x.block < W.heap.size := by obtain ⟨m, hm⟩ := h1; exact DataW.trod_lt m _ _ _ hm
  have g1 := shape_int (hval 1 3 v1 rfl rfl) h1
  clear hA0 hval0
  refine (walk v0 v1 W g0 g1).mono fun e W' ⟨he, bel⟩ => ?_
  subst he
  exact ⟨_, rfl, _, _, _, [], _, [], hW', trodAll_mk1 (shut_bool Try.underlying4 _), (trodAll_cons_mk (Below.trod laidOut (by kernel_rfl) (of_decide_eq_true (by kernel_rfl)) h0 bel lt0) (trodAll_cons_mk (Below.trod laidOut (by kernel_rfl) (of_decide_eq_true (by kernel_rfl)) h1 bel lt1) trodAll_mk0)), rfl, bel.frame _, fun h => by cases h⟩

theorem over : Rows.termToldRow.holds Try.pinned (OpenSpec.ofChange Rows.termToldSpec) :=
  OpenClaim.holds_of_wide 11 Try.f11 rfl rfl rfl rfl rfl rfl rfl ⟨rfl, rfl, rfl, rfl, rfl⟩ rfl rfl rfl rfl rfl (by kernel_rfl) Try.func11 (by kernel_rfl)
    (of_decide_eq_true (by kernel_rfl)) (by unfold Func.isWrapper; first | (rw [if_pos (by decide +kernel)]; kernel_rfl) | (rw [if_neg (by decide +kernel)]; exact ⟨rfl, rfl⟩))
    (fun os started H enc _ => lifted os started H enc)

end Go.Proofs.Ytdpjganbielnkaa.termToldDone
namespace Go.Proofs.Ytdpjganbielnkaa
theorem TermTold_holds : Rows.TermToldSaid := termToldDone.over
end Go.Proofs.Ytdpjganbielnkaa
