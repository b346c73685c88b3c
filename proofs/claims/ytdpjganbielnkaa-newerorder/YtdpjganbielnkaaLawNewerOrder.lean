/- Of the last places of two logs of raw numbers one is no lower than the other; the higher term comes first, then the later place: for all raw numbers and every two bases the law returns true. No condition. -/
import Derived.Test.YtdpjganbielnkaaHc
import Derived.Test.YtdpjganbielnkaaGb
import Derived.Test.YtdpjganbielnkaaOj
namespace Go.Proofs.Ytdpjganbielnkaa.newerOrderDone
open Go.ChangeShapes Go.WideShapes Go.ChangeAt Go.RowKit
open Go.Proofs.Ytdpjganbielnkaa
set_option linter.unusedVariables false
set_option maxRecDepth 100000

set_option maxHeartbeats 8000000 in
theorem walk0 (s s' : Value) (l l' : List Deed) (a a' : Int) (w : World) (hd : DeedsAt w s l) (hd' : DeedsAt w s' l') (b1 : -9223372036854775808 ≤ a) (b2 : a ≤ 9223372036854775807) (b3 : -9223372036854775808 ≤ a') (b4 : a' ≤ 9223372036854775807) :
    Calls Try.prog 13 #[s, s', .int .i64 a, .int .i64 a'] w fun e w' => e = .returned (.bool true) ∧ Below w.heap.size w w' := by
  have hG := log_any s l a w hd b1 b2
  have hG' := fun W (hW : Below w.heap.size w W) => log_any s' l' a' W (hd'.below hW) b3 b4
  have hk := logFor_ok l a
  have hs := logFor_small l a
  have hk' := logFor_ok l' a'
  have hs' := logFor_small l' a'
  generalize logFor l a = g at *
  generalize logFor l' a' = g' at *
  have HG : Hid (Calls Try.prog 41 #[s, .int .i64 a] w fun e w' => ∃ r, e = .returned (logV g.base g.term r) ∧ OwnI w.heap.size w' r g.items ∧ Below w.heap.size w w') := hG
  have HG' : Hid (∀ W, Below w.heap.size w W → Calls Try.prog 41 #[s', .int .i64 a'] W fun e w' => ∃ r, e = .returned (logV g'.base g'.term r) ∧ OwnI W.heap.size w' r g'.items ∧ Below W.heap.size W w') := hG'
  clear hG hG'
  have hL := fun (W : World) (r : Value) (h : RowAt 10 encIt W r g.items) => last_ok g r W h hk
  have hL' := fun (W : World) (r : Value) (h : RowAt 10 encIt W r g'.items) => last_ok g' r W h hk'
  have hN := fun (W : World) (r : Value) (h : RowAt 10 encIt W r g.items) => newer_any g r g'.last (g'.termAt g'.last) W h
  have hN' := fun (W : World) (r : Value) (h : RowAt 10 encIt W r g'.items) => newer_any g' r g.last (g.termAt g.last) W h
  rw [show g.newR g'.last (g'.termAt g'.last) = (newB g.last (g.termAt g.last) g'.last (g'.termAt g'.last), 0) by simp [Lg.newR, hk]] at hN
  rw [show g'.newR g.last (g.termAt g.last) = (newB g'.last (g'.termAt g'.last) g.last (g.termAt g.last), 0) by simp [Lg.newR, hk']] at hN'
  generalize g.termAt g.last = T at *
  generalize g.last = L at *
  generalize g'.termAt g'.last = T' at *
  generalize g'.last = L' at *
  obtain ⟨b, t, A⟩ := g
  obtain ⟨b', t', A'⟩ := g'
  simp only at *
  have HL : Hid (∀ (W : World) (r : Value), RowAt 10 encIt W r A → Calls Try.prog 26 #[logV b t r] W fun e w' => e = .returned (.tuple #[.int .i64 L, .int .i64 T, .int .i64 0]) ∧ Below W.heap.size W w') := hL
  have HL' : Hid (∀ (W : World) (r : Value), RowAt 10 encIt W r A' → Calls Try.prog 26 #[logV b' t' r] W fun e w' => e = .returned (.tuple #[.int .i64 L', .int .i64 T', .int .i64 0]) ∧ Below W.heap.size W w') := hL'
  have hor : newB L T L' T' = true ∨ newB L' T' L T = true := by
    unfold newB; simp; omega
  have hsm : newB L T L' T' = (decide (T < T') || (T' == T && decide (L ≤ L'))) := by unfold newB; congr
  generalize newB L T L' T' = p at *
  generalize newB L' T' L T = q at *
  have HN : Hid (∀ (W : World) (r : Value), RowAt 10 encIt W r A → Calls Try.prog 33 #[logV b t r, .int .i64 L', .int .i64 T'] W fun e w' => e = .returned (.tuple #[.bool p, .int .i64 0]) ∧ Below W.heap.size W w') := hN
  have HN' : Hid (∀ (W : World) (r : Value), RowAt 10 encIt W r A' → Calls Try.prog 33 #[logV b' t' r, .int .i64 L, .int .i64 T] W fun e w' => e = .returned (.tuple #[.bool q, .int .i64 0]) ∧ Below W.heap.size W w') := hN'
  have HO : Hid (p = true ∨ q = true) := hor
  have HS : Hid (p = (decide (T < T') || (T' == T && decide (L ≤ L')))) := hsm
  clear hL hL' hN hN' hor hsm hk hk' hd hd'
  have hA : A.length ≤ 30 := hs.1
  have hA' : A'.length ≤ 30 := hs'.1
  clear hs hs'
  go_enter Try.func13, Try.ntmps13
  go_wp2_with fail
  refine HG.out.mono ?_
  rintro e w1 ⟨r, rfl, hown, hb1⟩
  clear HG
  have hrow := hown.row (by omega)
  obtain ⟨sa, sc, rfl⟩ := hown.shape
  clear hown
  go_wp2_with fail
  have n1 := alloc_at w1 (logO b t (.slice sa A.length sc))
  have hB1 := hb1.alloc hb1.size (logO b t (.slice sa A.length sc))
  have hrow1 := hrow.below (balloc w1 (logO b t (.slice sa A.length sc)))
  clear hrow hb1
  generalize w1.alloc (logO b t (.slice sa A.length sc)) = V at n1 hB1 hrow1 ⊢
  generalize w1.heap.size = bk at n1 ⊢
  refine (HG'.out _ hB1).mono ?_
  rintro e w2 ⟨r', rfl, hown', hb2⟩
  clear HG'
  have hrow' := hown'.row (by omega)
  obtain ⟨sa', sc', rfl⟩ := hown'.shape
  clear hown'
  have n2 := (hb2.block bk (lt_at n1)).trans n1
  have hB2 := bstep hB1 hb2
  have hrow2 := hrow1.below hb2
  clear hB1 hb2 hrow1 n1
  have hzk := lt_at n2
  obtain ⟨c2, f2⟩ := cellsB n2
  go_wp2_with fail
  have m3 := alloc_at w2 (logO b' t' (.slice sa' A'.length sc'))
  have n3 := ((balloc w2 (logO b' t' (.slice sa' A'.length sc'))).block bk (lt_at n2)).trans n2
  have hB3 := hB2.alloc hB2.size (logO b' t' (.slice sa' A'.length sc'))
  have hrow3 := hrow2.below (balloc w2 (logO b' t' (.slice sa' A'.length sc')))
  have hrow3' := hrow'.below (balloc w2 (logO b' t' (.slice sa' A'.length sc')))
  clear hrow2 hrow' hB2 n2 hzk c2 f2
  generalize w2.alloc (logO b' t' (.slice sa' A'.length sc')) = U at m3 n3 hB3 hrow3 hrow3' ⊢
  generalize w2.heap.size = bm at m3 ⊢
  refine (HL.out _ _ hrow3).mono ?_
  rintro e w4 ⟨rfl, hb4⟩
  have n4 := (hb4.block bk (lt_at n3)).trans n3
  have m4 := (hb4.block bm (lt_at m3)).trans m3
  have hB4 := bstep hB3 hb4
  have hrow4 := hrow3.below hb4
  have hrow4' := hrow3'.below hb4
  clear hB3 hb4 hrow3 hrow3' n3 m3 HL
  obtain ⟨c4, f4⟩ := cellsB n4
  obtain ⟨d4, g4⟩ := cellsB m4
  go_wp2_with fail
  refine (HL'.out _ _ hrow4').mono ?_
  rintro e w5 ⟨rfl, hb5⟩
  have n5 := (hb5.block bk (lt_at n4)).trans n4
  have m5 := (hb5.block bm (lt_at m4)).trans m4
  have hB5 := bstep hB4 hb5
  have hrow5 := hrow4.below hb5
  have hrow5' := hrow4'.below hb5
  clear hB4 hb5 hrow4 hrow4' n4 m4 HL' c4 f4 d4 g4
  obtain ⟨c5, f5⟩ := cellsB n5
  obtain ⟨d5, g5⟩ := cellsB m5
  go_wp2_with fail
  refine (HN.out _ _ hrow5).mono ?_
  rintro e w6 ⟨rfl, hb6⟩
  have n6 := (hb6.block bk (lt_at n5)).trans n5
  have m6 := (hb6.block bm (lt_at m5)).trans m5
  have hB6 := bstep hB5 hb6
  have hrow6 := hrow5.below hb6
  have hrow6' := hrow5'.below hb6
  clear hB5 hb6 hrow5 hrow5' n5 m5 HN c5 f5 d5 g5
  obtain ⟨c6, f6⟩ := cellsB n6
  obtain ⟨d6, g6⟩ := cellsB m6
  go_wp2_with fail
  refine (HN'.out _ _ hrow6').mono ?_
  rintro e w7 ⟨rfl, hb7⟩
  have n7 := (hb7.block bk (lt_at n6)).trans n6
  have m7 := (hb7.block bm (lt_at m6)).trans m6
  have hB7 := bstep hB6 hb7
  have hrow7 := hrow6.below hb7
  have hrow7' := hrow6'.below hb7
  clear hB6 hb7 hrow6 hrow6' n6 m6 HN' c6 f6 d6 g6
  have hS := HS.out
  have hne : (p = true ∧ q = true) ∨ (p = true ∧ q = false) ∨ (p = false ∧ q = true) := by
    rcases HO.out with h | h <;> cases p <;> cases q <;> simp_all
  have HP : Hid ((decide (T < T') || (T' == T && decide (L ≤ L'))) = p) := hS.symm
  clear hS HS HO
  by_cases x1 : T < T'
  · have : p = true := by rw [← HP.out]; simp [x1]
    subst this
    clear HP
    rcases hne with ⟨-, rfl⟩ | ⟨-, rfl⟩ | ⟨h, -⟩
    · go_wp2_with fail
      go_ret
      exact ⟨rfl, hB7⟩
    · go_wp2_with fail
      go_ret
      exact ⟨rfl, hB7⟩
    · cases h
  · by_cases x2 : T' = T
    · subst x2
      by_cases x3 : L ≤ L'
      · have : p = true := by rw [← HP.out]; simp [x3]
        subst this
        clear HP
        rcases hne with ⟨-, rfl⟩ | ⟨-, rfl⟩ | ⟨h, -⟩
        · go_wp2_with fail
          go_ret
          exact ⟨rfl, hB7⟩
        · go_wp2_with fail
          go_ret
          exact ⟨rfl, hB7⟩
        · cases h
      · have : p = false := by rw [← HP.out]; simp; omega
        subst this
        clear HP
        rcases hne with ⟨h, -⟩ | ⟨h, -⟩ | ⟨-, rfl⟩
        · cases h
        · cases h
        · go_wp2_with fail
          go_ret
          exact ⟨ret_bool (by simp; omega), hB7⟩
    · have x4 : (T' == T) = false := by simpa using x2
      have : p = false := by rw [← HP.out]; simp [x4]; omega
      subst this
      clear HP
      rcases hne with ⟨h, -⟩ | ⟨h, -⟩ | ⟨-, rfl⟩
      · cases h
      · cases h
      · go_wp2_with fail
        go_ret
        exact ⟨ret_bool (by simp; omega), hB7⟩

theorem walk (v0 v1 v2 v3 : Value) (w : World) (h0 : IsDeeds w v0) (h1 : IsDeeds w v1) (h2 : IsInt v2) (h3 : IsInt v3) :
    Calls Try.prog 13 #[v0, v1, v2, v3] w fun e w' => e = .returned (.bool true) ∧ Below w.heap.size w w' := by
  obtain ⟨l, hd⟩ := h0
  obtain ⟨l', hd'⟩ := h1
  obtain ⟨b, rfl, c1, c2⟩ := h2
  obtain ⟨b', rfl, c3, c4⟩ := h3
  exact walk0 v0 v1 l l' b b' w hd hd' c1 c2 c3 c4

theorem own : ownKnob Try.prog.godebug = none := by kernel_rfl
theorem laidOut : laidOutB Try.prog = true := by kernel_rfl

set_option maxRecDepth 100000 in
theorem lifted (os : Os) (started : os.Started) (H : Type) (enc : TypeId × Value → H) :
    ReturnsInHanded {} Try.checked os 13 .any (Rows.newerOrderSpec.pre6 enc Try.prog Try.f13 Rows.newerOrderRow.domain false) (Rows.newerOrderSpec.post enc Try.prog Try.f13 false true false false) := by
  refine returnsInHanded_of_change (C := Try.checked) own started (by kernel_rfl) Try.func13
    (ChangeSpec.witness6 (enc := enc) (C := Try.checked) false ⟨#[], #[.slice none 0 0, .slice none 0 0, .int .i64 0, .int .i64 0], []⟩ 8 (by kernel_rfl) (by kernel_rfl) (by kernel_rfl) (by kernel_rfl)) ?_
  intro W base args ds gs before hval0 hW hcnd _
  have hval : ∀ (j : Nat) t v, Try.f13.params[j]? = some t → args[j]? = some v → Value.okWide Try.prog W .any base t v := hval0
  have hW' := hW
  obtain ⟨p, q, hA0, hV, rfl, hfz, hnd⟩ := hW
  have hA : DataW.TrodAll enc Try.prog W 0 (fun _ => true) true Try.f13.params.toList args.toList ds p := hA0
  rw [Try.params13] at hA hval
  obtain ⟨v0, vs0, d0, ds0, p0, q0, hargs, rfl, rfl, h0, r0⟩ := trodAll_cons hA
  obtain ⟨v1, vs1, d1, ds1, p1, q1, rfl, rfl, rfl, h1, r1⟩ := trodAll_cons r0
  obtain ⟨v2, vs2, d2, ds2, p2, q2, rfl, rfl, rfl, h2, r2⟩ := trodAll_cons r1
  obtain ⟨v3, vs3, d3, ds3, p3, q3, rfl, rfl, rfl, h3, r3⟩ := trodAll_cons r2
  obtain ⟨rfl, rfl, rfl⟩ := trodAll_nil r3
  obtain rfl : args = #[v0, v1, v2, v3] := by cases args; simp_all
  obtain ⟨rfl, rfl⟩ := trodVars_none hV
  have lt0 : ∀ x ∈ p0, x.block < W.heap.size := by obtain ⟨m, hm⟩ := h0; exact DataW.trod_lt m _ _ _ hm
  have g0 := shape_deeds (hval 0 47 v0 rfl rfl) h0
  have lt1 : ∀ x ∈ p1, x.block < W.heap.size := by obtain ⟨m, hm⟩ := h1; exact DataW.trod_lt m _ _ _ hm
  have g1 := shape_deeds (hval 1 47 v1 rfl rfl) h1
  have lt2 : ∀ x ∈ p2, x.block < W.heap.size := by obtain ⟨m, hm⟩ := h2; exact DataW.trod_lt m _ _ _ hm
  have g2 := shape_int (hval 2 3 v2 rfl rfl) h2
  have lt3 : ∀ x ∈ p3, x.block < W.heap.size := by obtain ⟨m, hm⟩ := h3; exact DataW.trod_lt m _ _ _ hm
  have g3 := shape_int (hval 3 3 v3 rfl rfl) h3
  clear hA0 hval0
  refine (walk v0 v1 v2 v3 W g0 g1 g2 g3).mono fun e W' ⟨he, bel⟩ => ?_
  subst he
  exact ⟨_, rfl, _, _, _, [], _, [], hW', trodAll_mk1 (shut_bool Try.underlying4 _), (trodAll_cons_mk (Below.trod laidOut (by kernel_rfl) (of_decide_eq_true (by kernel_rfl)) h0 bel lt0) (trodAll_cons_mk (Below.trod laidOut (by kernel_rfl) (of_decide_eq_true (by kernel_rfl)) h1 bel lt1) (trodAll_cons_mk (Below.trod laidOut (by kernel_rfl) (of_decide_eq_true (by kernel_rfl)) h2 bel lt2) (trodAll_cons_mk (Below.trod laidOut (by kernel_rfl) (of_decide_eq_true (by kernel_rfl)) h3 bel lt3) trodAll_mk0)))), rfl, bel.frame _, fun h => by cases h⟩

theorem over : Rows.newerOrderRow.holds Try.pinned (OpenSpec.ofChange Rows.newerOrderSpec) :=
  OpenClaim.holds_of_wide 13 Try.f13 rfl rfl rfl rfl rfl rfl rfl ⟨rfl, rfl, rfl, rfl, rfl⟩ rfl rfl rfl rfl rfl (by kernel_rfl) Try.func13 (by kernel_rfl)
    (of_decide_eq_true (by kernel_rfl)) (by unfold Func.isWrapper; first | (rw [if_pos (by decide +kernel)]; kernel_rfl) | (rw [if_neg (by decide +kernel)]; exact ⟨rfl, rfl⟩))
    (fun os started H enc _ => lifted os started H enc)

end Go.Proofs.Ytdpjganbielnkaa.newerOrderDone
namespace Go.Proofs.Ytdpjganbielnkaa
theorem NewerOrder_holds : Rows.NewerOrderSaid := newerOrderDone.over
end Go.Proofs.Ytdpjganbielnkaa
