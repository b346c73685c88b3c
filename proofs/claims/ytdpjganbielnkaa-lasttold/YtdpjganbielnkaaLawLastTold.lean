/- The last place of a log of raw numbers is behind all its items and has its item's term; behind it there is none: for all raw numbers and every base the law returns true. No condition. -/
import Derived.Test.YtdpjganbielnkaaHc
import Derived.Test.YtdpjganbielnkaaGb
import Derived.Test.YtdpjganbielnkaaOj
namespace Go.Proofs.Ytdpjganbielnkaa.lastToldDone
open Go.ChangeShapes Go.WideShapes Go.ChangeAt Go.RowKit
open Go.Proofs.Ytdpjganbielnkaa
set_option linter.unusedVariables false
set_option maxRecDepth 100000

theorem at_last {g : Lg} (hk : g.okB = true) : g.termR g.last = (g.termAt g.last, 0) ∧ (g.termR (g.last + 1)).2 ≠ 0 := by
  have hle := okB_le hk
  have h0 : g.last = g.base + g.items.length := rfl
  constructor
  · have : placeI g.base g.last g.last = 0 := by unfold placeI heldI; rw [if_neg (by omega), if_neg (by omega), if_neg (by omega)]
    simp [Lg.termR, hk, this]
  · have : placeI g.base g.last (g.last + 1) ≠ 0 := by unfold placeI heldI; (repeat' split) <;> omega
    simp [Lg.termR, hk, this]
theorem behind_last {g : Lg} (hk : g.okB = true) (h : g.last < 1048576) : g.termR (g.last + 1) = (0, 5) := by
  have hle := okB_le hk
  have h0 : g.last = g.base + g.items.length := rfl
  have : placeI g.base g.last (g.last + 1) = 5 := by unfold placeI heldI; rw [if_neg (by omega), if_neg (by omega), if_pos (by omega)]
  simp [Lg.termR, hk, this]

set_option maxHeartbeats 8000000 in
theorem walk0 (s : Value) (l : List Deed) (base : Int) (w : World) (hd : DeedsAt w s l) (b1 : -9223372036854775808 ≤ base) (b2 : base ≤ 9223372036854775807) :
    Calls Try.prog 10 #[s, .int .i64 base] w fun e w' => e = .returned (.bool true) ∧ Below w.heap.size w w' := by
  have hG := log_any s l base w hd b1 b2
  have hk := logFor_ok l base
  have hs := logFor_small l base
  generalize logFor l base = g at *
  have HG : Hid (Calls Try.prog 41 #[s, .int .i64 base] w fun e w' => ∃ r, e = .returned (logV g.base g.term r) ∧ OwnI w.heap.size w' r g.items ∧ Below w.heap.size w w') := hG
  clear hG
  have hL : g.last = g.base + g.items.length := rfl
  have hC := fun (W : World) (r : Value) (h : RowAt 10 encIt W r g.items) => check_any g r W h
  have hLa := fun (W : World) (r : Value) (h : RowAt 10 encIt W r g.items) => last_ok g r W h hk
  have hT := fun (W : World) (r : Value) (h : RowAt 10 encIt W r g.items) => term_any g r g.last W h
  have hU := fun (W : World) (r : Value) (h : RowAt 10 encIt W r g.items) => term_any g r (g.last + 1) W h
  rw [fault_yes hk] at hC
  rw [(at_last hk).1] at hT
  rw [behind_last hk (by omega)] at hU
  clear hk hd
  generalize g.termAt g.last = T at *
  generalize g.last = L at *
  obtain ⟨b, t, A⟩ := g
  simp only at *
  have HC : Hid (∀ (W : World) (r : Value), RowAt 10 encIt W r A → Calls Try.prog 23 #[logV b t r] W fun e w' => e = .returned (.int .i64 0) ∧ Below W.heap.size W w') := hC
  have HL : Hid (∀ (W : World) (r : Value), RowAt 10 encIt W r A → Calls Try.prog 26 #[logV b t r] W fun e w' => e = .returned (.tuple #[.int .i64 L, .int .i64 T, .int .i64 0]) ∧ Below W.heap.size W w') := hLa
  have HT : Hid (∀ (W : World) (r : Value), RowAt 10 encIt W r A → Calls Try.prog 28 #[logV b t r, .int .i64 L] W fun e w' => e = .returned (.tuple #[.int .i64 T, .int .i64 0]) ∧ Below W.heap.size W w') := hT
  have HU : Hid (∀ (W : World) (r : Value), RowAt 10 encIt W r A → Calls Try.prog 28 #[logV b t r, .int .i64 (L + 1)] W fun e w' => e = .returned (.tuple #[.int .i64 0, .int .i64 5]) ∧ Below W.heap.size W w') := hU
  clear hC hLa hT hU
  have hA : A.length ≤ 30 := hs.1
  have HLe : Hid (L = b + A.length) := hL
  have hl1 : 0 ≤ L ∧ L ≤ 41 := by omega
  clear hL
  go_enter Try.func10, Try.ntmps10
  go_wp2_with fail
  refine HG.out.mono ?_
  rintro e w1 ⟨r, rfl, hown, hb1⟩
  clear HG
  have hrow := hown.row (by omega)
  obtain ⟨sa, sc, rfl⟩ := hown.shape
  clear hown
  go_wp2_with fail
  have n1 := alloc_at w1 (logO b t (.slice sa A.length sc))
  have hB1 := hb1.alloc hb1.size (logO b t (.slice sa A.length sc))
  have hrow1 := hrow.below (balloc w1 (logO b t (.slice sa A.length sc)))
  clear hrow hb1
  generalize w1.alloc (logO b t (.slice sa A.length sc)) = V at n1 hB1 hrow1 ⊢
  generalize w1.heap.size = bk at n1 ⊢
  refine (HL.out _ _ hrow1).mono ?_
  rintro e w2 ⟨rfl, hb2⟩
  have n2 := (hb2.block bk (lt_at n1)).trans n1
  have hB2 := bstep hB1 hb2
  have hrow2 := hrow1.below hb2
  clear hB1 hb2 hrow1 n1 HL
  obtain ⟨c2, f2⟩ := cellsB n2
  go_wp2_with fail
  refine (HT.out _ _ hrow2).mono ?_
  rintro e w3 ⟨rfl, hb3⟩
  have n3 := (hb3.block bk (lt_at n2)).trans n2
  have hB3 := bstep hB2 hb3
  have hrow3 := hrow2.below hb3
  clear hB2 hb3 hrow2 n2 HT c2 f2
  obtain ⟨c3, f3⟩ := cellsB n3
  go_wp2_with fail
  refine (HU.out _ _ hrow3).mono ?_
  rintro e w4 ⟨rfl, hb4⟩
  have n4 := (hb4.block bk (lt_at n3)).trans n3
  have hB4 := bstep hB3 hb4
  have hrow4 := hrow3.below hb4
  clear hB3 hb4 hrow3 n3 HU c3 f3
  obtain ⟨c4, f4⟩ := cellsB n4
  have hLe := HLe.out
  subst hLe
  go_wp2_with fail
  refine (HC.out _ _ hrow4).mono ?_
  rintro e w5 ⟨rfl, hb5⟩
  go_wp2_with fail
  go_ret
  exact ⟨rfl, bstep hB4 hb5⟩

theorem walk (v0 v1 : Value) (w : World) (h0 : IsDeeds w v0) (h1 : IsInt v1) :
    Calls Try.prog 10 #[v0, v1] w fun e w' => e = .returned (.bool true) ∧ Below w.heap.size w w' := by
  obtain ⟨l, hd⟩ := h0
  obtain ⟨b, rfl, c1, c2⟩ := h1
  exact walk0 v0 l b w hd c1 c2

theorem own : ownKnob Try.prog.godebug = none := by kernel_rfl
theorem laidOut : laidOutB Try.prog = true := by kernel_rfl

set_option maxRecDepth 100000 in
theorem lifted (os : Os) (started : os.Started) (H : Type) (enc : TypeId × Value → H) :
    ReturnsInHanded {} Try.checked os 10 .any (Rows.lastToldSpec.pre6 enc Try.prog Try.f10 Rows.lastToldRow.domain false) (Rows.lastToldSpec.post enc Try.prog Try.f10 false true false false) := by
  refine returnsInHanded_of_change (C := Try.checked) own started (by kernel_rfl) Try.func10
    (ChangeSpec.witness6 (enc := enc) (C := Try.checked) false ⟨#[], #[.slice none 0 0, .int .i64 0], []⟩ 8 (by kernel_rfl) (by kernel_rfl) (by kernel_rfl) (by kernel_rfl)) ?_
  intro W base args ds gs before hval0 hW hcnd _
  have hval : ∀ (j : Nat) t v, Try.f10.params[j]? = some t → args[j]? = some v → Value.okWide Try.prog W .any base t v := hval0
  have hW' := hW
  obtain ⟨p, q, hA0, hV, rfl, hfz, hnd⟩ := hW
  have hA : DataW.TrodAll enc Try.prog W 0 (fun _ => true) true Try.f10.params.toList args.toList ds p := hA0
  rw [Try.params10] at hA hval
  obtain ⟨v0, vs0, d0, ds0, p0, q0, hargs, rfl, rfl, h0, r0⟩ := trodAll_cons hA
  obtain ⟨v1, vs1, d1, ds1, p1, q1, rfl, rfl, rfl, h1, r1⟩ := trodAll_cons r0
  obtain ⟨rfl, rfl, rfl⟩ := trodAll_nil r1
  obtain rfl : args = #[v0, v1] := by cases args; simp_all
  obtain ⟨rfl, rfl⟩ := trodVars_none hV
  have lt0 : ∀ x ∈ p0, x.block < W.heap.size := by obtain ⟨m, hm⟩ := h0; exact DataW.trod_lt m _ _ _ hm
  have g0 := shape_deeds (hval 0 47 v0 rfl rfl) h0
  have lt1 : ∀ x ∈ p1, x.block < W.heap.size := by obtain ⟨m, hm⟩ := h1; exact DataW.trod_lt m _ _ _ hm
  have g1 := shape_int (hval 1 3 v1 rfl rfl) h1
  clear hA0 hval0
  refine (walk v0 v1 W g0 g1).mono fun e W' ⟨he, bel⟩ => ?_
  subst he
  exact ⟨_, rfl, _, _, _, [], _, [], hW', trodAll_mk1 (shut_bool Try.underlying4 _), (trodAll_cons_mk (Below.trod laidOut (by kernel_rfl) (of_decide_eq_true (by kernel_rfl)) h0 bel lt0) (trodAll_cons_mk (Below.trod laidOut (by kernel_rfl) (of_decide_eq_true (by kernel_rfl)) h1 bel lt1) trodAll_mk0)), rfl, bel.frame _, fun h => by cases h⟩

theorem over : Rows.lastToldRow.holds Try.pinned (OpenSpec.ofChange Rows.lastToldSpec) :=
  OpenClaim.holds_of_wide 10 Try.f10 rfl rfl rfl rfl rfl rfl rfl ⟨rfl, rfl, rfl, rfl, rfl⟩ rfl rfl rfl rfl rfl (by kernel_rfl) Try.func10 (by kernel_rfl)
    (of_decide_eq_true (by kernel_rfl)) (by unfold Func.isWrapper; first | (rw [if_pos (by decide +kernel)]; kernel_rfl) | (rw [if_neg (by decide +kernel)]; exact ⟨rfl, rfl⟩))
    (fun os started H enc _ => lifted os started H enc)

end Go.Proofs.Ytdpjganbielnkaa.lastToldDone
namespace Go.Proofs.Ytdpjganbielnkaa
theorem LastTold_holds : Rows.LastToldSaid := lastToldDone.over
end Go.Proofs.Ytdpjganbielnkaa
