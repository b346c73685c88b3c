/- ledger: Match. -/
import Derived.Test.YtpbgadojocgefaaIb
import Derived.Test.YtpbgadojocgefaaIc
namespace Go.Proofs.Ytpbgadojocgefaa
open Go.RowKit
set_option linter.unusedVariables false
set_option maxRecDepth 100000

abbrev nilLg : Lg := ⟨0, 0, []⟩
/-- The log up to the first new place, and the items from there on. -/
def Lg.laidAt (g : Lg) (p : Int) (x : List Itm) : Lg := ⟨g.base, g.term, g.items.take (g.freshAt p x - g.base - 1).toNat ++ x.drop (g.freshAt p x - p - 1).toNat⟩
/-- What Match answers: the log, whether they fit, the first new place, the error. -/
structure MatchR where
  log : Lg
  fits : Bool
  fresh : Int
  err : Int
def Lg.matchR (g : Lg) (p q : Int) (x : List Itm) : MatchR :=
  if g.okB = true then
    if Lg.okB ⟨p, q, x⟩ = true then
      if g.fitB p q = true then
        if g.freshAt p x = 0 then ⟨g, true, 0, 0⟩
        else if (g.laidAt p x).okB = true then ⟨g.laidAt p x, true, g.freshAt p x, 0⟩ else ⟨nilLg, false, 0, 6⟩
      else ⟨g, false, 0, 0⟩
    else ⟨nilLg, false, 0, 10⟩
  else ⟨nilLg, false, 0, 13⟩

theorem freshAt_spec (g : Lg) (hb : g.base ≤ g.last) : ∀ (x : List Itm) (p : Int), 0 ≤ p → p ≤ g.last → g.freshAt p x ≠ 0 → p < g.freshAt p x ∧ g.freshAt p x ≤ p + x.length ∧ g.base < g.freshAt p x ∧ g.freshAt p x ≤ g.last + 1
  | [], p, _, _, h => absurd rfl h
  | y :: r, p, h0, hp, h => by
    unfold Lg.freshAt at h ⊢
    split
    · rename_i hc
      simp only [List.length_cons]
      rcases hc with hc | ⟨hc, -⟩ <;> refine ⟨by omega, by omega, by omega, by omega⟩
    · rename_i hc
      rw [if_neg hc] at h
      have hn : ¬ g.last < p + 1 := fun k => hc (.inl k)
      have ih := freshAt_spec g hb r (p + 1) (by omega) (by omega) h
      simp only [List.length_cons]
      omega

/-- What Match hands back. -/
def MatchOk (w : World) (m : MatchR) (e : Ending) (w' : World) : Prop := ∃ r, e = .returned (.tuple #[logV m.log.base m.log.term r, .bool m.fits, .int .i64 m.fresh, .int .i64 m.err]) ∧ OwnI w.heap.size w' r m.log.items ∧ Below w.heap.size w w'

set_option maxHeartbeats 8000000 in
theorem match_badlog (g : Lg) (s : Value) (p q : Int) (xs : Value) (x : List Itm) (w : World) (hr : RowI w s g.items) (hx : RowI w xs x) (hk : g.okB = false) :
    Calls Try.prog 6 #[logV g.base g.term s, .int .i64 p, .int .i64 q, xs] w (MatchOk w ⟨nilLg, false, 0, 13⟩) := by
  have HC : Hid (∀ W, Below w.heap.size w W → Calls Try.prog 15 #[logV g.base g.term s] W fun e w' => e = .returned (.int .i64 13) ∧ Below W.heap.size W w') := fun W hW => by
    have := check_any g s W (hr.below hW); rwa [fault_not hk] at this
  obtain ⟨b, t, l⟩ := g
  simp only at *
  clear hr hx hk
  go_enter Try.func6, Try.ntmps6
  go_wp2_with fail
  obtain ⟨n0, n1, hB0, hs0⟩ := two_at w (logO b t s) (logO 0 0 (.slice none 0 0))
  generalize (w.alloc (logO b t s)).alloc (logO 0 0 (.slice none 0 0)) = V at n0 n1 hB0 hs0 ⊢
  have hz : w.heap.size + 2 ≤ V.heap.size := by omega
  clear hs0
  refine (HC.out _ hB0).mono ?_
  rintro e w1 ⟨rfl, hb1⟩
  have hB1 := bstep hB0 hb1
  have m1 := (hb1.block _ (lt_at n0)).trans n0
  have k1 := (hb1.block _ (lt_at n1)).trans n1
  have hz1 : w.heap.size + 2 ≤ w1.heap.size := Nat.le_trans hz hb1.size
  clear hB0 hb1 n0 n1 hz
  obtain ⟨d1, j1⟩ := cellsB k1
  have hy := lt_at k1
  go_wp2_with fail
  refine bodyPost_ret (v := .tuple #[logV 0 0 (.slice none 0 0), .bool false, .int .i64 0, .int .i64 13]) (by simp [results, Try.results6, go_sem, d1]) rfl ⟨_, rfl, OwnI.nil _ _, ?_⟩
  first | exact hB1 | exact ((hB1.setCell (by simp) _).setCell (by simp) _).setCell (by simp) _

set_option maxHeartbeats 8000000 in
theorem match_baditems (g : Lg) (s : Value) (p q : Int) (xs : Value) (x : List Itm) (w : World) (hr : RowI w s g.items) (hx : RowI w xs x) (hk : g.okB = true) (hm : Lg.okB ⟨p, q, x⟩ = false) :
    Calls Try.prog 6 #[logV g.base g.term s, .int .i64 p, .int .i64 q, xs] w (MatchOk w ⟨nilLg, false, 0, 10⟩) := by
  have HC : Hid (∀ W, Below w.heap.size w W → Calls Try.prog 15 #[logV g.base g.term s] W fun e w' => e = .returned (.int .i64 0) ∧ Below W.heap.size W w') := fun W hW => by
    have := check_any g s W (hr.below hW); rwa [fault_yes hk] at this
  have HD : Hid (∀ W, Below w.heap.size w W → Calls Try.prog 15 #[logV p q xs] W fun e w' => e = .returned (.int .i64 13) ∧ Below W.heap.size W w') := fun W hW => by
    have := check_any ⟨p, q, x⟩ xs W (hx.below hW); rwa [fault_not hm] at this
  obtain ⟨xa, xc, rfl⟩ : ∃ a c, xs = .slice a x.length c := by obtain ⟨-, a, c, rfl, -⟩ := hx; exact ⟨_, _, rfl⟩
  obtain ⟨b, t, l⟩ := g
  simp only at *
  clear hr hx hk hm
  go_enter Try.func6, Try.ntmps6
  go_wp2_with fail
  obtain ⟨n0, n1, hB0, hs0⟩ := two_at w (logO b t s) (logO 0 0 (.slice none 0 0))
  generalize (w.alloc (logO b t s)).alloc (logO 0 0 (.slice none 0 0)) = V at n0 n1 hB0 hs0 ⊢
  have hz : w.heap.size + 2 ≤ V.heap.size := by omega
  clear hs0
  refine (HC.out _ hB0).mono ?_
  rintro e w1 ⟨rfl, hb1⟩
  have hB1 := bstep hB0 hb1
  have m1 := (hb1.block _ (lt_at n0)).trans n0
  have k1 := (hb1.block _ (lt_at n1)).trans n1
  have hz1 : w.heap.size + 2 ≤ w1.heap.size := Nat.le_trans hz hb1.size
  clear hB0 hb1 n0 n1 hz
  obtain ⟨c1, f1⟩ := cellsB m1
  go_wp2_with fail
  refine (HD.out _ hB1).mono ?_
  rintro e w2 ⟨rfl, hb2⟩
  clear c1 f1
  have hB2 := bstep hB1 hb2
  have m2 := (hb2.block _ (lt_at m1)).trans m1
  have k2 := (hb2.block _ (lt_at k1)).trans k1
  have hz2 : w.heap.size + 2 ≤ w2.heap.size := Nat.le_trans hz1 hb2.size
  clear hB1 hb2 m1 k1 hz1
  obtain ⟨d2, j2⟩ := cellsB k2
  have hy := lt_at k2
  go_wp2_with fail
  refine bodyPost_ret (v := .tuple #[logV 0 0 (.slice none 0 0), .bool false, .int .i64 0, .int .i64 10]) (by simp [results, Try.results6, go_sem, d2]) rfl ⟨_, rfl, OwnI.nil _ _, ?_⟩
  first | exact hB2 | exact ((hB2.setCell (by simp) _).setCell (by simp) _).setCell (by simp) _

set_option maxHeartbeats 8000000 in
theorem match_notfit (g : Lg) (s : Value) (p q : Int) (xs : Value) (x : List Itm) (w : World) (hr : RowI w s g.items) (hx : RowI w xs x) (hk : g.okB = true) (hm : Lg.okB ⟨p, q, x⟩ = true) (hf : g.fitB p q = false) :
    Calls Try.prog 6 #[logV g.base g.term s, .int .i64 p, .int .i64 q, xs] w (MatchOk w ⟨g, false, 0, 0⟩) := by
  have hle := okB_le hk
  have hme := okB_le hm
  have HC : Hid (∀ W, Below w.heap.size w W → Calls Try.prog 15 #[logV g.base g.term s] W fun e w' => e = .returned (.int .i64 0) ∧ Below W.heap.size W w') := fun W hW => by
    have := check_any g s W (hr.below hW); rwa [fault_yes hk] at this
  have HD : Hid (∀ W, Below w.heap.size w W → Calls Try.prog 15 #[logV p q xs] W fun e w' => e = .returned (.int .i64 0) ∧ Below W.heap.size W w') := fun W hW => by
    have := check_any ⟨p, q, x⟩ xs W (hx.below hW); rwa [fault_yes hm] at this
  have HF : Hid (∀ W, Below w.heap.size w W → Calls Try.prog 16 #[logV g.base g.term s, .int .i64 p, .int .i64 q] W fun e w' => e = .returned (.bool false) ∧ Below W.heap.size W w') := fun W hW => by
    have := fit_any g s p q W (hr.below hW) hle.1 hle.2.1; rwa [hf] at this
  have HO : Hid (∀ W, Below w.heap.size w W → Calls Try.prog 17 #[logV g.base g.term s] W fun e w' => ∃ r, e = .returned (logV g.base g.term r) ∧ OwnI W.heap.size w' r g.items ∧ Below W.heap.size W w') := fun W hW =>
    own_any g.base g.term s g.items W (hr.below hW) (by omega)
  obtain ⟨xa, xc, rfl⟩ : ∃ a c, xs = .slice a x.length c := by obtain ⟨-, a, c, rfl, -⟩ := hx; exact ⟨_, _, rfl⟩
  obtain ⟨b, t, l⟩ := g
  simp only at *
  clear hr hx hk hm hf hle hme
  go_enter Try.func6, Try.ntmps6
  go_wp2_with fail
  obtain ⟨n0, n1, hB0, hs0⟩ := two_at w (logO b t s) (logO 0 0 (.slice none 0 0))
  generalize (w.alloc (logO b t s)).alloc (logO 0 0 (.slice none 0 0)) = V at n0 n1 hB0 hs0 ⊢
  have hz : w.heap.size + 2 ≤ V.heap.size := by omega
  clear hs0
  refine (HC.out _ hB0).mono ?_
  rintro e w1 ⟨rfl, hb1⟩
  have hB1 := bstep hB0 hb1
  have m1 := (hb1.block _ (lt_at n0)).trans n0
  have k1 := (hb1.block _ (lt_at n1)).trans n1
  have hz1 : w.heap.size + 2 ≤ w1.heap.size := Nat.le_trans hz hb1.size
  clear hB0 hb1 n0 n1 hz
  obtain ⟨c1, f1⟩ := cellsB m1
  go_wp2_with fail
  refine (HD.out _ hB1).mono ?_
  rintro e w2 ⟨rfl, hb2⟩
  clear c1 f1
  have hB2 := bstep hB1 hb2
  have m2 := (hb2.block _ (lt_at m1)).trans m1
  have k2 := (hb2.block _ (lt_at k1)).trans k1
  have hz2 : w.heap.size + 2 ≤ w2.heap.size := Nat.le_trans hz1 hb2.size
  clear hB1 hb2 m1 k1 hz1
  obtain ⟨c2, f2⟩ := cellsB m2
  go_wp2_with fail
  refine (HF.out _ hB2).mono ?_
  rintro e w3 ⟨rfl, hb3⟩
  clear c2 f2
  have hB3 := bstep hB2 hb3
  have m3 := (hb3.block _ (lt_at m2)).trans m2
  have k3 := (hb3.block _ (lt_at k2)).trans k2
  have hz3 : w.heap.size + 2 ≤ w3.heap.size := Nat.le_trans hz2 hb3.size
  clear hB2 hb3 m2 k2 hz2
  obtain ⟨c3, f3⟩ := cellsB m3
  go_wp2_with fail
  refine (HO.out _ hB3).mono ?_
  rintro e w4 ⟨r, rfl, hown, hb4⟩
  replace hown := OwnI.base hown hz3
  clear c3 f3
  have hB4 := bstep hB3 hb4
  have m4 := (hb4.block _ (lt_at m3)).trans m3
  have k4 := (hb4.block _ (lt_at k3)).trans k3
  have hz4 : w.heap.size + 2 ≤ w4.heap.size := Nat.le_trans hz3 hb4.size
  clear hB3 hb4 m3 k3 hz3
  obtain ⟨d4, j4⟩ := cellsB k4
  have hy := lt_at k4
  obtain ⟨sa, sc, rfl⟩ := hown.shape
  go_wp2_with fail
  refine bodyPost_ret (v := .tuple #[logV b t (.slice sa l.length sc), .bool false, .int .i64 0, .int .i64 0]) (by simp [results, Try.results6, go_sem, d4]) rfl ⟨_, rfl, ?_, ?_⟩
  · refine OwnI.base (B := w.heap.size + 2) ?_ (by omega)
    refine OwnI.setCell (OwnI.setCell (OwnI.setCell hown ?_ _) ?_ _) ?_ _ <;> (show w.heap.size + 1 < w.heap.size + 2; omega)
  · exact ((hB4.setCell (by simp) _).setCell (by simp) _).setCell (by simp) _

set_option maxHeartbeats 8000000 in
theorem match_same (g : Lg) (s : Value) (p q : Int) (xs : Value) (x : List Itm) (w : World) (hr : RowI w s g.items) (hx : RowI w xs x) (hk : g.okB = true) (hm : Lg.okB ⟨p, q, x⟩ = true) (hf : g.fitB p q = true) (hn : g.freshAt p x = 0) :
    Calls Try.prog 6 #[logV g.base g.term s, .int .i64 p, .int .i64 q, xs] w (MatchOk w ⟨g, true, 0, 0⟩) := by
  have hle := okB_le hk
  have hme := okB_le hm
  have HC : Hid (∀ W, Below w.heap.size w W → Calls Try.prog 15 #[logV g.base g.term s] W fun e w' => e = .returned (.int .i64 0) ∧ Below W.heap.size W w') := fun W hW => by
    have := check_any g s W (hr.below hW); rwa [fault_yes hk] at this
  have HD : Hid (∀ W, Below w.heap.size w W → Calls Try.prog 15 #[logV p q xs] W fun e w' => e = .returned (.int .i64 0) ∧ Below W.heap.size W w') := fun W hW => by
    have := check_any ⟨p, q, x⟩ xs W (hx.below hW); rwa [fault_yes hm] at this
  have HF : Hid (∀ W, Below w.heap.size w W → Calls Try.prog 16 #[logV g.base g.term s, .int .i64 p, .int .i64 q] W fun e w' => e = .returned (.bool true) ∧ Below W.heap.size W w') := fun W hW => by
    have := fit_any g s p q W (hr.below hW) hle.1 hle.2.1; rwa [hf] at this
  have HO : Hid (∀ W, Below w.heap.size w W → Calls Try.prog 17 #[logV g.base g.term s] W fun e w' => ∃ r, e = .returned (logV g.base g.term r) ∧ OwnI W.heap.size w' r g.items ∧ Below W.heap.size W w') := fun W hW =>
    own_any g.base g.term s g.items W (hr.below hW) (by omega)
  have HN : Hid (∀ W, Below w.heap.size w W → Calls Try.prog 18 #[logV g.base g.term s, .int .i64 p, xs] W fun e w' => e = .returned (.int .i64 0) ∧ Below W.heap.size W w') := fun W hW => by
    have := firstFresh_any g s p xs x W (hr.below hW) (hx.below hW) hle.1 hle.2.1 hme.1 hme.2.1; rwa [hn] at this
  obtain ⟨xa, xc, rfl⟩ : ∃ a c, xs = .slice a x.length c := by obtain ⟨-, a, c, rfl, -⟩ := hx; exact ⟨_, _, rfl⟩
  obtain ⟨b, t, l⟩ := g
  simp only at *
  clear hr hx hk hm hf hle hme hn
  go_enter Try.func6, Try.ntmps6
  go_wp2_with fail
  obtain ⟨n0, n1, hB0, hs0⟩ := two_at w (logO b t s) (logO 0 0 (.slice none 0 0))
  generalize (w.alloc (logO b t s)).alloc (logO 0 0 (.slice none 0 0)) = V at n0 n1 hB0 hs0 ⊢
  have hz : w.heap.size + 2 ≤ V.heap.size := by omega
  clear hs0
  refine (HC.out _ hB0).mono ?_
  rintro e w1 ⟨rfl, hb1⟩
  have hB1 := bstep hB0 hb1
  have m1 := (hb1.block _ (lt_at n0)).trans n0
  have k1 := (hb1.block _ (lt_at n1)).trans n1
  have hz1 : w.heap.size + 2 ≤ w1.heap.size := Nat.le_trans hz hb1.size
  clear hB0 hb1 n0 n1 hz
  obtain ⟨c1, f1⟩ := cellsB m1
  go_wp2_with fail
  refine (HD.out _ hB1).mono ?_
  rintro e w2 ⟨rfl, hb2⟩
  clear c1 f1
  have hB2 := bstep hB1 hb2
  have m2 := (hb2.block _ (lt_at m1)).trans m1
  have k2 := (hb2.block _ (lt_at k1)).trans k1
  have hz2 : w.heap.size + 2 ≤ w2.heap.size := Nat.le_trans hz1 hb2.size
  clear hB1 hb2 m1 k1 hz1
  obtain ⟨c2, f2⟩ := cellsB m2
  go_wp2_with fail
  refine (HF.out _ hB2).mono ?_
  rintro e w3 ⟨rfl, hb3⟩
  clear c2 f2
  have hB3 := bstep hB2 hb3
  have m3 := (hb3.block _ (lt_at m2)).trans m2
  have k3 := (hb3.block _ (lt_at k2)).trans k2
  have hz3 : w.heap.size + 2 ≤ w3.heap.size := Nat.le_trans hz2 hb3.size
  clear hB2 hb3 m2 k2 hz2
  obtain ⟨c3, f3⟩ := cellsB m3
  go_wp2_with fail
  refine (HN.out _ hB3).mono ?_
  rintro e w4 ⟨rfl, hb4⟩
  clear c3 f3
  have hB4 := bstep hB3 hb4
  have m4 := (hb4.block _ (lt_at m3)).trans m3
  have k4 := (hb4.block _ (lt_at k3)).trans k3
  have hz4 : w.heap.size + 2 ≤ w4.heap.size := Nat.le_trans hz3 hb4.size
  clear hB3 hb4 m3 k3 hz3
  obtain ⟨c4, f4⟩ := cellsB m4
  go_wp2_with fail
  refine (HO.out _ hB4).mono ?_
  rintro e w5 ⟨r, rfl, hown, hb5⟩
  replace hown := OwnI.base hown hz4
  clear c4 f4
  have hB5 := bstep hB4 hb5
  have m5 := (hb5.block _ (lt_at m4)).trans m4
  have k5 := (hb5.block _ (lt_at k4)).trans k4
  have hz5 : w.heap.size + 2 ≤ w5.heap.size := Nat.le_trans hz4 hb5.size
  clear hB4 hb5 m4 k4 hz4
  obtain ⟨d5, j5⟩ := cellsB k5
  have hy := lt_at k5
  obtain ⟨sa, sc, rfl⟩ := hown.shape
  go_wp2_with fail
  refine bodyPost_ret (v := .tuple #[logV b t (.slice sa l.length sc), .bool true, .int .i64 0, .int .i64 0]) (by simp [results, Try.results6, go_sem, d5]) rfl ⟨_, rfl, ?_, ?_⟩
  · refine OwnI.base (B := w.heap.size + 2) ?_ (by omega)
    refine OwnI.setCell (OwnI.setCell (OwnI.setCell hown ?_ _) ?_ _) ?_ _ <;> (show w.heap.size + 1 < w.heap.size + 2; omega)
  · exact ((hB5.setCell (by simp) _).setCell (by simp) _).setCell (by simp) _

end Go.Proofs.Ytpbgadojocgefaa
