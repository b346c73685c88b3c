/- The walk of LastGone: each of the five ways to make a value of one element, and to take it. -/
import Derived.Test.YtlfmpgemanbpeaaGreatPe
import Derived.Test.YtlfmpgemanbpeaaGreatKa
import Derived.Test.YtlfmpgemanbpeaaGreatKc
import Derived.Test.YtlfmpgemanbpeaaGreatOp
namespace Go.Proofs.YtlfmpgemanbpeaaGreat.lastGoneDone
open Go.ChangeShapes Go.WideShapes Go.ChangeAt Go.RowKit
open Go.Proofs.YtlfmpgemanbpeaaGreat
set_option linter.unusedVariables false
set_option maxRecDepth 100000

theorem reps_none (W : World) : Reps W (valV 0 ⟨#[]⟩ 0 (.slice none 0 0) (.slice none 0 0) (.slice none 0 0)) (emptyVal 0) := ⟨_, _, _, rfl, Lists.empty W 0⟩

/-- What makes a value of one element, all written out. -/
def Puts (c : Cmd) (x : Val) (K : Int) (np ni ns : Nat) : Prop := ∀ (W : World), Calls Tryz.prog 20 #[valV 0 ⟨#[]⟩ 0 (.slice none 0 0) (.slice none 0 0) (.slice none 0 0), cmdV c.k c.key c.fld c.txt c.n] W fun e w' =>
  ∃ pa pc ia ic sa sc la lc, e = .returned (.tuple #[valV K ⟨#[]⟩ 0 (.slice pa np pc) (.slice ia ni ic) (.slice sa ns sc), repV 0 ⟨#[]⟩ 1 (.slice la 0 lc), .int .i64 0]) ∧ Reps w' (valV K ⟨#[]⟩ 0 (.slice pa np pc) (.slice ia ni ic) (.slice sa ns sc)) x ∧ Below W.heap.size W w'
def Takes (c : Cmd) (x : Val) (txt : ByteArray) (n : Int) : Prop := ∀ (W : World) (v : Value), Reps W v x → Calls Tryz.prog 20 #[v, cmdV c.k c.key c.fld c.txt c.n] W fun e w' =>
  ∃ pa pc ia ic sa sc la lc, e = .returned (.tuple #[valV 0 ⟨#[]⟩ 0 (.slice pa 0 pc) (.slice ia 0 ic) (.slice sa 0 sc), repV 0 txt n (.slice la 0 lc), .int .i64 0]) ∧ Reps w' (valV 0 ⟨#[]⟩ 0 (.slice pa 0 pc) (.slice ia 0 ic) (.slice sa 0 sc)) (emptyVal 0) ∧ Below W.heap.size W w'
theorem puts_of {c : Cmd} {x : Val} (h : DoOk (emptyVal 0) c x { n := 1 } 0) (ht : x.text = ⟨#[]⟩) (hc : x.count = 0) : Puts c x x.kind x.pairs.length x.items.length x.scores.length := by
  intro W
  refine (h W _ (reps_none W)).mono ?_
  rintro e w' ⟨v', u, rfl, hr', hu', hb⟩
  have hr := hr'.reps
  obtain ⟨pa, pc, ia, ic, sa, sc, rfl⟩ := hr'.reps.shapes
  obtain ⟨la, lc, rfl⟩ := hu'.rep.shapes
  rw [ht, hc] at hr ⊢
  exact ⟨pa, pc, ia, ic, sa, sc, la, lc, rfl, hr, hb⟩
theorem takes_of {c : Cmd} {x : Val} {txt : ByteArray} {n : Int} (h : DoOk x c (emptyVal 0) { text := txt, n := n } 0) : Takes c x txt n := by
  intro W v hv
  refine (h W v hv).mono ?_
  rintro e w' ⟨v', u, rfl, hr', hu', hb⟩
  have hr := hr'.reps
  obtain ⟨pa, pc, ia, ic, sa, sc, rfl⟩ := hr'.reps.shapes
  obtain ⟨la, lc, rfl⟩ := hu'.rep.shapes
  exact ⟨pa, pc, ia, ic, sa, sc, la, lc, rfl, hr, hb⟩

set_option maxHeartbeats 16000000 in
theorem walk0 (kind : Int) (s : ByteArray) (w : World) (bk : -9223372036854775808 ≤ kind ∧ kind ≤ 9223372036854775807) (bs : s.size ≤ 9223372036854775807) :
    Calls Tryz.prog 10 #[.int .i64 kind, .string s] w fun e w' => e = .returned (.bool true) ∧ Below w.heap.size w w' := by
  have hc := fun W => cut_any s 8 W bs (by omega)
  have ht := size_cut s 8
  generalize cutB s 8 = t at hc ht
  have HC : Hid (∀ W, Calls Tryz.prog 22 #[.string s, .int .i64 8] W fun e w' => e = .returned (.string t) ∧ W = w') := hc
  have hp := fun W => picked_any kind 5 W bk.1 bk.2 (by omega) (by omega)
  have lq := pickedN_lt kind (show 0 < 5 by omega)
  generalize pickedN kind 5 = q at hp lq
  have HP : Hid (∀ W, Calls Tryz.prog 24 #[.int .i64 kind, .int .i64 5] W fun e w' => e = .returned (.int .i64 (q : Nat)) ∧ W = w') := hp
  clear hc hp
  go_enter Tryz.func10, Tryz.ntmps10
  go_wp2_with fail
  refine (HC.out _).mono ?_
  rintro e w1 ⟨rfl, rfl⟩
  go_wp2_with fail
  refine (HP.out _).mono ?_
  rintro e w1 ⟨rfl, rfl⟩
  have hq : q = 0 ∨ q = 1 ∨ q = 2 ∨ q = 3 ∨ q = 4 := by omega
  rcases hq with rfl | rfl | rfl | rfl | rfl
  · have D1 : Puts (put3 t) (one3 t) 3 1 0 0 := puts_of (do_put3 t (by omega)) rfl rfl
    have D2 : Takes take3 (one3 t) ⟨#[]⟩ 1 := takes_of (do_take3 t (by omega))
    generalize one3 t = X at D1 D2
    go_wp2_with fail
    refine (D1 _).mono ?_
    rintro e w1 ⟨pa, pc, ia, ic, sa, sc, la, lc, rfl, hr1, hb1⟩
    have hB1 := bstep (four_at w _ _ _ _).2.2.2.2.1 hb1
    obtain ⟨c3, f3⟩ := block_cells ((hb1.block (w.heap.size + 1 + 1 + 1) (by simp)).trans (four_at w _ _ _ _).2.2.2.1)
    have sz1 : w.heap.size + 4 ≤ w1.heap.size := by have := hb1.size; simp at this; omega
    have q3 : w.heap.size + 1 + 1 + 1 < w1.heap.size := by omega
    generalize w.heap.size + 1 + 1 + 1 = b3 at c3 f3 q3 ⊢
    clear hb1 D1
    go_wp2_with fail
    have hl2 : Below w1.heap.size w1 ((w1.alloc (valO 3 ⟨#[]⟩ 0 (.slice pa 1 pc) (.slice ia 0 ic) (.slice sa 0 sc))).alloc (repO 0 ⟨#[]⟩ 1 (.slice la 0 lc))) := (balloc _ _).alloc (by simp) _
    refine (D2 _ _ (hr1.below hl2)).mono ?_
    rintro e w2 ⟨pa2, pc2, ia2, ic2, sa2, sc2, la2, lc2, rfl, hr2, hb2⟩
    have hB2 := bstep (bstep hB1 hl2) hb2
    obtain ⟨c4, f4⟩ := block_cells ((hb2.block w1.heap.size (by simp; omega)).trans (two_new w1 _ _).1)
    obtain ⟨c5, f5⟩ := block_cells ((hb2.block (w1.heap.size + 1) (by simp)).trans (two_new w1 _ _).2)
    have q4 : w1.heap.size + 1 < w2.heap.size := Nat.lt_of_lt_of_le (by simp) hb2.size
    have q5 : w1.heap.size < w2.heap.size := by omega
    have hl3 : Below w2.heap.size w2 ((w2.alloc (valO 0 ⟨#[]⟩ 0 (.slice pa2 0 pc2) (.slice ia2 0 ic2) (.slice sa2 0 sc2))).alloc (repO 0 ⟨#[]⟩ 1 (.slice la2 0 lc2))) := (balloc _ _).alloc (by simp) _
    have hS := sameValue_eq _ _ (emptyVal 0) _ (hr2.below hl3) (reps_none _)
    have hB3 := bstep hB2 hl3
    clear hb2 D2 c3 f3 hr1 hr2
    go_wp2_with fail
    refine hS.mono ?_
    rintro e w3 ⟨rfl, hb3⟩
    go_wp2_with fail
    go_ret
    exact ⟨rfl, bstep hB3 hb3⟩
  · have D1 : Puts (put4 t) (one4 t) 4 0 1 0 := puts_of (do_put4 t (by omega)) rfl rfl
    have D2 : Takes take4 (one4 t) t 0 := takes_of (do_take4 t (by omega))
    generalize one4 t = X at D1 D2
    go_wp2_with fail
    refine (D1 _).mono ?_
    rintro e w1 ⟨pa, pc, ia, ic, sa, sc, la, lc, rfl, hr1, hb1⟩
    have hB1 := bstep (four_at w _ _ _ _).2.2.2.2.1 hb1
    obtain ⟨c3, f3⟩ := block_cells ((hb1.block (w.heap.size + 1 + 1 + 1) (by simp)).trans (four_at w _ _ _ _).2.2.2.1)
    have sz1 : w.heap.size + 4 ≤ w1.heap.size := by have := hb1.size; simp at this; omega
    have q3 : w.heap.size + 1 + 1 + 1 < w1.heap.size := by omega
    generalize w.heap.size + 1 + 1 + 1 = b3 at c3 f3 q3 ⊢
    clear hb1 D1
    go_wp2_with fail
    have hl2 : Below w1.heap.size w1 ((w1.alloc (valO 4 ⟨#[]⟩ 0 (.slice pa 0 pc) (.slice ia 1 ic) (.slice sa 0 sc))).alloc (repO 0 ⟨#[]⟩ 1 (.slice la 0 lc))) := (balloc _ _).alloc (by simp) _
    refine (D2 _ _ (hr1.below hl2)).mono ?_
    rintro e w2 ⟨pa2, pc2, ia2, ic2, sa2, sc2, la2, lc2, rfl, hr2, hb2⟩
    have hB2 := bstep (bstep hB1 hl2) hb2
    obtain ⟨c4, f4⟩ := block_cells ((hb2.block w1.heap.size (by simp; omega)).trans (two_new w1 _ _).1)
    obtain ⟨c5, f5⟩ := block_cells ((hb2.block (w1.heap.size + 1) (by simp)).trans (two_new w1 _ _).2)
    have q4 : w1.heap.size + 1 < w2.heap.size := Nat.lt_of_lt_of_le (by simp) hb2.size
    have q5 : w1.heap.size < w2.heap.size := by omega
    have hl3 : Below w2.heap.size w2 ((w2.alloc (valO 0 ⟨#[]⟩ 0 (.slice pa2 0 pc2) (.slice ia2 0 ic2) (.slice sa2 0 sc2))).alloc (repO 0 t 0 (.slice la2 0 lc2))) := (balloc _ _).alloc (by simp) _
    have hS := sameValue_eq _ _ (emptyVal 0) _ (hr2.below hl3) (reps_none _)
    have hB3 := bstep hB2 hl3
    clear hb2 D2 c3 f3 hr1 hr2
    go_wp2_with fail
    refine hS.mono ?_
    rintro e w3 ⟨rfl, hb3⟩
    go_wp2_with fail
    go_ret
    exact ⟨rfl, bstep hB3 hb3⟩
  · have D1 : Puts (put4' t) (one4 t) 4 0 1 0 := puts_of (do_put4' t (by omega)) rfl rfl
    have D2 : Takes take4' (one4 t) t 0 := takes_of (do_take4' t (by omega))
    generalize one4 t = X at D1 D2
    go_wp2_with fail
    refine (D1 _).mono ?_
    rintro e w1 ⟨pa, pc, ia, ic, sa, sc, la, lc, rfl, hr1, hb1⟩
    have hB1 := bstep (four_at w _ _ _ _).2.2.2.2.1 hb1
    obtain ⟨c3, f3⟩ := block_cells ((hb1.block (w.heap.size + 1 + 1 + 1) (by simp)).trans (four_at w _ _ _ _).2.2.2.1)
    have sz1 : w.heap.size + 4 ≤ w1.heap.size := by have := hb1.size; simp at this; omega
    have q3 : w.heap.size + 1 + 1 + 1 < w1.heap.size := by omega
    generalize w.heap.size + 1 + 1 + 1 = b3 at c3 f3 q3 ⊢
    clear hb1 D1
    go_wp2_with fail
    have hl2 : Below w1.heap.size w1 ((w1.alloc (valO 4 ⟨#[]⟩ 0 (.slice pa 0 pc) (.slice ia 1 ic) (.slice sa 0 sc))).alloc (repO 0 ⟨#[]⟩ 1 (.slice la 0 lc))) := (balloc _ _).alloc (by simp) _
    refine (D2 _ _ (hr1.below hl2)).mono ?_
    rintro e w2 ⟨pa2, pc2, ia2, ic2, sa2, sc2, la2, lc2, rfl, hr2, hb2⟩
    have hB2 := bstep (bstep hB1 hl2) hb2
    obtain ⟨c4, f4⟩ := block_cells ((hb2.block w1.heap.size (by simp; omega)).trans (two_new w1 _ _).1)
    obtain ⟨c5, f5⟩ := block_cells ((hb2.block (w1.heap.size + 1) (by simp)).trans (two_new w1 _ _).2)
    have q4 : w1.heap.size + 1 < w2.heap.size := Nat.lt_of_lt_of_le (by simp) hb2.size
    have q5 : w1.heap.size < w2.heap.size := by omega
    have hl3 : Below w2.heap.size w2 ((w2.alloc (valO 0 ⟨#[]⟩ 0 (.slice pa2 0 pc2) (.slice ia2 0 ic2) (.slice sa2 0 sc2))).alloc (repO 0 t 0 (.slice la2 0 lc2))) := (balloc _ _).alloc (by simp) _
    have hS := sameValue_eq _ _ (emptyVal 0) _ (hr2.below hl3) (reps_none _)
    have hB3 := bstep hB2 hl3
    clear hb2 D2 c3 f3 hr1 hr2
    go_wp2_with fail
    refine hS.mono ?_
    rintro e w3 ⟨rfl, hb3⟩
    go_wp2_with fail
    go_ret
    exact ⟨rfl, bstep hB3 hb3⟩
  · have D1 : Puts (put5 t) (one5 t) 5 0 1 0 := puts_of (do_put5 t (by omega)) rfl rfl
    have D2 : Takes (take5 t) (one5 t) ⟨#[]⟩ 1 := takes_of (do_take5 t (by omega))
    generalize one5 t = X at D1 D2
    go_wp2_with fail
    refine (D1 _).mono ?_
    rintro e w1 ⟨pa, pc, ia, ic, sa, sc, la, lc, rfl, hr1, hb1⟩
    have hB1 := bstep (four_at w _ _ _ _).2.2.2.2.1 hb1
    obtain ⟨c3, f3⟩ := block_cells ((hb1.block (w.heap.size + 1 + 1 + 1) (by simp)).trans (four_at w _ _ _ _).2.2.2.1)
    have sz1 : w.heap.size + 4 ≤ w1.heap.size := by have := hb1.size; simp at this; omega
    have q3 : w.heap.size + 1 + 1 + 1 < w1.heap.size := by omega
    generalize w.heap.size + 1 + 1 + 1 = b3 at c3 f3 q3 ⊢
    clear hb1 D1
    go_wp2_with fail
    have hl2 : Below w1.heap.size w1 ((w1.alloc (valO 5 ⟨#[]⟩ 0 (.slice pa 0 pc) (.slice ia 1 ic) (.slice sa 0 sc))).alloc (repO 0 ⟨#[]⟩ 1 (.slice la 0 lc))) := (balloc _ _).alloc (by simp) _
    refine (D2 _ _ (hr1.below hl2)).mono ?_
    rintro e w2 ⟨pa2, pc2, ia2, ic2, sa2, sc2, la2, lc2, rfl, hr2, hb2⟩
    have hB2 := bstep (bstep hB1 hl2) hb2
    obtain ⟨c4, f4⟩ := block_cells ((hb2.block w1.heap.size (by simp; omega)).trans (two_new w1 _ _).1)
    obtain ⟨c5, f5⟩ := block_cells ((hb2.block (w1.heap.size + 1) (by simp)).trans (two_new w1 _ _).2)
    have q4 : w1.heap.size + 1 < w2.heap.size := Nat.lt_of_lt_of_le (by simp) hb2.size
    have q5 : w1.heap.size < w2.heap.size := by omega
    have hl3 : Below w2.heap.size w2 ((w2.alloc (valO 0 ⟨#[]⟩ 0 (.slice pa2 0 pc2) (.slice ia2 0 ic2) (.slice sa2 0 sc2))).alloc (repO 0 ⟨#[]⟩ 1 (.slice la2 0 lc2))) := (balloc _ _).alloc (by simp) _
    have hS := sameValue_eq _ _ (emptyVal 0) _ (hr2.below hl3) (reps_none _)
    have hB3 := bstep hB2 hl3
    clear hb2 D2 c3 f3 hr1 hr2
    go_wp2_with fail
    refine hS.mono ?_
    rintro e w3 ⟨rfl, hb3⟩
    go_wp2_with fail
    go_ret
    exact ⟨rfl, bstep hB3 hb3⟩
  · have D1 : Puts (put6 t) (one6 t) 6 0 0 1 := puts_of (do_put6 t (by omega)) rfl rfl
    have D2 : Takes (take6 t) (one6 t) ⟨#[]⟩ 1 := takes_of (do_take6 t (by omega))
    generalize one6 t = X at D1 D2
    go_wp2_with fail
    refine (D1 _).mono ?_
    rintro e w1 ⟨pa, pc, ia, ic, sa, sc, la, lc, rfl, hr1, hb1⟩
    have hB1 := bstep (four_at w _ _ _ _).2.2.2.2.1 hb1
    obtain ⟨c3, f3⟩ := block_cells ((hb1.block (w.heap.size + 1 + 1 + 1) (by simp)).trans (four_at w _ _ _ _).2.2.2.1)
    have sz1 : w.heap.size + 4 ≤ w1.heap.size := by have := hb1.size; simp at this; omega
    have q3 : w.heap.size + 1 + 1 + 1 < w1.heap.size := by omega
    generalize w.heap.size + 1 + 1 + 1 = b3 at c3 f3 q3 ⊢
    clear hb1 D1
    go_wp2_with fail
    have hl2 : Below w1.heap.size w1 ((w1.alloc (valO 6 ⟨#[]⟩ 0 (.slice pa 0 pc) (.slice ia 0 ic) (.slice sa 1 sc))).alloc (repO 0 ⟨#[]⟩ 1 (.slice la 0 lc))) := (balloc _ _).alloc (by simp) _
    refine (D2 _ _ (hr1.below hl2)).mono ?_
    rintro e w2 ⟨pa2, pc2, ia2, ic2, sa2, sc2, la2, lc2, rfl, hr2, hb2⟩
    have hB2 := bstep (bstep hB1 hl2) hb2
    obtain ⟨c4, f4⟩ := block_cells ((hb2.block w1.heap.size (by simp; omega)).trans (two_new w1 _ _).1)
    obtain ⟨c5, f5⟩ := block_cells ((hb2.block (w1.heap.size + 1) (by simp)).trans (two_new w1 _ _).2)
    have q4 : w1.heap.size + 1 < w2.heap.size := Nat.lt_of_lt_of_le (by simp) hb2.size
    have q5 : w1.heap.size < w2.heap.size := by omega
    have hl3 : Below w2.heap.size w2 ((w2.alloc (valO 0 ⟨#[]⟩ 0 (.slice pa2 0 pc2) (.slice ia2 0 ic2) (.slice sa2 0 sc2))).alloc (repO 0 ⟨#[]⟩ 1 (.slice la2 0 lc2))) := (balloc _ _).alloc (by simp) _
    have hS := sameValue_eq _ _ (emptyVal 0) _ (hr2.below hl3) (reps_none _)
    have hB3 := bstep hB2 hl3
    clear hb2 D2 c3 f3 hr1 hr2
    go_wp2_with fail
    refine hS.mono ?_
    rintro e w3 ⟨rfl, hb3⟩
    go_wp2_with fail
    go_ret
    exact ⟨rfl, bstep hB3 hb3⟩
end Go.Proofs.YtlfmpgemanbpeaaGreat.lastGoneDone
