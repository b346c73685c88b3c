/- rostrumkeep.Log: a log of raw numbers, which may be. -/
import Derived.Test.YtpbgadojocgefaaHb
namespace Go.Proofs.Ytpbgadojocgefaa
open Go.RowKit
set_option linter.unusedVariables false
set_option maxRecDepth 100000

def logFor (l : List Deed) (base : Int) : Lg := if pickedN base 12 = 0 then ⟨0, 0, itemsFor 1 0 (l.take 30)⟩ else ⟨(pickedN base 12 : Nat), 2, itemsFor 2 0 (l.take 30)⟩

theorem fault_other {x : Itm} {t u : Int} (h : x.fault = 0) (ht : numB t = true) (hu : timeB u = true) : Itm.fault { x with t := t, u := u } = 0 := by
  obtain ⟨xt, xu, xp, xcl, xseq, ck, ckey, cfld, ctxt, cn⟩ := x
  simp only [Itm.fault, itemFault] at h ⊢
  simp only [ht, hu, Bool.and_self, if_true]
  split at h
  · exact h
  · omega

theorem itemOf_fault (d : Deed) {t u : Int} (ht : numB t = true) (hu : timeB u = true) : (itemOf d t u).fault = 0 := fault_other (itemFor_fault ..) ht hu

theorem itemsOk_for (l : List Deed) : ∀ (t u t' u' : Int), t' ≤ t → u' ≤ u → 1 ≤ t → 0 ≤ u → t + l.length ≤ 1048576 → u + 2 * l.length ≤ 1048576 → itemsOk t' u' (itemsFor t u l) = true := by
  induction l with
  | nil => intros; rfl
  | cons d r ih =>
    intro t u t' u' h1 h2 h3 h4 h5 h6
    have a := stepT_le d t
    have b := stepU_le d u
    simp only [List.length_cons] at h5 h6
    have e1 : (itemOf d (stepT d t) (stepU d u)).t = stepT d t := rfl
    have e2 : (itemOf d (stepT d t) (stepU d u)).u = stepU d u := rfl
    have hF : (itemOf d (stepT d t) (stepU d u)).fault = 0 := itemOf_fault d (by simp [numB]; omega) (by simp [timeB]; omega)
    simp only [itemsFor, itemsOk, e1, e2, hF]
    rw [ih _ _ _ _ (Int.le_refl _) (Int.le_refl _) (by omega) (by omega) (by omega) (by omega)]
    simp; omega

theorem logFor_ok (l : List Deed) (base : Int) : (logFor l base).okB = true := by
  have h12 := pickedN_lt base (show 0 < 12 by omega)
  have hl : (l.take 30).length ≤ 30 := by simp; omega
  unfold logFor
  split
  · have := itemsOk_for (l.take 30) 1 0 0 0 (by omega) (by omega) (by omega) (by omega) (by omega) (by omega)
    simp only [Lg.okB, Lg.last, itemsFor_length, this, baseB, if_true, decide_true, Bool.true_and, Bool.and_true, Bool.and_eq_true]
    exact ⟨by simp; omega, decide_eq_true (by show (0 : Int) + _ ≤ _; omega)⟩
  · have := itemsOk_for (l.take 30) 2 0 2 0 (by omega) (by omega) (by omega) (by omega) (by omega) (by omega)
    simp only [Lg.okB, itemsFor_length, this, Bool.and_true, Bool.and_eq_true]
    refine ⟨⟨?_, by simp; omega⟩, decide_eq_true (by show ((pickedN base 12 : Nat) : Int) + _ ≤ _; rw [itemsFor_length]; omega)⟩
    unfold baseB
    rw [if_neg (by omega)]
    simp [numB]; omega

theorem logFor_small (l : List Deed) (base : Int) : (logFor l base).items.length ≤ 30 ∧ 0 ≤ (logFor l base).base ∧ (logFor l base).base ≤ 11 := by
  have h12 := pickedN_lt base (show 0 < 12 by omega)
  have hl : (l.take 30).length ≤ 30 := by simp; omega
  unfold logFor
  split
  · simp only [itemsFor_length]; omega
  · simp only [itemsFor_length]; omega

set_option maxHeartbeats 2000000 in
theorem log_any (s : Value) (l : List Deed) (base : Int) (w : World) (hd : DeedsAt w s l) (b1 : -9223372036854775808 ≤ base) (b2 : base ≤ 9223372036854775807) :
    Calls Try.prog 10 #[s, .int .i64 base] w fun e w' => ∃ r, e = .returned (logV (logFor l base).base (logFor l base).term r) ∧ OwnI w.heap.size w' r (logFor l base).items ∧ Below w.heap.size w w' := by
  have p := fun W => picked_any base 12 W b1 b2 (by omega) (by omega)
  have h12 := pickedN_lt base (show 0 < 12 by omega)
  have HI : Hid (∀ W t, 1 ≤ t → t ≤ 1048576 → Below w.heap.size w W → Calls Try.prog 23 #[s, .int .i64 t] W fun e w' => ∃ r, e = .returned r ∧ OwnI W.heap.size w' r (itemsFor t 0 (l.take 30)) ∧ Below W.heap.size W w') := fun W t h1 h2 hW => items_any s l t W (hd.below hW) h1 h2
  unfold logFor
  generalize pickedN base 12 = q at *
  have P : Hid (∀ W, Calls Try.prog 11 #[.int .i64 base, .int .i64 12] W fun e w' => e = .returned (.int .i64 (q : Nat)) ∧ W = w') := p
  clear p hd
  by_cases hq : q = 0
  · subst hq
    simp only [if_true]
    have HJ : Hid (∀ W, Below w.heap.size w W → Calls Try.prog 23 #[s, .int .i64 1] W fun e w' => ∃ r, e = .returned r ∧ OwnI W.heap.size w' r (itemsFor 1 0 (l.take 30)) ∧ Below W.heap.size W w') := fun W hW => HI.out W 1 (by omega) (by omega) hW
    clear HI
    generalize itemsFor 1 0 (l.take 30) = L at HJ ⊢
    go_enter Try.func10, Try.ntmps10
    go_wp2_with fail
    refine (P.out _).mono ?_
    rintro e w1 ⟨rfl, rfl⟩
    go_wp2_with fail
    refine (HJ.out _ (balloc _ _)).mono ?_
    rintro e w1 ⟨r, rfl, hown, hb1⟩
    have hB1 := bstep (balloc _ _) hb1
    obtain ⟨sa, sc, rfl⟩ := hown.shape
    obtain ⟨d1, e1⟩ := same_block (hb1.block w.heap.size (by simp))
    have hz1 : w.heap.size < w1.heap.size := Nat.lt_of_lt_of_le (by simp) hb1.size
    go_wp2_with fail
    refine bodyPost_ret (v := logV 0 0 (.slice sa L.length sc)) (by simp [results, Try.results10, go_sem, d1]) rfl ⟨_, rfl, ?_, ?_⟩
    · refine OwnI.base (B := w.heap.size + 1) ?_ (by omega)
      have hown' : OwnI (w.heap.size + 1) w1 (.slice sa L.length sc) L := by simpa using hown
      refine OwnI.setCell (OwnI.setCell (OwnI.setCell hown' ?_ _) ?_ _) ?_ _ <;> exact Nat.lt_succ_self _
    · exact ((hB1.setCell (by simp) _).setCell (by simp) _).setCell (by simp) _
  · simp only [hq, if_false]
    have hq0 : ((q : Int) == 0) = false := by simpa using hq
    have HJ : Hid (∀ W, Below w.heap.size w W → Calls Try.prog 23 #[s, .int .i64 2] W fun e w' => ∃ r, e = .returned r ∧ OwnI W.heap.size w' r (itemsFor 2 0 (l.take 30)) ∧ Below W.heap.size W w') := fun W hW => HI.out W 2 (by omega) (by omega) hW
    clear HI
    generalize itemsFor 2 0 (l.take 30) = L at HJ ⊢
    go_enter Try.func10, Try.ntmps10
    go_wp2_with fail
    refine (P.out _).mono ?_
    rintro e w1 ⟨rfl, rfl⟩
    go_wp2_with fail
    refine (HJ.out _ (balloc _ _)).mono ?_
    rintro e w1 ⟨r, rfl, hown, hb1⟩
    have hB1 := bstep (balloc _ _) hb1
    obtain ⟨sa, sc, rfl⟩ := hown.shape
    obtain ⟨d1, e1⟩ := same_block (hb1.block w.heap.size (by simp))
    have hz1 : w.heap.size < w1.heap.size := Nat.lt_of_lt_of_le (by simp) hb1.size
    go_wp2_with fail
    refine bodyPost_ret (v := logV (q : Nat) 2 (.slice sa L.length sc)) (by simp [results, Try.results10, go_sem, d1]) rfl ⟨_, rfl, ?_, ?_⟩
    · refine OwnI.base (B := w.heap.size + 1) ?_ (by omega)
      have hown' : OwnI (w.heap.size + 1) w1 (.slice sa L.length sc) L := by simpa using hown
      refine OwnI.setCell (OwnI.setCell (OwnI.setCell hown' ?_ _) ?_ _) ?_ _ <;> exact Nat.lt_succ_self _
    · exact ((hB1.setCell (by simp) _).setCell (by simp) _).setCell (by simp) _
end Go.Proofs.Ytpbgadojocgefaa
