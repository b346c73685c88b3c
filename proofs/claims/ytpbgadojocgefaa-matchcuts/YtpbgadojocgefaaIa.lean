/- ledger: fit, own. -/
import Derived.Test.YtpbgadojocgefaaTw
import Derived.Deep.RegionHeld3
import Derived.Deep.RegionWith
namespace Go.Proofs.Ytpbgadojocgefaa
open Go.RowKit
set_option linter.unusedVariables false
set_option maxRecDepth 100000

/-- Whether items fit behind a place of a term. -/
def Lg.fitB (g : Lg) (p q : Int) : Bool := if p < g.base then true else if g.last < p then false else g.termAt p == q

set_option maxHeartbeats 4000000 in
theorem fit_any (g : Lg) (s : Value) (p q : Int) (w : World) (hr : RowI w s g.items) (h0 : 0 ≤ g.base) (h1 : g.base + g.items.length ≤ 1048576) :
    Calls Try.prog 16 #[logV g.base g.term s, .int .i64 p, .int .i64 q] w fun e w' => e = .returned (.bool (g.fitB p q)) ∧ Below w.heap.size w w' := by
  have HP : Hid (∀ W, Calls Try.prog 29 #[logV g.base g.term s, .int .i64 p] W fun e w' => e = .returned (.int .i64 (heldI g.base g.last p)) ∧ Below W.heap.size W w') := fun W => by
    obtain ⟨-, a, cap, rfl, -⟩ := hr
    exact held_any _ _ _ _ _ p W h0 h1
  have hL : g.last = g.base + g.items.length := rfl
  by_cases x1 : p < g.base
  · have e1 : heldI g.base g.last p = 11 := by unfold heldI; rw [if_pos x1]
    have e2 : g.fitB p q = true := by unfold Lg.fitB; rw [if_pos x1]
    rw [e1] at HP
    rw [e2]
    clear hr h0 h1 hL e1 e2 x1
    go_enter Try.func16, Try.ntmps16
    go_wp2_with fail
    refine (HP.out _).mono ?_
    rintro e w1 ⟨rfl, hb1⟩
    have hB1 := bstep (balloc _ _) hb1
    go_wp2_with fail
    go_ret
    exact ⟨rfl, hB1⟩
  · by_cases x2 : g.last < p
    · have e1 : heldI g.base g.last p = 5 := by unfold heldI; rw [if_neg x1, if_pos x2]
      have e2 : g.fitB p q = false := by unfold Lg.fitB; rw [if_neg x1, if_pos x2]
      rw [e1] at HP
      rw [e2]
      clear hr h0 h1 hL e1 e2 x1 x2
      go_enter Try.func16, Try.ntmps16
      go_wp2_with fail
      refine (HP.out _).mono ?_
      rintro e w1 ⟨rfl, hb1⟩
      have hB1 := bstep (balloc _ _) hb1
      go_wp2_with fail
      go_ret
      exact ⟨rfl, hB1⟩
    · have e1 : heldI g.base g.last p = 0 := by unfold heldI; rw [if_neg x1, if_neg x2]
      have e2 : g.fitB p q = (g.termAt p == q) := by unfold Lg.fitB; rw [if_neg x1, if_neg x2]
      rw [e1] at HP
      rw [e2]
      have HT : Hid (∀ W, Below w.heap.size w W → Calls Try.prog 25 #[logV g.base g.term s, .int .i64 p] W fun e w' => e = .returned (.int .i64 (g.termAt p)) ∧ Below W.heap.size W w') := fun W hW =>
        termAt_any g s p W (hr.below hW) h0 h1 (by omega) (by omega)
      generalize g.termAt p = T at *
      obtain ⟨b, t, l⟩ := g
      simp only at *
      clear hr h0 h1 hL e1 e2 x1 x2
      go_enter Try.func16, Try.ntmps16
      go_wp2_with fail
      refine (HP.out _).mono ?_
      rintro e w1 ⟨rfl, hb1⟩
      have hB1 := bstep (balloc _ _) hb1
      obtain ⟨d1, e1⟩ := same_block (hb1.block w.heap.size (by simp))
      have hz1 : w.heap.size < w1.heap.size := Nat.lt_of_lt_of_le (by simp) hb1.size
      clear hb1 HP
      go_wp2_with fail
      refine (HT.out _ hB1).mono ?_
      rintro e w2 ⟨rfl, hb2⟩
      have hB2 := bstep hB1 hb2
      go_wp2_with fail
      go_ret
      exact ⟨rfl, hB2⟩

set_option maxHeartbeats 4000000 in
theorem own_any (b t : Int) (s : Value) (l : List Itm) (w : World) (hr : RowI w s l) (hm : l.length * 104 ≤ 140737488355328) :
    Calls Try.prog 17 #[logV b t s] w fun e w' => ∃ r, e = .returned (logV b t r) ∧ OwnI w.heap.size w' r l ∧ Below w.heap.size w w' := by
  have HL : Hid (∀ W, Below w.heap.size w W → Calls Try.prog 30 #[s] W fun e w' => ∃ r, e = .returned r ∧ OwnI W.heap.size w' r l ∧ Below W.heap.size W w') := fun W hW => listIt_any s l W (hr.below hW) hm
  clear hr
  go_enter Try.func17, Try.ntmps17
  go_wp2_with fail
  obtain ⟨n0, n1, hB0, hs0⟩ := two_at w (logO b t s) (logO 0 0 (.slice none 0 0))
  generalize (w.alloc (logO b t s)).alloc (logO 0 0 (.slice none 0 0)) = V at n0 n1 hB0 hs0 ⊢
  refine (HL.out _ hB0).mono ?_
  rintro e w1 ⟨r, rfl, hown, hb1⟩
  have hB1 := bstep hB0 hb1
  have m0 := (hb1.block _ (lt_at n0)).trans n0
  have m1 := (hb1.block _ (lt_at n1)).trans n1
  have ho : OwnI (w.heap.size + 2) w1 r l := by rw [← hs0]; exact hown
  obtain ⟨sa, sc, rfl⟩ := hown.shape
  obtain ⟨c0, f0⟩ := cellsB m0
  obtain ⟨c1, f1⟩ := cellsB m1
  have hz0 := lt_at m0
  have hz1 := lt_at m1
  clear hown hb1 n0 n1 hB0 hs0 HL m0 m1
  go_wp2_with fail
  refine bodyPost_ret (v := logV b t (.slice sa l.length sc)) (by simp [results, Try.results17, go_sem, c1]) rfl ⟨_, rfl, ?_, ?_⟩
  · refine OwnI.base (B := w.heap.size + 2) ?_ (by omega)
    refine OwnI.setCell (OwnI.setCell (OwnI.setCell (OwnI.setCell ho ?_ _) ?_ _) ?_ _) ?_ _
    · show w.heap.size < w.heap.size + 2; omega
    all_goals (show w.heap.size + 1 < w.heap.size + 2; omega)
  · exact (((hB1.setCell (by simp) _).setCell (by simp) _).setCell (by simp) _).setCell (by simp) _
end Go.Proofs.Ytpbgadojocgefaa
