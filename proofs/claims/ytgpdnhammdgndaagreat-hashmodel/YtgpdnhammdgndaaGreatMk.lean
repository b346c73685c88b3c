/- Commands that make values of a kind: rostrumkeep.maker. -/
import Derived.Test.YtgpdnhammdgndaaGreatRw
import Derived.Test.YtgpdnhammdgndaaGreatKd
import Derived.Test.YtgpdnhammdgndaaGreatMt
namespace Go.Proofs.YtgpdnhammdgndaaGreat
open Go.RowKit
set_option linter.unusedVariables false

/-- The commands' kinds, by the kinds of values. -/
def mkKind (p : Nat) : Nat := match p with | 0 => 1 | 1 => 3 | 2 => 4 | 3 => 7 | 4 => 11 | _ => 14
/-- The command of a kind and raw numbers. -/
def mkCmd (p : Nat) (r : Raw) : Cmd := cmdFor (mkKind p) r.key r.fld r.n r.txt
theorem mkCmd_fault (p : Nat) (r : Raw) : (mkCmd p r).fault = 0 := by
  unfold mkCmd
  apply cmdFor_fault <;> (unfold mkKind; split <;> omega)
theorem mkCmd_k (p : Nat) (r : Raw) : (mkCmd p r).k = (mkKind p : Nat) := rfl
theorem mkKind_cases (p : Nat) : mkKind p = 1 ∨ mkKind p = 3 ∨ mkKind p = 4 ∨ mkKind p = 7 ∨ mkKind p = 11 ∨ mkKind p = 14 := by unfold mkKind; split <;> omega
theorem mkCmd_store (p : Nat) (r : Raw) : ofStoreB (mkCmd p r).k = false := by
  rw [mkCmd_k]; rcases mkKind_cases p with h | h | h | h | h | h <;> rw [h] <;> rfl

set_option maxHeartbeats 4000000 in
theorem maker_any (kind : Int) (r : Raw) (w : World) (bk : -9223372036854775808 ≤ kind ∧ kind ≤ 9223372036854775807) (hr : r.wf) :
    Calls Tryz.prog 20 #[.int .i64 kind, r.v] w fun e w' => e = .returned (mkCmd (pickedN kind 6) r).v ∧ Below w.heap.size w w' := by
  have p6 := fun W => picked_any kind 6 W bk.1 bk.2 (by omega) (by omega)
  have l6 := pickedN_lt kind (show 0 < 6 by omega)
  generalize pickedN kind 6 = p at p6 l6 ⊢
  obtain ⟨k, key, fld, n, txt⟩ := r
  obtain ⟨b1, b2, b3, b4, b5⟩ := hr
  simp only [i64s] at b1 b2 b3 b4 b5
  have P : Hid (∀ W, Calls Tryz.prog 15 #[.int .i64 kind, .int .i64 6] W fun e w' => e = .returned (.int .i64 (p : Nat)) ∧ W = w') := p6
  clear p6
  have hc := fun kk W (h1 : -9223372036854775808 ≤ kk) (h2 : kk ≤ 9223372036854775807) => command_any kk key fld n txt W ⟨h1, h2⟩ b2 b3 b4 b5
  have HC : ∀ j : Nat, 1 ≤ j → j ≤ 22 → Hid (∀ W, Calls Tryz.prog 16 #[rawV ((j : Int) - 1) key fld n txt] W fun e w' => e = .returned (cmdFor j key fld n txt).v ∧ Below W.heap.size W w') := by
    intro j h1 h2
    have e : 1 + pickedN ((j : Int) - 1) 22 = j := by
      unfold pickedN; rw [if_neg (by omega)]; omega
    have h := fun W => hc ((j : Int) - 1) W (by omega) (by omega)
    rw [e] at h; exact h
  have hp : p = 0 ∨ p = 1 ∨ p = 2 ∨ p = 3 ∨ p = 4 ∨ p = 5 := by omega
  clear hc l6
  rcases hp with rfl | rfl | rfl | rfl | rfl | rfl
  · have H := HC 1 (by omega) (by omega)
    simp only [show ((1 : Nat) : Int) - 1 = 0 by rfl] at H
    show Calls Tryz.prog 20 #[.int .i64 kind, rawV k key fld n txt] w fun e w' => e = .returned (cmdFor 1 key fld n txt).v ∧ Below w.heap.size w w'
    generalize cmdFor 1 key fld n txt = c at H ⊢
    obtain ⟨ck, ckey, cfld, ctxt, cn⟩ := c
    have H' : Hid (∀ W, Calls Tryz.prog 16 #[rawV 0 key fld n txt] W fun e w' => e = .returned (cmdV ck ckey cfld ctxt cn) ∧ Below W.heap.size W w') := H
    clear HC H
    go_enter Tryz.func20, Tryz.ntmps20
    go_wp2_with (go_at_call 15; refine (P.out _).mono ?_; rintro e w' ⟨rfl, rfl⟩)
    refine (H'.out _).mono ?_
    rintro e w1 ⟨rfl, hb1⟩
    have hB0 : Below w.heap.size w (((w.alloc (.cells #[.int .i64 k, .int .i64 key, .int .i64 fld, .int .i64 n, .string txt] 43)).alloc (.cells #[.int .i64 0, .string ⟨#[]⟩, .string ⟨#[]⟩, .string ⟨#[]⟩, .int .i64 0] 28)).alloc (.cells #[.int .i64 1, .int .i64 3, .int .i64 4, .int .i64 7, .int .i64 11, .int .i64 14] 3)) := ((balloc _ _).alloc (by simp) _).alloc (by simp; omega) _
    have hB1 := bstep hB0 hb1
    obtain ⟨c1, f1⟩ := same_block (hb1.block (w.heap.size + 1) (by simp))
    have hz : w.heap.size + 1 < w1.heap.size := Nat.lt_of_lt_of_le (by simp) hb1.size
    clear hB0 hb1
    go_wp2_with fail
    refine bodyPost_ret (v := cmdV ck ckey cfld ctxt cn) (by simp [results, Tryz.results20, go_sem, c1]) rfl ⟨rfl, ?_⟩
    iterate 5 refine Below.setCell ?_ (by simp) _
    exact hB1
  · have H := HC 3 (by omega) (by omega)
    simp only [show ((3 : Nat) : Int) - 1 = 2 by rfl] at H
    show Calls Tryz.prog 20 #[.int .i64 kind, rawV k key fld n txt] w fun e w' => e = .returned (cmdFor 3 key fld n txt).v ∧ Below w.heap.size w w'
    generalize cmdFor 3 key fld n txt = c at H ⊢
    obtain ⟨ck, ckey, cfld, ctxt, cn⟩ := c
    have H' : Hid (∀ W, Calls Tryz.prog 16 #[rawV 2 key fld n txt] W fun e w' => e = .returned (cmdV ck ckey cfld ctxt cn) ∧ Below W.heap.size W w') := H
    clear HC H
    go_enter Tryz.func20, Tryz.ntmps20
    go_wp2_with (go_at_call 15; refine (P.out _).mono ?_; rintro e w' ⟨rfl, rfl⟩)
    refine (H'.out _).mono ?_
    rintro e w1 ⟨rfl, hb1⟩
    have hB0 : Below w.heap.size w (((w.alloc (.cells #[.int .i64 k, .int .i64 key, .int .i64 fld, .int .i64 n, .string txt] 43)).alloc (.cells #[.int .i64 0, .string ⟨#[]⟩, .string ⟨#[]⟩, .string ⟨#[]⟩, .int .i64 0] 28)).alloc (.cells #[.int .i64 1, .int .i64 3, .int .i64 4, .int .i64 7, .int .i64 11, .int .i64 14] 3)) := ((balloc _ _).alloc (by simp) _).alloc (by simp; omega) _
    have hB1 := bstep hB0 hb1
    obtain ⟨c1, f1⟩ := same_block (hb1.block (w.heap.size + 1) (by simp))
    have hz : w.heap.size + 1 < w1.heap.size := Nat.lt_of_lt_of_le (by simp) hb1.size
    clear hB0 hb1
    go_wp2_with fail
    refine bodyPost_ret (v := cmdV ck ckey cfld ctxt cn) (by simp [results, Tryz.results20, go_sem, c1]) rfl ⟨rfl, ?_⟩
    iterate 5 refine Below.setCell ?_ (by simp) _
    exact hB1
  · have H := HC 4 (by omega) (by omega)
    simp only [show ((4 : Nat) : Int) - 1 = 3 by rfl] at H
    show Calls Tryz.prog 20 #[.int .i64 kind, rawV k key fld n txt] w fun e w' => e = .returned (cmdFor 4 key fld n txt).v ∧ Below w.heap.size w w'
    generalize cmdFor 4 key fld n txt = c at H ⊢
    obtain ⟨ck, ckey, cfld, ctxt, cn⟩ := c
    have H' : Hid (∀ W, Calls Tryz.prog 16 #[rawV 3 key fld n txt] W fun e w' => e = .returned (cmdV ck ckey cfld ctxt cn) ∧ Below W.heap.size W w') := H
    clear HC H
    go_enter Tryz.func20, Tryz.ntmps20
    go_wp2_with (go_at_call 15; refine (P.out _).mono ?_; rintro e w' ⟨rfl, rfl⟩)
    refine (H'.out _).mono ?_
    rintro e w1 ⟨rfl, hb1⟩
    have hB0 : Below w.heap.size w (((w.alloc (.cells #[.int .i64 k, .int .i64 key, .int .i64 fld, .int .i64 n, .string txt] 43)).alloc (.cells #[.int .i64 0, .string ⟨#[]⟩, .string ⟨#[]⟩, .string ⟨#[]⟩, .int .i64 0] 28)).alloc (.cells #[.int .i64 1, .int .i64 3, .int .i64 4, .int .i64 7, .int .i64 11, .int .i64 14] 3)) := ((balloc _ _).alloc (by simp) _).alloc (by simp; omega) _
    have hB1 := bstep hB0 hb1
    obtain ⟨c1, f1⟩ := same_block (hb1.block (w.heap.size + 1) (by simp))
    have hz : w.heap.size + 1 < w1.heap.size := Nat.lt_of_lt_of_le (by simp) hb1.size
    clear hB0 hb1
    go_wp2_with fail
    refine bodyPost_ret (v := cmdV ck ckey cfld ctxt cn) (by simp [results, Tryz.results20, go_sem, c1]) rfl ⟨rfl, ?_⟩
    iterate 5 refine Below.setCell ?_ (by simp) _
    exact hB1
  · have H := HC 7 (by omega) (by omega)
    simp only [show ((7 : Nat) : Int) - 1 = 6 by rfl] at H
    show Calls Tryz.prog 20 #[.int .i64 kind, rawV k key fld n txt] w fun e w' => e = .returned (cmdFor 7 key fld n txt).v ∧ Below w.heap.size w w'
    generalize cmdFor 7 key fld n txt = c at H ⊢
    obtain ⟨ck, ckey, cfld, ctxt, cn⟩ := c
    have H' : Hid (∀ W, Calls Tryz.prog 16 #[rawV 6 key fld n txt] W fun e w' => e = .returned (cmdV ck ckey cfld ctxt cn) ∧ Below W.heap.size W w') := H
    clear HC H
    go_enter Tryz.func20, Tryz.ntmps20
    go_wp2_with (go_at_call 15; refine (P.out _).mono ?_; rintro e w' ⟨rfl, rfl⟩)
    refine (H'.out _).mono ?_
    rintro e w1 ⟨rfl, hb1⟩
    have hB0 : Below w.heap.size w (((w.alloc (.cells #[.int .i64 k, .int .i64 key, .int .i64 fld, .int .i64 n, .string txt] 43)).alloc (.cells #[.int .i64 0, .string ⟨#[]⟩, .string ⟨#[]⟩, .string ⟨#[]⟩, .int .i64 0] 28)).alloc (.cells #[.int .i64 1, .int .i64 3, .int .i64 4, .int .i64 7, .int .i64 11, .int .i64 14] 3)) := ((balloc _ _).alloc (by simp) _).alloc (by simp; omega) _
    have hB1 := bstep hB0 hb1
    obtain ⟨c1, f1⟩ := same_block (hb1.block (w.heap.size + 1) (by simp))
    have hz : w.heap.size + 1 < w1.heap.size := Nat.lt_of_lt_of_le (by simp) hb1.size
    clear hB0 hb1
    go_wp2_with fail
    refine bodyPost_ret (v := cmdV ck ckey cfld ctxt cn) (by simp [results, Tryz.results20, go_sem, c1]) rfl ⟨rfl, ?_⟩
    iterate 5 refine Below.setCell ?_ (by simp) _
    exact hB1
  · have H := HC 11 (by omega) (by omega)
    simp only [show ((11 : Nat) : Int) - 1 = 10 by rfl] at H
    show Calls Tryz.prog 20 #[.int .i64 kind, rawV k key fld n txt] w fun e w' => e = .returned (cmdFor 11 key fld n txt).v ∧ Below w.heap.size w w'
    generalize cmdFor 11 key fld n txt = c at H ⊢
    obtain ⟨ck, ckey, cfld, ctxt, cn⟩ := c
    have H' : Hid (∀ W, Calls Tryz.prog 16 #[rawV 10 key fld n txt] W fun e w' => e = .returned (cmdV ck ckey cfld ctxt cn) ∧ Below W.heap.size W w') := H
    clear HC H
    go_enter Tryz.func20, Tryz.ntmps20
    go_wp2_with (go_at_call 15; refine (P.out _).mono ?_; rintro e w' ⟨rfl, rfl⟩)
    refine (H'.out _).mono ?_
    rintro e w1 ⟨rfl, hb1⟩
    have hB0 : Below w.heap.size w (((w.alloc (.cells #[.int .i64 k, .int .i64 key, .int .i64 fld, .int .i64 n, .string txt] 43)).alloc (.cells #[.int .i64 0, .string ⟨#[]⟩, .string ⟨#[]⟩, .string ⟨#[]⟩, .int .i64 0] 28)).alloc (.cells #[.int .i64 1, .int .i64 3, .int .i64 4, .int .i64 7, .int .i64 11, .int .i64 14] 3)) := ((balloc _ _).alloc (by simp) _).alloc (by simp; omega) _
    have hB1 := bstep hB0 hb1
    obtain ⟨c1, f1⟩ := same_block (hb1.block (w.heap.size + 1) (by simp))
    have hz : w.heap.size + 1 < w1.heap.size := Nat.lt_of_lt_of_le (by simp) hb1.size
    clear hB0 hb1
    go_wp2_with fail
    refine bodyPost_ret (v := cmdV ck ckey cfld ctxt cn) (by simp [results, Tryz.results20, go_sem, c1]) rfl ⟨rfl, ?_⟩
    iterate 5 refine Below.setCell ?_ (by simp) _
    exact hB1
  · have H := HC 14 (by omega) (by omega)
    simp only [show ((14 : Nat) : Int) - 1 = 13 by rfl] at H
    show Calls Tryz.prog 20 #[.int .i64 kind, rawV k key fld n txt] w fun e w' => e = .returned (cmdFor 14 key fld n txt).v ∧ Below w.heap.size w w'
    generalize cmdFor 14 key fld n txt = c at H ⊢
    obtain ⟨ck, ckey, cfld, ctxt, cn⟩ := c
    have H' : Hid (∀ W, Calls Tryz.prog 16 #[rawV 13 key fld n txt] W fun e w' => e = .returned (cmdV ck ckey cfld ctxt cn) ∧ Below W.heap.size W w') := H
    clear HC H
    go_enter Tryz.func20, Tryz.ntmps20
    go_wp2_with (go_at_call 15; refine (P.out _).mono ?_; rintro e w' ⟨rfl, rfl⟩)
    refine (H'.out _).mono ?_
    rintro e w1 ⟨rfl, hb1⟩
    have hB0 : Below w.heap.size w (((w.alloc (.cells #[.int .i64 k, .int .i64 key, .int .i64 fld, .int .i64 n, .string txt] 43)).alloc (.cells #[.int .i64 0, .string ⟨#[]⟩, .string ⟨#[]⟩, .string ⟨#[]⟩, .int .i64 0] 28)).alloc (.cells #[.int .i64 1, .int .i64 3, .int .i64 4, .int .i64 7, .int .i64 11, .int .i64 14] 3)) := ((balloc _ _).alloc (by simp) _).alloc (by simp; omega) _
    have hB1 := bstep hB0 hb1
    obtain ⟨c1, f1⟩ := same_block (hb1.block (w.heap.size + 1) (by simp))
    have hz : w.heap.size + 1 < w1.heap.size := Nat.lt_of_lt_of_le (by simp) hb1.size
    clear hB0 hb1
    go_wp2_with fail
    refine bodyPost_ret (v := cmdV ck ckey cfld ctxt cn) (by simp [results, Tryz.results20, go_sem, c1]) rfl ⟨rfl, ?_⟩
    iterate 5 refine Below.setCell ?_ (by simp) _
    exact hB1
end Go.Proofs.YtgpdnhammdgndaaGreat
