/- Replies: what the program's check of them makes of them. -/
import Derived.Test.YtnbgncmedippbaaVd
import Derived.Test.YtnbgncmedippbaaCd
namespace Go.Proofs.Ytnbgncmedippbaa
open Go.RowKit
set_option linter.unusedVariables false

def replyFault (code : Int) (text : ByteArray) (n : Int) (l : List ByteArray) : Int :=
  if code < 0 ∨ 13 < code then 3 else if (!isTextB text || decide (20 < l.length) || anyB wrongI l) = true then 1 else if isCountB n = false then 2 else 0

set_option maxHeartbeats 400000 in
theorem replyText_pred (w : World) : PredOf Try.prog valI wrongI 49 #[] w := by
  intro x W _
  show Calls Try.prog 49 #[.string x] W _
  go_enter Try.func49, Try.ntmps49
  go_wp2_with (go_at_call 50; refine (isText_any _ _).mono ?_; rintro e w' ⟨rfl, rfl⟩)
  go_ret
  exact ⟨ret_bool (by simp [wrongI]), Below.refl _ _⟩
theorem replyText_enter : ∀ args w, (callFunc 49 args).run Try.prog w = .ok (.enter 49 args) w := enters_of Try.func49 (by kernel_rfl) rfl

set_option maxHeartbeats 2000000 in
theorem checkReply_any (code : Int) (text : ByteArray) (n : Int) (ls : Value) (l : List ByteArray) (w : World) (h : RowAt 1 encI w ls l) :
    Calls Try.prog 21 #[.agg #[.int .i64 code, .string text, .int .i64 n, ls]] w fun e w' => e = .returned (.int .i64 (replyFault code text n l)) ∧ Below w.heap.size w w' := by
  obtain ⟨la, lc, hls, -⟩ := h.2
  subst hls
  have hb0 := balloc w (.cells #[.int .i64 code, .string text, .int .i64 n, .slice la l.length lc] 45)
  have hP := fun W (hb : Below w.heap.size w W) => replyText_pred w text W hb
  have hC := fun W (hb : Below w.heap.size w W) => containsFuncI 49 #[] wrongI replyText_enter _ _ W (h.below hb) (replyText_pred W)
  have HP : Hid (∀ W, Below w.heap.size w W → Calls Try.prog 49 #[.string text] W fun e w' => e = .returned (.bool (wrongI text)) ∧ Below W.heap.size W w') := hP
  have HC : Hid (∀ W, Below w.heap.size w W → Calls Try.prog 51 #[.slice la l.length lc, .func (.func 49) #[] #[]] W fun e w' => e = .returned (.bool (anyB wrongI l)) ∧ Below W.heap.size W w') := hC
  clear hP hC h
  go_enter Try.func21, Try.ntmps21
  have hfin : ∀ F : Int, (if code < 0 ∨ 13 < code then 3 else if (!isTextB text || decide (20 < l.length) || anyB wrongI l) = true then 1 else if isCountB n = false then 2 else 0) = F → replyFault code text n l = F := fun F h => h
  have HFIN : Hid (∀ F : Int, (if code < 0 ∨ 13 < code then 3 else if (!isTextB text || decide (20 < l.length) || anyB wrongI l) = true then 1 else if isCountB n = false then 2 else 0) = F → replyFault code text n l = F) := hfin
  clear hfin
  generalize anyB wrongI l = aw at HC HFIN
  go_wp2_with (first
    | (go_at_call 49; refine (HP.out _ hb0).mono ?_; rintro e w1 ⟨rfl, hb1⟩; have z1 : w.heap.size < w1.heap.size := (by have := hb1.size; simp at this; omega); obtain ⟨c1, f1⟩ := same_block (hb1.block w.heap.size (by simp)); have hB1 := bstep hb0 hb1; clear hb1; unfold wrongI)
    | (go_at_call 51; refine (HC.out _ hB1).mono ?_; rintro e w2 ⟨rfl, hb2⟩; obtain ⟨c2, f2⟩ := same_block (hb2.block w.heap.size z1); have hB2 := bstep hB1 hb2; clear hb2)
    | (go_at_call 43; refine (isCount_any _ _).mono ?_; rintro e w3 ⟨rfl, rfl⟩))
  all_goals
    go_ret
    refine ⟨ret_int (HFIN.out _ ?_).symm, by first | exact hB2 | exact hB1 | exact hb0⟩
    simp_all
  all_goals
    rw [if_neg (by omega)]
    first
      | (rw [if_neg (by omega)]; done)
      | rw [if_neg (by omega)]
      | rw [if_pos (.inl (by omega))]
      | rw [if_pos (Or.imp (fun h => by omega) id (show (20 : Int) < (l.length : Int) ∨ aw = true by assumption))]
end Go.Proofs.Ytnbgncmedippbaa
