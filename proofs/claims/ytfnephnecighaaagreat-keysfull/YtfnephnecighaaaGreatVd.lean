/- Whether the sizes and the numbers of a value may be. -/
import Derived.Test.YtfnephnecighaaaGreatVbJ
import Derived.Shelf.Abstract
namespace Go.Proofs.YtfnephnecighaaaGreat
open Go.RowKit
set_option linter.unusedVariables false

def wrongP (p : ByteArray × ByteArray) : Bool := !isNameB p.1 || !isTextB p.2
def wrongI (s : ByteArray) : Bool := !isTextB s
def wrongS (p : ByteArray × Int) : Bool := !isTextB p.1
def wrongN (p : ByteArray × Int) : Bool := !isCountB p.2

set_option maxHeartbeats 400000 in
theorem wrongPair_pred (w : World) : PredOf Tryz.prog valP wrongP 109 #[] w := by
  intro x W _
  show Calls Tryz.prog 109 #[.agg #[.string x.1, .string x.2]] W _
  go_enter Tryz.func109, Tryz.ntmps109
  go_wp2_with (first
    | (go_at_call 85; refine (isName_any _ _).mono ?_; rintro e w' ⟨rfl, rfl⟩)
    | (go_at_call 110; refine (isText_any _ _).mono ?_; rintro e w' ⟨rfl, rfl⟩))
  all_goals (go_ret; exact ⟨ret_bool (by simp_all [wrongP]), balloc _ _⟩)

set_option maxHeartbeats 400000 in
theorem wrongItem_pred (w : World) : PredOf Tryz.prog valI wrongI 111 #[] w := by
  intro x W _
  show Calls Tryz.prog 111 #[.string x] W _
  go_enter Tryz.func111, Tryz.ntmps111
  go_wp2_with (go_at_call 110; refine (isText_any _ _).mono ?_; rintro e w' ⟨rfl, rfl⟩)
  go_ret
  exact ⟨ret_bool (by simp [wrongI]), Below.refl _ _⟩

set_option maxHeartbeats 400000 in
theorem wrongScore_pred (w : World) : PredOf Tryz.prog valS wrongS 112 #[] w := by
  intro x W _
  show Calls Tryz.prog 112 #[.agg #[.string x.1, .int .i64 x.2]] W _
  go_enter Tryz.func112, Tryz.ntmps112
  go_wp2_with (go_at_call 110; refine (isText_any _ _).mono ?_; rintro e w' ⟨rfl, rfl⟩)
  go_ret
  exact ⟨ret_bool (by simp [wrongS]), balloc _ _⟩

set_option maxHeartbeats 400000 in
theorem wrongNumber_pred (w : World) : PredOf Tryz.prog valS wrongN 116 #[] w := by
  intro x W _
  show Calls Tryz.prog 116 #[.agg #[.string x.1, .int .i64 x.2]] W _
  go_enter Tryz.func116, Tryz.ntmps116
  go_wp2_with (go_at_call 93; refine (isCount_any _ _).mono ?_; rintro e w' ⟨rfl, rfl⟩)
  go_ret
  exact ⟨ret_bool (by simp [wrongN]), balloc _ _⟩

theorem eg1 : ∀ args w, (callFunc 109 args).run Tryz.prog w = .ok (.enter 109 args) w := enters_of Tryz.func109 (by kernel_rfl) rfl
theorem eg2 : ∀ args w, (callFunc 111 args).run Tryz.prog w = .ok (.enter 111 args) w := enters_of Tryz.func111 (by kernel_rfl) rfl
theorem eg3 : ∀ args w, (callFunc 112 args).run Tryz.prog w = .ok (.enter 112 args) w := enters_of Tryz.func112 (by kernel_rfl) rfl
theorem eg4 : ∀ args w, (callFunc 116 args).run Tryz.prog w = .ok (.enter 116 args) w := enters_of Tryz.func116 (by kernel_rfl) rfl

def Val.sizesB (x : Val) : Bool :=
  !(holdsB x.kind && (decide (x.size < 1) || decide (20 < x.size))) && (isTextB x.text && !anyB wrongP x.pairs && !anyB wrongI x.items && !anyB wrongS x.scores)
def Val.numbersB (x : Val) : Bool := isCountB x.count && !anyB wrongN x.scores

set_option maxHeartbeats 1000000 in
theorem sizesMayBe_any (v : Value) (x : Val) (w : World) (h : Reps w v x) :
    Calls Tryz.prog 88 #[v] w fun e w' => e = .returned (.bool x.sizesB) ∧ Below w.heap.size w w' := by
  obtain ⟨ps, is, ss, rfl, hl⟩ := h
  have he := fun W (hb : Below w.heap.size w W) => elements_any _ x W ⟨ps, is, ss, rfl, hl.below hb⟩
  have HE : Hid (∀ W, Below w.heap.size w W → Calls Tryz.prog 32 #[valV x.kind x.text x.count ps is ss] W fun e w' => e = .returned (.int .i64 (x.size : Nat)) ∧ Below W.heap.size W w') := he
  clear he
  generalize hn : x.size = n at HE
  go_enter Tryz.func88, Tryz.ntmps88
  go_wp2_with fail
  refine (HE.out _ (balloc _ _)).mono ?_
  rintro e w1 ⟨rfl, hb1⟩
  obtain ⟨hc1, hf1⟩ := bcell hb1
  have hz1 : w.heap.size < w1.heap.size := bsize hb1 (by simp)
  have hB1 := bstep (balloc _ _) hb1
  clear hb1
  go_wp2_with (first
    | (go_at_call 31; refine (holdsElements_any _ _).mono ?_; rintro e w' ⟨rfl, rfl⟩)
    | (go_at_call 110; refine (isText_any _ _).mono ?_; rintro e w' ⟨rfl, rfl⟩)
    | (go_at_call 113; refine (containsFuncP _ #[] wrongP eg1 _ _ _ (hl.p.below hB1) (wrongPair_pred _)).mono ?_; rintro e w2 ⟨rfl, hb2⟩; obtain ⟨hc2, hf2⟩ := bcell hb2; have hz2 : w.heap.size < w2.heap.size := bsize hb2 hz1; have hB2 := bstep hB1 hb2; clear hb2)
    | (go_at_call 114; refine (containsFuncI _ #[] wrongI eg2 _ _ _ (hl.i.below hB2) (wrongItem_pred _)).mono ?_; rintro e w3 ⟨rfl, hb3⟩; obtain ⟨hc3, hf3⟩ := bcell hb3; have hz3 : w.heap.size < w3.heap.size := bsize hb3 hz2; have hB3 := bstep hB2 hb3; clear hb3)
    | (go_at_call 115; refine (containsFuncS _ #[] wrongS eg3 _ _ _ (hl.s.below hB3) (wrongScore_pred _)).mono ?_; rintro e w4 ⟨rfl, hb4⟩; have hB4 := bstep hB3 hb4; clear hb4))
  all_goals
    go_ret
    refine ⟨ret_bool ?_, ?_⟩
    · rw [Val.sizesB, hn]
      generalize anyB wrongP x.pairs = b1 at *
      generalize anyB wrongI x.items = b2 at *
      generalize anyB wrongS x.scores = b3 at *
      simp_all <;> omega
    · first | exact hB4 | exact hB3 | exact hB2 | exact hB1

set_option maxHeartbeats 1000000 in
theorem numbersMayBe_any (v : Value) (x : Val) (w : World) (h : Reps w v x) :
    Calls Tryz.prog 89 #[v] w fun e w' => e = .returned (.bool x.numbersB) ∧ Below w.heap.size w w' := by
  obtain ⟨ps, is, ss, rfl, hl⟩ := h
  go_enter Tryz.func89, Tryz.ntmps89
  go_wp2_with (first
    | (go_at_call 93; refine (isCount_any _ _).mono ?_; rintro e w' ⟨rfl, rfl⟩)
    | (go_at_call 115; refine (containsFuncS _ #[] wrongN eg4 _ _ _ (hl.s.below (balloc _ _)) (wrongNumber_pred _)).mono ?_; rintro e w4 ⟨rfl, hb4⟩; have hB4 := bstep (balloc _ _) hb4; clear hb4))
  all_goals
    go_ret
    refine ⟨ret_bool ?_, ?_⟩
    · rw [Val.numbersB]
      generalize anyB wrongN x.scores = b3 at *
      simp_all
    · first | exact hB4 | exact balloc _ _
end Go.Proofs.YtfnephnecighaaaGreat
