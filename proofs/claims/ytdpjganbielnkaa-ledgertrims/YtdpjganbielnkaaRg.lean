/- Regions that draw: operations whose guard says no are passed over, all at once. -/
import Derived.Test.YtdpjganbielnkaaRa
import Derived.Deep.RegionWith
namespace Go.Proofs.Ytdpjganbielnkaa
open Go.RowKit
set_option linter.unusedVariables false

/-- The frame behind operations that were passed over: their slots hold nothing. -/
def skipTo : List (Nat × Tmp) → Array Bool → Act → Array Bool × Act
  | [], l, a => (l, a)
  | (i, d) :: r, l, a => skipTo r (l.setIfInBounds i true) (a.put (some d) undef)
/-- May they be passed over, in this order? -/
def skipOk (md : Region.Mode) (ops : Array Oper) : List (Nat × Tmp) → Array Bool → Act → Bool
  | [], _, _ => true
  | (i, d) :: r, l, a => match ops[i]? with
    | none => false
    | some o => decide (o.dst = some d) && Region.noSelect ops && Region.free md ops l i && (Region.ready md ops l).contains i && !(Region.wanted o (yielded ops a.tmps)) && skipOk md ops r (l.setIfInBounds i true) (a.put (some d) undef)

theorem wpAny_skips {P : Program} {md : Region.Mode} {ops : Array Oper} {Q : Exit → Act → World → Prop} {w : World} (hQ : ∀ c a d w, Q (.panic c) (Act.put a (some d) undef) w → Q (.panic c) a w) :
    ∀ (is : List (Nat × Tmp)) (fuel : Nat) (l : Array Bool) (a : Act), skipOk md ops is l a = true → wpAny P md ops Q fuel (skipTo is l a).1 (skipTo is l a).2 w → wpAny P md ops Q (fuel + is.length) l a w := by
  intro is
  induction is with
  | nil => intro fuel l a _ h; exact h
  | cons x r ih =>
    obtain ⟨i, d⟩ := x
    intro fuel l a hok h
    unfold skipOk at hok
    split at hok
    · cases hok
    · rename_i o ho
      simp only [Bool.and_eq_true, decide_eq_true_eq, Bool.not_eq_true'] at hok
      obtain ⟨⟨⟨⟨⟨h1, h2⟩, h3⟩, h4⟩, h5⟩, h6⟩ := hok
      refine wpAny_take (i := i) (v := undef) ho h2 h3 h4 (fun c a w h => hQ c a d w (by rw [h1] at h; exact h)) (Or.inr ⟨h5, rfl⟩) ?_
      rw [h1]
      exact ih fuel _ _ h6 h
end Go.Proofs.Ytdpjganbielnkaa
