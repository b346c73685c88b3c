/- A rank's members are texts that were added: short ones, where the commands' texts are short. -/
import Derived.Test.YtgpdnhammdgndaaGreatFwJ
namespace Go.Proofs.YtgpdnhammdgndaaGreat
open Go.RowKit
set_option linter.unusedVariables false

theorem scores_kept {y : Val} : ∀ a ∈ (keptV y).scores, a ∈ y.scores := by
  intro a ha
  unfold keptV at ha
  split at ha
  · exact absurd (show a ∈ ([] : List (ByteArray × Int)) from ha) List.not_mem_nil
  · exact ha
theorem scores_perf (x : Val) (c : Cmd) : ∀ a ∈ (performV x c).1.scores, a ∈ x.scores ∨ a.1 = c.txt := by
  intro a ha
  unfold performV at ha
  split at ha
  · exact absurd (show a ∈ ([] : List (ByteArray × Int)) from ha) List.not_mem_nil
  split at ha
  · exact .inl ha
  split at ha
  · unfold addV at ha
    split at ha <;> exact .inl ha
  split at ha
  · exact .inl ha
  split at ha
  · exact .inl ha
  split at ha
  · unfold hashV at ha
    repeat' split at ha
    all_goals exact .inl ha
  split at ha
  · unfold listV at ha
    repeat' split at ha
    all_goals exact .inl ha
  split at ha
  · unfold setV at ha
    repeat' split at ha
    all_goals exact .inl ha
  · unfold rankV at ha
    split at ha
    · split at ha
      · rcases mem_layAt.1 ha with rfl | h
        · exact .inr rfl
        · exact .inl (mem_cutAt h)
      split at ha
      · exact .inl (mem_cutAt ha)
      · exact .inl ha
    · split at ha
      · split at ha
        · exact .inl ha
        · rcases mem_layAt.1 ha with rfl | h
          · exact .inr rfl
          · exact .inl h
      split at ha
      · exact .inl ha
      · exact .inl ha
theorem scores_do (x : Val) (c : Cmd) : ∀ a ∈ (doV x c).scores, a ∈ x.scores ∨ a.1 = c.txt := by
  intro a ha
  unfold doV at ha
  split at ha
  · exact absurd (show a ∈ ([] : List (ByteArray × Int)) from ha) List.not_mem_nil
  split at ha
  · exact .inl ha
  have ha := scores_kept a ha
  unfold answerV at ha
  split at ha
  · split at ha
    · rcases scores_perf _ _ a ha with h | h
      · exact absurd (show a ∈ ([] : List (ByteArray × Int)) from h) List.not_mem_nil
      · exact .inr h
    · exact .inl ha
  split at ha
  · exact scores_perf _ _ a ha
  · exact .inl ha
theorem mkCmd_short (p : Nat) (r : Raw) : (mkCmd p r).txt.size ≤ 6 := by
  have h := size_rawText r.n r.txt
  unfold mkCmd cmdFor
  simp only
  split
  · exact h
  · show (⟨#[]⟩ : ByteArray).size ≤ 6; decide
theorem foldV_short (p : Nat) : ∀ (l : List Raw) (x : Val), (∀ a ∈ x.scores, a.1.size ≤ 6) → ∀ a ∈ (foldV p x l).scores, a.1.size ≤ 6
  | [], _, h => h
  | r :: l, x, h => foldV_short p l _ (fun a ha => by
      rcases scores_do x (mkCmd p r) a ha with h1 | h1
      · exact h a h1
      · rw [h1]; exact mkCmd_short p r)
theorem fullFor_short (p : Nat) (l : List Raw) : ∀ a ∈ (fullFor p l).scores, a.1.size ≤ 6 := foldV_short p _ _ (fun a ha => absurd (show a ∈ ([] : List (ByteArray × Int)) from ha) List.not_mem_nil)
end Go.Proofs.YtgpdnhammdgndaaGreat
