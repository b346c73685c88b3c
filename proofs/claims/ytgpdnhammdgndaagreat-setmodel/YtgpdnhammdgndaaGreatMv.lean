/- Lists that are pushed to and popped from: plain lists alone. -/
import Derived.Test.YtgpdnhammdgndaaGreatMtJ
namespace Go.Proofs.YtgpdnhammdgndaaGreat
open Go.RowKit
set_option linter.unusedVariables false
/- Lists that are pushed to. -/
theorem layAt_end {α : Type} (l : List α) (x : α) : layAt l l.length x = l ++ [x] := by unfold layAt; simp
theorem layAt_front {α : Type} (l : List α) (x : α) : layAt l 0 x = x :: l := by unfold layAt; simp
theorem cutAt_last {α : Type} (l : List α) (x : α) : cutAt (l ++ [x]) ((l ++ [x]).length - 1) = l := by unfold cutAt; simp
theorem cutAt_first {α : Type} (l : List α) (x : α) : cutAt (x :: l) 0 = l := by unfold cutAt; simp
theorem list_ok {L : List ByteArray} (h : ListL L) (h1 : 1 ≤ L.length) : OkVal (listX L) := ok_list h1 h.1 h.2
theorem ans_list {L : List ByteArray} (h : ListL L) (h1 : 1 ≤ L.length) {c : Cmd} (hk : 7 ≤ c.k ∧ c.k ≤ 10) : answerV (listX L) c = listV (listX L) c := by
  unfold answerV
  rw [(list_ok h h1).not_none, if_neg (by simp), if_pos]
  · unfold performV
    rw [if_neg (by omega), if_neg (by omega), if_neg (by omega), if_neg (by omega), if_neg (by omega), if_neg (by simp), if_pos rfl]
  · unfold fitsB kindOfI
    rw [if_neg (by omega), if_neg (by omega), if_neg (by omega), if_neg (by omega), if_neg (by omega), if_pos hk]; simp
theorem kept_some {L : List ByteArray} (h : 1 ≤ L.length) : keptV (listX L) = listX L := kept_kind (fun _ => by rw [size_list]; exact h)
theorem push_does {L : List ByteArray} {c : Cmd} (h : ListL L) (h1 : 1 ≤ L.length) (hl : L.length < 20) (hk : c.k = 7) (hc : c.fault = 0) : refusalI (listX L) c = 0 ∧ doV (listX L) c = listX (L ++ [c.txt]) ∧ doR (listX L) c = { n := (L.length : Int) + 1 } := by
  have hr := Well.ref (.inr (list_ok h h1)) hc (by simp [ofStoreB]; omega)
  have ha := ans_list h h1 (c := c) (by omega)
  have hv : listV (listX L) c = (listX (L ++ [c.txt]), { n := (L.length : Int) + 1 }) := by
    unfold listV
    rw [if_pos hk, size_list, if_neg (by omega), layAt_end]
  refine ⟨hr, ?_, ?_⟩
  · unfold doV; rw [hr, ha, hv]; simp; exact kept_some (by simp)
  · unfold doR; rw [hr, ha, hv]; simp
theorem front_does {L : List ByteArray} {c : Cmd} (h : ListL L) (h1 : 1 ≤ L.length) (hl : L.length < 20) (hk : c.k = 8) (hc : c.fault = 0) : refusalI (listX L) c = 0 ∧ doV (listX L) c = listX (c.txt :: L) ∧ doR (listX L) c = { n := (L.length : Int) + 1 } := by
  have hr := Well.ref (.inr (list_ok h h1)) hc (by simp [ofStoreB]; omega)
  have ha := ans_list h h1 (c := c) (by omega)
  have hv : listV (listX L) c = (listX (c.txt :: L), { n := (L.length : Int) + 1 }) := by
    unfold listV
    rw [if_neg (by omega), if_pos hk, size_list, if_neg (by omega), layAt_front]
  refine ⟨hr, ?_, ?_⟩
  · unfold doV; rw [hr, ha, hv]; simp; exact kept_some (by simp)
  · unfold doR; rw [hr, ha, hv]; simp
theorem pop_does {L : List ByteArray} {t : ByteArray} {c : Cmd} (h : ListL (L ++ [t])) (h1 : 1 ≤ L.length) (hk : c.k = 9) (hc : c.fault = 0) : refusalI (listX (L ++ [t])) c = 0 ∧ doV (listX (L ++ [t])) c = listX L ∧ doR (listX (L ++ [t])) c = { text := t } := by
  have hr := Well.ref (.inr (list_ok h (by simp))) hc (by simp [ofStoreB]; omega)
  have ha := ans_list h (by simp) (c := c) (by omega)
  have hv : listV (listX (L ++ [t])) c = (listX L, { text := t }) := by
    unfold listV
    rw [if_neg (by omega), if_neg (by omega), if_pos hk, cutAt_last]; simp
  refine ⟨hr, ?_, ?_⟩
  · unfold doV; rw [hr, ha, hv]; simp; exact kept_some h1
  · unfold doR; rw [hr, ha, hv]; simp
theorem shift_does {L : List ByteArray} {t : ByteArray} {c : Cmd} (h : ListL (t :: L)) (h1 : 1 ≤ L.length) (hk : c.k = 10) (hc : c.fault = 0) : refusalI (listX (t :: L)) c = 0 ∧ doV (listX (t :: L)) c = listX L ∧ doR (listX (t :: L)) c = { text := t } := by
  have hr := Well.ref (.inr (list_ok h (by simp))) hc (by simp [ofStoreB]; omega)
  have ha := ans_list h (by simp) (c := c) (by omega)
  have hv : listV (listX (t :: L)) c = (listX L, { text := t }) := by
    unfold listV
    rw [if_neg (by omega), if_neg (by omega), if_neg (by omega), cutAt_first]; simp
  refine ⟨hr, ?_, ?_⟩
  · unfold doV; rw [hr, ha, hv]; simp; exact kept_some h1
  · unfold doR; rw [hr, ha, hv]; simp
theorem push_none {c : Cmd} (hk : c.k = 7) (hc : c.fault = 0) : doV (emptyVal 0) c = listX [c.txt] := by
  have hr := Well.ref (.inl rfl) hc (by simp [ofStoreB]; omega)
  have ha : answerV (emptyVal 0) c = (listX [c.txt], { n := 1 }) := by
    unfold answerV
    rw [none_empty, if_pos rfl, if_pos (by simp [makesB]; omega), show kindOfI c.k = 4 by rw [hk]; rfl]
    simp [performV, listV, hk, emptyVal, Val.size, layAt]
  unfold doV
  rw [hr, ha]; simp; exact kept_some (by simp)
end Go.Proofs.YtgpdnhammdgndaaGreat
