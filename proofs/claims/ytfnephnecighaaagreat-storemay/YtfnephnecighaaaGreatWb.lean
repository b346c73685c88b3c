/- A value's copy: its lists are rows of the call's own; what is empty is nil. -/
import Derived.Test.YtfnephnecighaaaGreatWa
import Derived.Laws.ResultCell
namespace Go.Proofs.YtfnephnecighaaaGreat
open Go.RowKit
set_option linter.unusedVariables false

structure OwnLists (B : Nat) (w : World) (ps is ss : Value) (x : Val) : Prop where
  p : OwnL B 67 2 encP w ps x.pairs
  i : OwnL B 9 1 encI w is x.items
  s : OwnL B 69 2 encS w ss x.scores
theorem OwnLists.kept {B : Nat} {w w' : World} {ps is ss : Value} {x : Val} (h : OwnLists B w ps is ss x) (hb : Below w.heap.size w w') : OwnLists B w' ps is ss x := ⟨h.p.kept hb, h.i.kept hb, h.s.kept hb⟩
theorem OwnLists.lists {B : Nat} {w : World} {ps is ss : Value} {x : Val} (h : OwnLists B w ps is ss x) (hm : x.size ≤ 1048576) : Lists w ps is ss x := by
  unfold Val.size at hm
  exact ⟨RowAt.ofOwn lenP h.p.1 (by omega), RowAt.ofOwn lenI h.i.1 (by omega), RowAt.ofOwn lenS h.s.1 (by omega)⟩

set_option maxHeartbeats 2000000 in
theorem copied_any (v : Value) (x : Val) (w : World) (h : Reps w v x) (hm : x.size ≤ 1048576) :
    Calls Tryz.prog 30 #[v] w fun e w' => ∃ ps is ss, e = .returned (valV x.kind x.text x.count ps is ss) ∧ OwnLists w.heap.size w' ps is ss x ∧ Below w.heap.size w w' := by
  obtain ⟨ps, is, ss, rfl, hl⟩ := h
  unfold Val.size at hm
  have hb0 := (balloc w (valO x.kind x.text x.count ps is ss)).alloc (by simp) (valO 0 ByteArray.empty 0 (.slice none 0 0) (.slice none 0 0) (.slice none 0 0))
  have hp0 := hl.p.below hb0
  go_enter Tryz.func30, Tryz.ntmps30
  go_wp2_with fail
  refine (listP_any _ _ _ hp0 (by omega)).mono ?_
  rintro e w1 ⟨v1, rfl, ho1, hb1⟩
  obtain ⟨a1, c1, rfl⟩ := ownsRow_shape ho1.1
  have hB1 := bstep hb0 hb1
  have ho1 := ho1.base (B' := w.heap.size + 2) (by simp)
  obtain ⟨hc1, hf1⟩ := same_block (hb1.block w.heap.size (by simp; omega))
  obtain ⟨hd1, he1⟩ := same_block (hb1.block (w.heap.size + 1) (by simp))
  have hz1 : w.heap.size + 2 ≤ w1.heap.size := by simpa using hb1.size
  clear hp0 hb1
  have hBs : ∀ u, Below w.heap.size w (w1.setCell ⟨w.heap.size, 3, none⟩ u) := fun u => hB1.setCell (by simp) u
  have hi1 := hl.i.below (hBs (.slice a1 x.pairs.length c1))
  go_wp2_with fail
  refine (listI_any _ _ _ hi1 (by omega)).mono ?_
  rintro e w2 ⟨v2, rfl, ho2, hb2⟩
  obtain ⟨a2, c2, rfl⟩ := ownsRow_shape ho2.1
  have hB2 := bstep (hBs (.slice a1 x.pairs.length c1)) hb2
  have hz1' : w.heap.size + 2 ≤ (w1.setCell ⟨w.heap.size, 3, none⟩ (.slice a1 x.pairs.length c1)).heap.size := by simpa [World.setCell] using hz1
  have ho2 := ho2.base (B' := w.heap.size + 2) hz1'
  have ho1 := (ho1.setCell (a := ⟨w.heap.size, 3, none⟩) (by simp) (.slice a1 x.pairs.length c1)).kept hb2
  obtain ⟨hc2, hf2⟩ := same_block (hb2.block w.heap.size (by omega))
  obtain ⟨hd2, he2⟩ := same_block (hb2.block (w.heap.size + 1) (by omega))
  have hz2 : w.heap.size + 2 ≤ w2.heap.size := Nat.le_trans hz1' hb2.size
  clear hi1 hb2 hBs hz1'
  have hBt : ∀ u, Below w.heap.size w (w2.setCell ⟨w.heap.size, 4, none⟩ u) := fun u => hB2.setCell (by simp) u
  have hs2 := hl.s.below (hBt (.slice a2 x.items.length c2))
  go_wp2_with fail
  refine (listS_any _ _ _ hs2 (by omega)).mono ?_
  rintro e w3 ⟨v3, rfl, ho3, hb3⟩
  obtain ⟨a3, c3, rfl⟩ := ownsRow_shape ho3.1
  have hB3 := bstep (hBt (.slice a2 x.items.length c2)) hb3
  have hz2' : w.heap.size + 2 ≤ (w2.setCell ⟨w.heap.size, 4, none⟩ (.slice a2 x.items.length c2)).heap.size := by simpa [World.setCell] using hz2
  have ho3 := ho3.base (B' := w.heap.size + 2) hz2'
  have ho1 := (ho1.setCell (a := ⟨w.heap.size, 4, none⟩) (by simp) (.slice a2 x.items.length c2)).kept hb3
  have ho2 := (ho2.setCell (a := ⟨w.heap.size, 4, none⟩) (by simp) (.slice a2 x.items.length c2)).kept hb3
  obtain ⟨hc3, hf3⟩ := same_block (hb3.block w.heap.size (by omega))
  obtain ⟨hd3, he3⟩ := same_block (hb3.block (w.heap.size + 1) (by omega))
  have hz3 : w.heap.size + 2 ≤ w3.heap.size := Nat.le_trans hz2' hb3.size
  clear hs2 hb3 hBt hz2'
  go_wp2_with fail
  refine bodyPost_ret (v := valV x.kind x.text x.count (.slice a1 x.pairs.length c1) (.slice a2 x.items.length c2) (.slice a3 x.scores.length c3)) (by simp [results, Tryz.results30, go_sem, hd3, hd2, hd1]) rfl ⟨_, _, _, rfl, ⟨?_, ?_, ?_⟩, ?_⟩
  · refine OwnL.base (B := w.heap.size + 2) ?_ (by omega)
    repeat (refine OwnL.setCell ?_ (by simp) _)
    exact ho1
  · refine OwnL.base (B := w.heap.size + 2) ?_ (by omega)
    repeat (refine OwnL.setCell ?_ (by simp) _)
    exact ho2
  · refine OwnL.base (B := w.heap.size + 2) ?_ (by omega)
    repeat (refine OwnL.setCell ?_ (by simp) _)
    exact ho3
  · repeat (refine Below.setCell ?_ (by simp) _)
    exact hB3
end Go.Proofs.YtfnephnecighaaaGreat
