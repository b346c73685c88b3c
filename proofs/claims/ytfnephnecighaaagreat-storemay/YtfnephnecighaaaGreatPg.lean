/- A text that a set has not yet stands there. -/
import Derived.Test.YtfnephnecighaaaGreatPf
namespace Go.Proofs.YtfnephnecighaaaGreat
open Go.RowKit
set_option linter.unusedVariables false

set_option maxHeartbeats 8000000 in
theorem set_add (x : Val) (c : Cmd) (p : Nat) (hk : c.k = 11) (hm : x.size < 20) (hi : x.pairs = []) (hs : x.scores = []) (hp : Parts (fun q : ByteArray => cmpS q c.txt) x.items p) (hh : hitB (fun q : ByteArray => cmpS q c.txt) x.items p = false) :
    Does 98 x c { x with items := x.items.take p ++ c.txt :: x.items.drop p } { n := 1 } := by
  intro B N W ps is ss hBN hN ho op oi os
  have n11 : (c.k == 11) = true := by simp [hk]
  have hpl : p ≤ x.items.length := hp.1
  have hlen20 : x.items.length < 20 := by unfold Val.size at hm; omega
  obtain rfl := ho.p.2 hi
  obtain rfl := ho.s.2 hs
  obtain ⟨ia, ic, rfl⟩ := ownsRow_shape ho.i.1
  obtain ⟨n0, n1, n2, n3, hb0, hz0⟩ := four_at W (valO x.kind x.text x.count (.slice none 0 0) (.slice ia x.items.length ic) (.slice none 0 0)) (cmdC c) (valO 0 ⟨#[]⟩ 0 (.slice none 0 0) (.slice none 0 0) (.slice none 0 0)) (repO 0 ⟨#[]⟩ 0 (.slice none 0 0))
  have hBS := bsearchI c.txt (.slice ia x.items.length ic) x.items p _ ((RowAt.ofOwn lenI ho.i.1 (by omega)).below hb0) hp
  rw [hh] at hBS
  clear hp hh hk
  go_enter Tryz.func98, Tryz.ntmps98
  go_wp2_with fail
  refine hBS.mono ?_
  rintro e w1 ⟨rfl, hb1⟩
  have hB1 := bstep hb0 hb1
  have sz1 : W.heap.size + 4 ≤ w1.heap.size := by rw [← hz0]; exact hb1.size
  have m0 := (hb1.block W.heap.size (by omega)).trans n0
  have m1 := (hb1.block (W.heap.size + 1) (by omega)).trans n1
  have m2 := (hb1.block (W.heap.size + 1 + 1) (by omega)).trans n2
  have m3 := (hb1.block (W.heap.size + 1 + 1 + 1) (by omega)).trans n3
  have hR := addItem_at x p c.txt hm hi hs hpl B N w1 _ _ _ hBN (by omega) (ho.kept hB1) oi
  clear n0 n1 n2 n3 hb1 hBS hb0 ho hi hs
  obtain ⟨c0, f0⟩ := block_cells m0
  obtain ⟨c1, f1⟩ := block_cells m1
  go_wp2_with fail
  refine hR.mono ?_
  rintro e w2 ⟨v2, u2, rfl, hr2, hu2, hK2⟩
  generalize hY : ({ x with items := x.items.take p ++ c.txt :: x.items.drop p } : Val) = y at hr2
  have HY : Hid (({ x with items := x.items.take p ++ c.txt :: x.items.drop p } : Val) = y) := hY
  clear hY
  obtain ⟨pa2, pc2, ia2, ic2, sa2, sc2, rfl⟩ := hr2.repsF.reps.shapes
  obtain ⟨la2, lc2, rfl⟩ := hu2.repRF.rep.shapes
  have k2 := (hK2.block (W.heap.size + 1 + 1) (by omega) (.inr (by omega))).trans m2
  have k3 := (hK2.block (W.heap.size + 1 + 1 + 1) (by omega) (.inr (by omega))).trans m3
  have sz2 := hK2.size
  have hK : Keeps B N W w2 := (Keeps.ofBelow hB1).trans hK2
  have HK : Hid (Keeps B N W w2) := hK
  clear m0 m1 m2 m3 c0 f0 c1 f1 hR hK2 hK
  obtain ⟨c2, f2⟩ := block_cells k2
  obtain ⟨c3, f3⟩ := block_cells k3
  clear k2 k3
  go_wp2_with fail
  refine bodyPost_ret (v := .tuple #[_, _]) (by simp [results, Tryz.results98, go_sem, c2, c3]; exact ⟨rfl, rfl⟩) rfl ⟨_, _, rfl, ?_, ?_, ?_⟩
  · rw [HY.out]
    refine RepsA.mono (N := N) (M := w1.heap.size) ?_ (Nat.le_refl _) (by omega)
    (iterate 10 (refine RepsA.set ?_ (by first | omega | (simp <;> omega)) (by first | omega | (simp <;> omega)) _))
    exact hr2
  · refine RepRA.mono (N := N) (M := w1.heap.size) ?_ (Nat.le_refl _) (by omega)
    (iterate 10 (refine RepRA.set ?_ (by first | omega | (simp <;> omega)) (by first | omega | (simp <;> omega)) _))
    exact hu2
  · (iterate 10 (refine Keeps.setCell ?_ (by first | omega | (simp <;> omega)) _))
    exact HK.out
end Go.Proofs.YtfnephnecighaaaGreat
