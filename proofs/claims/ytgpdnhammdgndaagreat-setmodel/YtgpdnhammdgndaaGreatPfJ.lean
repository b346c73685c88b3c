/- What is put into a value's own list of texts, at a place. -/
import Derived.Test.YtgpdnhammdgndaaGreatPaJ
namespace Go.Proofs.YtgpdnhammdgndaaGreat
open Go.RowKit
set_option linter.unusedVariables false

set_option maxHeartbeats 8000000 in
theorem insertItem_at (x : Val) (i : Nat) (t : ByteArray) (hm : x.size < 20) (hi : x.pairs = []) (hs : x.scores = []) (hl : i ≤ x.items.length) (B N : Nat) (W : World) (ps is ss : Value) (hBN : B ≤ N) (hN : N ≤ W.heap.size) (ho : OwnLists B W ps is ss x) (oi : OwnIn N is) :
    Calls Tryz.prog 98 #[valV x.kind x.text x.count ps is ss, .int .i64 (i : Int), .string t] W fun e w' => ∃ v u, e = .returned (.tuple #[v, u]) ∧ RepsA B N W.heap.size w' v { x with items := x.items.take i ++ t :: x.items.drop i } ∧ RepRA B N W.heap.size w' u { n := (x.items.length : Int) + 1 } ∧ Keeps B N W w' := by
  have hlen20 : x.items.length < 20 := by unfold Val.size at hm; omega
  have hrep : Reps W (valV x.kind x.text x.count ps is ss) x := ⟨_, _, _, rfl, ho.lists (by omega)⟩
  obtain rfl := ho.p.2 hi
  obtain rfl := ho.s.2 hs
  obtain ⟨ia, ic, rfl⟩ := ownsRow_shape ho.i.1
  obtain ⟨n0, n1, n2, hb0, hz0⟩ := three_at W (valO x.kind x.text x.count (.slice none 0 0) (.slice ia x.items.length ic) (.slice none 0 0)) (valO 0 ⟨#[]⟩ 0 (.slice none 0 0) (.slice none 0 0) (.slice none 0 0)) (repO 0 ⟨#[]⟩ 0 (.slice none 0 0))
  have hF := isFull_any _ x _ (hrep.below hb0)
  rw [show decide (20 ≤ x.size) = false by simp; omega] at hF
  have hownW := ho.i
  clear hrep ho
  go_enter Tryz.func98, Tryz.ntmps98
  go_wp2_with fail
  refine hF.mono ?_
  rintro e w1 ⟨rfl, hb1⟩
  have hB1 := bstep hb0 hb1
  have sz1 : W.heap.size + 3 ≤ w1.heap.size := by rw [← hz0]; exact hb1.size
  have m0 := (hb1.block W.heap.size (by omega)).trans n0
  have m1 := (hb1.block (W.heap.size + 1) (by omega)).trans n1
  have m2 := (hb1.block (W.heap.size + 1 + 1) (by omega)).trans n2
  have hw1 := (hownW.kept hB1).1
  clear n0 n1 n2 hb1 hF hz0 hb0
  obtain ⟨c0, f0⟩ := block_cells m0
  go_wp2_with fail
  have hnew : (w1.alloc (.cells #[.string t] 9)).heap[w1.heap.size]? = some (.cells #[.string t] 9 (0, 0)) := by show ((_ : Array Obj).push _)[_]? = _; simp
  have hwl := (hownW.kept (hB1.alloc hB1.size (.cells #[.string t] 9))).1
  have hI := insertI_any B i (.slice ia x.items.length ic) x.items t w1.heap.size (w1.alloc (.cells #[.string t] 9)) hwl (by simp; omega) hl (by omega) hnew (fun k hk e => by have := oi k hk; omega)
  refine hI.mono ?_
  rintro e w2 ⟨r, rfl, ho2, hg2, hrb⟩
  obtain ⟨a2, c2, rfl⟩ := ownsRow_shape ho2
  have hnb : ∀ k, W.heap.size ≤ k → some k ≠ (Value.slice ia x.items.length ic).ownBlock := fun k hk e => by have := oi _ e.symm; omega
  have hK : Keeps B N W w2 := (Keeps.ofBelow (hB1.alloc hB1.size (.cells #[.string t] 9))).trans (Keeps.grown hg2 (fun k hk => ⟨(hwl.lt k hk).1, oi k hk⟩))
  have sz2 : w1.heap.size + 1 ≤ w2.heap.size := by have := hg2.size; simp at this; omega
  have k0 := (hg2.block W.heap.size (by simp; omega) (hnb _ (by omega))).trans ((Below.heap_alloc _ _ _ (by omega)).trans m0)
  have k2 := (hg2.block (W.heap.size + 1) (by simp; omega) (hnb _ (by omega))).trans ((Below.heap_alloc _ _ _ (by omega)).trans m1)
  have k3 := (hg2.block (W.heap.size + 1 + 1) (by simp; omega) (hnb _ (by omega))).trans ((Below.heap_alloc _ _ _ (by omega)).trans m2)
  have e0 := own_ne ho2 k0 (by decide)
  have e2 := own_ne ho2 k2 (by decide)
  have e3 := own_ne ho2 k3 (by decide)
  have hlen : (x.items.take i ++ t :: x.items.drop i).length = x.items.length + 1 := by simp; omega
  have HIN : Hid (In B N W.heap.size (.slice a2 (x.items.length + 1) c2)) := (fun k hk => ⟨(ho2.lt k hk).1, by rcases hrb k hk with h | h; exact .inl (oi k h); exact .inr (by simp at h; omega)⟩ : In B N W.heap.size (.slice a2 (x.items.length + 1) c2))
  obtain ⟨L, hL⟩ : ∃ L, L = x.items.take i ++ t :: x.items.drop i := ⟨_, rfl⟩
  rw [← hL] at ho2 hlen
  have HLI : Hid (L = x.items.take i ++ t :: x.items.drop i) := hL
  have HO : Hid (w2.ownsRow B 9 1 (.slice a2 (x.items.length + 1) c2) L.length (L.flatMap encI)) := (by rw [hlen]; exact ho2 : w2.ownsRow B 9 1 (.slice a2 (x.items.length + 1) c2) L.length (L.flatMap encI))
  have HE : Hid ((Value.slice a2 (x.items.length + 1) c2).ownBlock ≠ some W.heap.size ∧ (Value.slice a2 (x.items.length + 1) c2).ownBlock ≠ some (W.heap.size + 1) ∧ (Value.slice a2 (x.items.length + 1) c2).ownBlock ≠ some (W.heap.size + 1 + 1)) := ⟨e0, e2, e3⟩
  have HK : Hid (Keeps B N W w2) := hK
  have HL : Hid (L.length ≤ 140737488355328) := (by rw [hlen]; omega : L.length ≤ 140737488355328)
  clear m0 m1 m2 c0 f0 hg2 hnb hK e0 e2 e3 ho2 hlen hrb hL hI hwl hw1 hownW hnew
  obtain ⟨c0, f0⟩ := block_cells k0
  obtain ⟨c2', f2⟩ := block_cells k2
  obtain ⟨c3, f3⟩ := block_cells k3
  clear k0 k2 k3
  have q0 : W.heap.size < w2.heap.size := by omega
  go_wp2_with fail
  go_region
  all_goals
    go_wp2_with fail
    refine bodyPost_ret (v := .tuple #[valV x.kind x.text x.count (.slice none 0 0) (.slice a2 (x.items.length + 1) c2) (.slice none 0 0), repV 0 ⟨#[]⟩ ((x.items.length : Int) + 1) (.slice none 0 0)]) (by simp [results, Tryz.results98, go_sem, c2', c3]) rfl ?_
    rw [← HLI.out]
    refine ⟨_, _, rfl, ⟨_, _, _, rfl, ⟨(by show RowAt 2 encP _ (.slice none 0 0) x.pairs; rw [hi]; exact RowAt.nil _ _ _), RowAt.ofOwn lenI (base := B) (e := 9) ?_ HL.out, (by show RowAt 2 encS _ (.slice none 0 0) x.scores; rw [hs]; exact RowAt.nil _ _ _)⟩, In.nil _ _ _, ?_, In.nil _ _ _⟩, ⟨_, rfl, RowAt.nil _ _ _, In.nil _ _ _⟩, ?_⟩
    · refine own_drew ?_
      (iterate 11 (refine own_set ?_ (by first | exact HE.out.1 | exact HE.out.2.1 | exact HE.out.2.2) _))
      exact HO.out
    · exact HIN.out
    · refine Keeps.drew ?_
      (iterate 11 (refine Keeps.setCell ?_ (by first | omega | (simp <;> omega)) _))
      exact HK.out
set_option maxHeartbeats 8000000 in
theorem addItem_at (x : Val) (i : Nat) (t : ByteArray) (hm : x.size < 20) (hi : x.pairs = []) (hs : x.scores = []) (hl : i ≤ x.items.length) (B N : Nat) (W : World) (ps is ss : Value) (hBN : B ≤ N) (hN : N ≤ W.heap.size) (ho : OwnLists B W ps is ss x) (oi : OwnIn N is) :
    Calls Tryz.prog 101 #[valV x.kind x.text x.count ps is ss, .int .i64 (i : Int), .bool false, .string t] W fun e w' => ∃ v u, e = .returned (.tuple #[v, u]) ∧ RepsA B N W.heap.size w' v { x with items := x.items.take i ++ t :: x.items.drop i } ∧ RepRA B N W.heap.size w' u { n := 1 } ∧ Keeps B N W w' := by
  have hlen20 : x.items.length < 20 := by unfold Val.size at hm; omega
  have hrep : Reps W (valV x.kind x.text x.count ps is ss) x := ⟨_, _, _, rfl, ho.lists (by omega)⟩
  obtain rfl := ho.p.2 hi
  obtain rfl := ho.s.2 hs
  obtain ⟨ia, ic, rfl⟩ := ownsRow_shape ho.i.1
  obtain ⟨n0, n1, n2, hb0, hz0⟩ := three_at W (valO x.kind x.text x.count (.slice none 0 0) (.slice ia x.items.length ic) (.slice none 0 0)) (valO 0 ⟨#[]⟩ 0 (.slice none 0 0) (.slice none 0 0) (.slice none 0 0)) (repO 0 ⟨#[]⟩ 0 (.slice none 0 0))
  have hF := isFull_any _ x _ (hrep.below hb0)
  rw [show decide (20 ≤ x.size) = false by simp; omega] at hF
  have hownW := ho.i
  clear hrep ho
  go_enter Tryz.func101, Tryz.ntmps101
  go_wp2_with fail
  refine hF.mono ?_
  rintro e w1 ⟨rfl, hb1⟩
  have hB1 := bstep hb0 hb1
  have sz1 : W.heap.size + 3 ≤ w1.heap.size := by rw [← hz0]; exact hb1.size
  have m0 := (hb1.block W.heap.size (by omega)).trans n0
  have m1 := (hb1.block (W.heap.size + 1) (by omega)).trans n1
  have m2 := (hb1.block (W.heap.size + 1 + 1) (by omega)).trans n2
  have hw1 := (hownW.kept hB1).1
  clear n0 n1 n2 hb1 hF hz0 hb0
  obtain ⟨c0, f0⟩ := block_cells m0
  go_wp2_with fail
  have hnew : (w1.alloc (.cells #[.string t] 9)).heap[w1.heap.size]? = some (.cells #[.string t] 9 (0, 0)) := by show ((_ : Array Obj).push _)[_]? = _; simp
  have hwl := (hownW.kept (hB1.alloc hB1.size (.cells #[.string t] 9))).1
  have hI := insertI_any B i (.slice ia x.items.length ic) x.items t w1.heap.size (w1.alloc (.cells #[.string t] 9)) hwl (by simp; omega) hl (by omega) hnew (fun k hk e => by have := oi k hk; omega)
  refine hI.mono ?_
  rintro e w2 ⟨r, rfl, ho2, hg2, hrb⟩
  obtain ⟨a2, c2, rfl⟩ := ownsRow_shape ho2
  have hnb : ∀ k, W.heap.size ≤ k → some k ≠ (Value.slice ia x.items.length ic).ownBlock := fun k hk e => by have := oi _ e.symm; omega
  have hK : Keeps B N W w2 := (Keeps.ofBelow (hB1.alloc hB1.size (.cells #[.string t] 9))).trans (Keeps.grown hg2 (fun k hk => ⟨(hwl.lt k hk).1, oi k hk⟩))
  have sz2 : w1.heap.size + 1 ≤ w2.heap.size := by have := hg2.size; simp at this; omega
  have k0 := (hg2.block W.heap.size (by simp; omega) (hnb _ (by omega))).trans ((Below.heap_alloc _ _ _ (by omega)).trans m0)
  have k2 := (hg2.block (W.heap.size + 1) (by simp; omega) (hnb _ (by omega))).trans ((Below.heap_alloc _ _ _ (by omega)).trans m1)
  have k3 := (hg2.block (W.heap.size + 1 + 1) (by simp; omega) (hnb _ (by omega))).trans ((Below.heap_alloc _ _ _ (by omega)).trans m2)
  have e0 := own_ne ho2 k0 (by decide)
  have e2 := own_ne ho2 k2 (by decide)
  have e3 := own_ne ho2 k3 (by decide)
  have hlen : (x.items.take i ++ t :: x.items.drop i).length = x.items.length + 1 := by simp; omega
  have HIN : Hid (In B N W.heap.size (.slice a2 (x.items.length + 1) c2)) := (fun k hk => ⟨(ho2.lt k hk).1, by rcases hrb k hk with h | h; exact .inl (oi k h); exact .inr (by simp at h; omega)⟩ : In B N W.heap.size (.slice a2 (x.items.length + 1) c2))
  obtain ⟨L, hL⟩ : ∃ L, L = x.items.take i ++ t :: x.items.drop i := ⟨_, rfl⟩
  rw [← hL] at ho2 hlen
  have HLI : Hid (L = x.items.take i ++ t :: x.items.drop i) := hL
  have HO : Hid (w2.ownsRow B 9 1 (.slice a2 (x.items.length + 1) c2) L.length (L.flatMap encI)) := (by rw [hlen]; exact ho2 : w2.ownsRow B 9 1 (.slice a2 (x.items.length + 1) c2) L.length (L.flatMap encI))
  have HE : Hid ((Value.slice a2 (x.items.length + 1) c2).ownBlock ≠ some W.heap.size ∧ (Value.slice a2 (x.items.length + 1) c2).ownBlock ≠ some (W.heap.size + 1) ∧ (Value.slice a2 (x.items.length + 1) c2).ownBlock ≠ some (W.heap.size + 1 + 1)) := ⟨e0, e2, e3⟩
  have HK : Hid (Keeps B N W w2) := hK
  have HL : Hid (L.length ≤ 140737488355328) := (by rw [hlen]; omega : L.length ≤ 140737488355328)
  clear m0 m1 m2 c0 f0 hg2 hnb hK e0 e2 e3 ho2 hlen hrb hL hI hwl hw1 hownW hnew
  obtain ⟨c0, f0⟩ := block_cells k0
  obtain ⟨c2', f2⟩ := block_cells k2
  obtain ⟨c3, f3⟩ := block_cells k3
  clear k0 k2 k3
  have q0 : W.heap.size < w2.heap.size := by omega
  go_wp2_with fail
  skip
  all_goals
    skip
    refine bodyPost_ret (v := .tuple #[valV x.kind x.text x.count (.slice none 0 0) (.slice a2 (x.items.length + 1) c2) (.slice none 0 0), repV 0 ⟨#[]⟩ (1) (.slice none 0 0)]) (by simp [results, Tryz.results101, go_sem, c2', c3]) rfl ?_
    rw [← HLI.out]
    refine ⟨_, _, rfl, ⟨_, _, _, rfl, ⟨(by show RowAt 2 encP _ (.slice none 0 0) x.pairs; rw [hi]; exact RowAt.nil _ _ _), RowAt.ofOwn lenI (base := B) (e := 9) ?_ HL.out, (by show RowAt 2 encS _ (.slice none 0 0) x.scores; rw [hs]; exact RowAt.nil _ _ _)⟩, In.nil _ _ _, ?_, In.nil _ _ _⟩, ⟨_, rfl, RowAt.nil _ _ _, In.nil _ _ _⟩, ?_⟩
    · skip
      (iterate 11 (refine own_set ?_ (by first | exact HE.out.1 | exact HE.out.2.1 | exact HE.out.2.2) _))
      exact HO.out
    · exact HIN.out
    · skip
      (iterate 11 (refine Keeps.setCell ?_ (by first | omega | (simp <;> omega)) _))
      exact HK.out

set_option maxHeartbeats 4000000 in
theorem list_push (x : Val) (c : Cmd) (hk : c.k = 7) (hm : x.size < 20) (hi : x.pairs = []) (hs : x.scores = []) :
    Does 67 x c { x with items := x.items.take (x.items.length) ++ c.txt :: x.items.drop (x.items.length) } { n := (x.items.length : Int) + 1 } := by
  intro B N W ps is ss hBN hN ho op oi os
  have n7 : (c.k == 7) = true := (by simp [hk])
  have hlt : x.items.length ≤ x.items.length := by omega
  obtain rfl := ho.p.2 hi
  obtain rfl := ho.s.2 hs
  obtain ⟨ia, ic, rfl⟩ := ownsRow_shape ho.i.1
  obtain ⟨n0, n1, n2, n3, hb0, hz0⟩ := four_at W (valO x.kind x.text x.count (.slice none 0 0) (.slice ia x.items.length ic) (.slice none 0 0)) (cmdC c) (valO 0 ⟨#[]⟩ 0 (.slice none 0 0) (.slice none 0 0) (.slice none 0 0)) (repO 0 ⟨#[]⟩ 0 (.slice none 0 0))
  have hR := insertItem_at x (x.items.length) c.txt hm hi hs hlt B N _ _ _ _ hBN (Nat.le_trans hN hb0.size) (ho.kept hb0) oi
  clear hk ho hi hs
  go_enter Tryz.func67, Tryz.ntmps67
  go_wp2_with fail
  refine hR.mono ?_
  rintro e w2 ⟨v2, u2, rfl, hr2, hu2, hK2⟩
  generalize hY : ({ x with items := x.items.take (x.items.length) ++ c.txt :: x.items.drop (x.items.length) } : Val) = y at hr2
  have HY : Hid (({ x with items := x.items.take (x.items.length) ++ c.txt :: x.items.drop (x.items.length) } : Val) = y) := hY
  clear hY
  obtain ⟨pa2, pc2, ia2, ic2, sa2, sc2, rfl⟩ := hr2.repsF.reps.shapes
  obtain ⟨la2, lc2, rfl⟩ := hu2.repRF.rep.shapes
  have k2 := (hK2.block (W.heap.size + 1 + 1) (by omega) (.inr (by omega))).trans n2
  have k3 := (hK2.block (W.heap.size + 1 + 1 + 1) (by omega) (.inr (by omega))).trans n3
  have sz2 := hK2.size
  have hK : Keeps B N W w2 := (Keeps.ofBelow hb0).trans hK2
  have HK : Hid (Keeps B N W w2) := hK
  clear n0 n1 n2 n3 hR hK2 hK
  obtain ⟨c2, f2⟩ := block_cells k2
  obtain ⟨c3, f3⟩ := block_cells k3
  clear k2 k3
  go_wp2_with fail
  refine bodyPost_ret (v := .tuple #[_, _]) (by simp [results, Tryz.results67, go_sem, c2, c3]; exact ⟨rfl, rfl⟩) rfl ⟨_, _, rfl, ?_, ?_, ?_⟩
  · rw [HY.out]
    refine RepsA.mono (N := N) ?_ (Nat.le_refl _) (show W.heap.size ≤ _ from hb0.size)
    (iterate 10 (refine RepsA.set ?_ (by first | omega | (simp <;> omega)) (by first | omega | (simp <;> omega)) _))
    exact hr2
  · refine RepRA.mono (N := N) ?_ (Nat.le_refl _) (show W.heap.size ≤ _ from hb0.size)
    (iterate 10 (refine RepRA.set ?_ (by first | omega | (simp <;> omega)) (by first | omega | (simp <;> omega)) _))
    exact hu2
  · (iterate 10 (refine Keeps.setCell ?_ (by first | omega | (simp <;> omega)) _))
    exact HK.out
set_option maxHeartbeats 4000000 in
theorem list_front (x : Val) (c : Cmd) (hk : c.k = 8) (hm : x.size < 20) (hi : x.pairs = []) (hs : x.scores = []) :
    Does 67 x c { x with items := x.items.take (0) ++ c.txt :: x.items.drop (0) } { n := (x.items.length : Int) + 1 } := by
  intro B N W ps is ss hBN hN ho op oi os
  have n7 : (c.k == 7) = false := (by simp [hk]); have n8 : (c.k == 8) = true := (by simp [hk])
  have hlt : 0 ≤ x.items.length := by omega
  obtain rfl := ho.p.2 hi
  obtain rfl := ho.s.2 hs
  obtain ⟨ia, ic, rfl⟩ := ownsRow_shape ho.i.1
  obtain ⟨n0, n1, n2, n3, hb0, hz0⟩ := four_at W (valO x.kind x.text x.count (.slice none 0 0) (.slice ia x.items.length ic) (.slice none 0 0)) (cmdC c) (valO 0 ⟨#[]⟩ 0 (.slice none 0 0) (.slice none 0 0) (.slice none 0 0)) (repO 0 ⟨#[]⟩ 0 (.slice none 0 0))
  have hR := insertItem_at x (0) c.txt hm hi hs hlt B N _ _ _ _ hBN (Nat.le_trans hN hb0.size) (ho.kept hb0) oi
  clear hk ho hi hs
  go_enter Tryz.func67, Tryz.ntmps67
  go_wp2_with fail
  refine hR.mono ?_
  rintro e w2 ⟨v2, u2, rfl, hr2, hu2, hK2⟩
  generalize hY : ({ x with items := x.items.take (0) ++ c.txt :: x.items.drop (0) } : Val) = y at hr2
  have HY : Hid (({ x with items := x.items.take (0) ++ c.txt :: x.items.drop (0) } : Val) = y) := hY
  clear hY
  obtain ⟨pa2, pc2, ia2, ic2, sa2, sc2, rfl⟩ := hr2.repsF.reps.shapes
  obtain ⟨la2, lc2, rfl⟩ := hu2.repRF.rep.shapes
  have k2 := (hK2.block (W.heap.size + 1 + 1) (by omega) (.inr (by omega))).trans n2
  have k3 := (hK2.block (W.heap.size + 1 + 1 + 1) (by omega) (.inr (by omega))).trans n3
  have sz2 := hK2.size
  have hK : Keeps B N W w2 := (Keeps.ofBelow hb0).trans hK2
  have HK : Hid (Keeps B N W w2) := hK
  clear n0 n1 n2 n3 hR hK2 hK
  obtain ⟨c2, f2⟩ := block_cells k2
  obtain ⟨c3, f3⟩ := block_cells k3
  clear k2 k3
  go_wp2_with fail
  refine bodyPost_ret (v := .tuple #[_, _]) (by simp [results, Tryz.results67, go_sem, c2, c3]; exact ⟨rfl, rfl⟩) rfl ⟨_, _, rfl, ?_, ?_, ?_⟩
  · rw [HY.out]
    refine RepsA.mono (N := N) ?_ (Nat.le_refl _) (show W.heap.size ≤ _ from hb0.size)
    (iterate 10 (refine RepsA.set ?_ (by first | omega | (simp <;> omega)) (by first | omega | (simp <;> omega)) _))
    exact hr2
  · refine RepRA.mono (N := N) ?_ (Nat.le_refl _) (show W.heap.size ≤ _ from hb0.size)
    (iterate 10 (refine RepRA.set ?_ (by first | omega | (simp <;> omega)) (by first | omega | (simp <;> omega)) _))
    exact hu2
  · (iterate 10 (refine Keeps.setCell ?_ (by first | omega | (simp <;> omega)) _))
    exact HK.out
end Go.Proofs.YtgpdnhammdgndaaGreat

/- A text that a set has not yet stands there. -/
namespace Go.Proofs.YtgpdnhammdgndaaGreat
open Go.RowKit
set_option linter.unusedVariables false

set_option maxHeartbeats 8000000 in
theorem set_add (x : Val) (c : Cmd) (p : Nat) (hk : c.k = 11) (hm : x.size < 20) (hi : x.pairs = []) (hs : x.scores = []) (hp : Parts (fun q : ByteArray => cmpS q c.txt) x.items p) (hh : hitB (fun q : ByteArray => cmpS q c.txt) x.items p = false) :
    Does 68 x c { x with items := x.items.take p ++ c.txt :: x.items.drop p } { n := 1 } := by
  intro B N W ps is ss hBN hN ho op oi os
  have n11 : (c.k == 11) = true := by simp [hk]
  have hpl : p ≤ x.items.length := hp.1
  have hlen20 : x.items.length < 20 := by unfold Val.size at hm; omega
  obtain rfl := ho.p.2 hi
  obtain rfl := ho.s.2 hs
  obtain ⟨ia, ic, rfl⟩ := ownsRow_shape ho.i.1
  obtain ⟨n0, n1, n2, n3, hb0, hz0⟩ := four_at W (valO x.kind x.text x.count (.slice none 0 0) (.slice ia x.items.length ic) (.slice none 0 0)) (cmdC c) (valO 0 ⟨#[]⟩ 0 (.slice none 0 0) (.slice none 0 0) (.slice none 0 0)) (repO 0 ⟨#[]⟩ 0 (.slice none 0 0))
  have hBS := bsearchI c.txt (.slice ia x.items.length ic) x.items p _ ((RowAt.ofOwn lenI ho.i.1 (by omega)).below hb0) hp
  rw [hh] at hBS
  clear hp hh hk
  go_enter Tryz.func68, Tryz.ntmps68
  go_wp2_with fail
  refine hBS.mono ?_
  rintro e w1 ⟨rfl, hb1⟩
  have hB1 := bstep hb0 hb1
  have sz1 : W.heap.size + 4 ≤ w1.heap.size := by rw [← hz0]; exact hb1.size
  have m0 := (hb1.block W.heap.size (by omega)).trans n0
  have m1 := (hb1.block (W.heap.size + 1) (by omega)).trans n1
  have m2 := (hb1.block (W.heap.size + 1 + 1) (by omega)).trans n2
  have m3 := (hb1.block (W.heap.size + 1 + 1 + 1) (by omega)).trans n3
  have hR := addItem_at x p c.txt hm hi hs hpl B N w1 _ _ _ hBN (by omega) (ho.kept hB1) oi
  clear n0 n1 n2 n3 hb1 hBS hb0 ho hi hs
  obtain ⟨c0, f0⟩ := block_cells m0
  obtain ⟨c1, f1⟩ := block_cells m1
  go_wp2_with fail
  refine hR.mono ?_
  rintro e w2 ⟨v2, u2, rfl, hr2, hu2, hK2⟩
  generalize hY : ({ x with items := x.items.take p ++ c.txt :: x.items.drop p } : Val) = y at hr2
  have HY : Hid (({ x with items := x.items.take p ++ c.txt :: x.items.drop p } : Val) = y) := hY
  clear hY
  obtain ⟨pa2, pc2, ia2, ic2, sa2, sc2, rfl⟩ := hr2.repsF.reps.shapes
  obtain ⟨la2, lc2, rfl⟩ := hu2.repRF.rep.shapes
  have k2 := (hK2.block (W.heap.size + 1 + 1) (by omega) (.inr (by omega))).trans m2
  have k3 := (hK2.block (W.heap.size + 1 + 1 + 1) (by omega) (.inr (by omega))).trans m3
  have sz2 := hK2.size
  have hK : Keeps B N W w2 := (Keeps.ofBelow hB1).trans hK2
  have HK : Hid (Keeps B N W w2) := hK
  clear m0 m1 m2 m3 c0 f0 c1 f1 hR hK2 hK
  obtain ⟨c2, f2⟩ := block_cells k2
  obtain ⟨c3, f3⟩ := block_cells k3
  clear k2 k3
  go_wp2_with fail
  refine bodyPost_ret (v := .tuple #[_, _]) (by simp [results, Tryz.results68, go_sem, c2, c3]; exact ⟨rfl, rfl⟩) rfl ⟨_, _, rfl, ?_, ?_, ?_⟩
  · rw [HY.out]
    refine RepsA.mono (N := N) (M := w1.heap.size) ?_ (Nat.le_refl _) (by omega)
    (iterate 10 (refine RepsA.set ?_ (by first | omega | (simp <;> omega)) (by first | omega | (simp <;> omega)) _))
    exact hr2
  · refine RepRA.mono (N := N) (M := w1.heap.size) ?_ (Nat.le_refl _) (by omega)
    (iterate 10 (refine RepRA.set ?_ (by first | omega | (simp <;> omega)) (by first | omega | (simp <;> omega)) _))
    exact hu2
  · (iterate 10 (refine Keeps.setCell ?_ (by first | omega | (simp <;> omega)) _))
    exact HK.out
end Go.Proofs.YtgpdnhammdgndaaGreat
