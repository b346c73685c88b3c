/- What is taken from a value's own lists: a text from an end, a member. -/
import Derived.Test.YtfnephnecighaaaGreatPa
namespace Go.Proofs.YtfnephnecighaaaGreat
open Go.RowKit
set_option linter.unusedVariables false

theorem three_at (w : World) (o0 o1 o2 : Obj) : (((w.alloc o0).alloc o1).alloc o2).heap[w.heap.size]? = some o0 ∧ (((w.alloc o0).alloc o1).alloc o2).heap[w.heap.size + 1]? = some o1 ∧
    (((w.alloc o0).alloc o1).alloc o2).heap[w.heap.size + 1 + 1]? = some o2 ∧ Below w.heap.size w (((w.alloc o0).alloc o1).alloc o2) ∧ (((w.alloc o0).alloc o1).alloc o2).heap.size = w.heap.size + 3 := by
  refine ⟨?_, ?_, ?_, ((balloc w _).alloc (by simp) _).alloc (by simp; omega) _, by simp⟩
  · rw [Below.heap_alloc _ _ _ (by simp; omega), Below.heap_alloc _ _ _ (by simp)]
    show ((_ : Array Obj).push _)[_]? = _
    simp
  · rw [Below.heap_alloc _ _ _ (by simp)]
    show ((_ : Array Obj).push _)[_]? = _
    rw [Array.getElem?_push, if_pos (by simp)]
  · show ((_ : Array Obj).push _)[_]? = _
    rw [Array.getElem?_push, if_pos (by simp)]

set_option maxHeartbeats 8000000 in
theorem removeItem_at (x : Val) (i : Nat) (hm : x.items.length ≤ 1048576) (hi : x.pairs = []) (hs : x.scores = []) (hl : i < x.items.length) (B N : Nat) (W : World) (ps is ss : Value) (hBN : B ≤ N) (hN : N ≤ W.heap.size) (ho : OwnLists B W ps is ss x) (oi : OwnIn N is) :
    Calls Tryz.prog 135 #[valV x.kind x.text x.count ps is ss, .int .i64 (i : Int)] W fun e w' => ∃ v u, e = .returned (.tuple #[v, u]) ∧ RepsA B N W.heap.size w' v { x with items := x.items.take i ++ x.items.drop (i + 1) } ∧ RepRA B N W.heap.size w' u { text := x.items[i] } ∧ Keeps B N W w' := by
  obtain rfl := ho.p.2 hi
  obtain rfl := ho.s.2 hs
  have hps := ho.i.1
  obtain ⟨g, pc, S, rfl, hgB, hgb, hc1, hc2, hc3⟩ := own_open hps (by omega)
  obtain ⟨n0, n1, n2, hb0, hz0⟩ := three_at W (valO x.kind x.text x.count (.slice none 0 0) (.slice (some ⟨g, 0, none⟩) x.items.length pc) (.slice none 0 0)) (valO 0 ⟨#[]⟩ 0 (.slice none 0 0) (.slice none 0 0) (.slice none 0 0)) (repO 0 ⟨#[]⟩ 0 (.slice none 0 0))
  have hgl : g < W.heap.size := (Array.getElem?_eq_some_iff.1 hgb).1
  have cI : (((W.alloc (valO x.kind x.text x.count (.slice none 0 0) (.slice (some ⟨g, 0, none⟩) x.items.length pc) (.slice none 0 0))).alloc (valO 0 ⟨#[]⟩ 0 (.slice none 0 0) (.slice none 0 0) (.slice none 0 0))).alloc (repO 0 ⟨#[]⟩ 0 (.slice none 0 0))).cell? ⟨g, i, none⟩ = some (.string x.items[i]) := by
    rw [World.cell?_of_block (a := ⟨g, i, none⟩) (hb0.block g hgl), (block_cells hgb).1 i]
    have := flat_get 1 encI lenI x.items i hl 0 (by omega)
    simp only [Nat.mul_one, Nat.add_zero, encI, List.getElem?_cons_zero] at this
    rw [List.getElem?_toArray, List.getElem?_append_left (by rw [flat_length lenI]; omega)]
    exact this
  have hown := (ho.i.kept hb0).1
  have hil : (i : Int) < (x.items.length : Int) := by omega
  have hi0 : (0 : Int) ≤ (i : Int) := by omega
  have hw : IntKind.i64.wrap ((i : Int) + 1) = (i : Int) + 1 := by rw [IntKind.wrap_i64]; omega
  have HOW : Hid (World.ownsRow (((W.alloc (valO x.kind x.text x.count (.slice none 0 0) (.slice (some ⟨g, 0, none⟩) x.items.length pc) (.slice none 0 0))).alloc (valO 0 ⟨#[]⟩ 0 (.slice none 0 0) (.slice none 0 0) (.slice none 0 0))).alloc (repO 0 ⟨#[]⟩ 0 (.slice none 0 0))) B 9 1 (.slice (some ⟨g, 0, none⟩) x.items.length pc) x.items.length (x.items.flatMap encI)) := hown
  clear hown hps hgb hc3
  go_enter Tryz.func135, Tryz.ntmps135
  go_wp2_with fail
  generalize ((W.alloc (valO x.kind x.text x.count (.slice none 0 0) (.slice (some ⟨g, 0, none⟩) x.items.length pc) (.slice none 0 0))).alloc (valO 0 ⟨#[]⟩ 0 (.slice none 0 0) (.slice none 0 0) (.slice none 0 0))).alloc (repO 0 ⟨#[]⟩ 0 (.slice none 0 0)) = W0 at n0 n1 n2 hb0 hz0 HOW ⊢
  clear cI
  refine (deleteI_any B i _ x.items W0 HOW.out hl hm).mono ?_
  rintro e w2 ⟨r, rfl, ho2, hg2, hrb⟩
  obtain ⟨a2, c2, rfl⟩ := ownsRow_shape ho2
  have hnb : ∀ k, W.heap.size ≤ k → some k ≠ (Value.slice (some ⟨g, 0, none⟩) x.items.length pc).ownBlock := fun k hk e => by have := oi _ e.symm; omega
  have hK : Keeps B N W w2 := (Keeps.ofBelow hb0).trans (Keeps.grown hg2 (fun k hk => ⟨(HOW.out.lt k hk).1, oi k hk⟩))
  have sz2 := hg2.size
  have k0 := (hg2.block W.heap.size (by omega) (hnb _ (by omega))).trans n0
  have k2 := (hg2.block (W.heap.size + 1) (by omega) (hnb _ (by omega))).trans n1
  have k3 := (hg2.block (W.heap.size + 1 + 1) (by omega) (hnb _ (by omega))).trans n2
  have e0 := own_ne ho2 k0 (by decide)
  have e2 := own_ne ho2 k2 (by decide)
  have e3 := own_ne ho2 k3 (by decide)
  have hlen : (x.items.take i ++ x.items.drop (i + 1)).length = x.items.length - 1 := by simp; omega
  have HO : Hid (w2.ownsRow B 9 1 (.slice a2 (x.items.length - 1) c2) (x.items.take i ++ x.items.drop (i + 1)).length ((x.items.take i ++ x.items.drop (i + 1)).flatMap encI)) := (by rw [hlen]; exact ho2 : w2.ownsRow B 9 1 (.slice a2 (x.items.length - 1) c2) (x.items.take i ++ x.items.drop (i + 1)).length ((x.items.take i ++ x.items.drop (i + 1)).flatMap encI))
  have HE : Hid ((Value.slice a2 (x.items.length - 1) c2).ownBlock ≠ some W.heap.size ∧ (Value.slice a2 (x.items.length - 1) c2).ownBlock ≠ some (W.heap.size + 1) ∧ (Value.slice a2 (x.items.length - 1) c2).ownBlock ≠ some (W.heap.size + 1 + 1)) := ⟨e0, e2, e3⟩
  have HK : Hid (Keeps B N W w2) := hK
  have HIN : Hid (In B N W.heap.size (.slice a2 (x.items.length - 1) c2)) := (fun k hk => ⟨(ho2.lt k hk).1, .inl (oi k (hrb ▸ hk))⟩ : In B N W.heap.size (.slice a2 (x.items.length - 1) c2))
  have HL : Hid ((x.items.take i ++ x.items.drop (i + 1)).length ≤ 140737488355328) := (by rw [hlen]; omega : (x.items.take i ++ x.items.drop (i + 1)).length ≤ 140737488355328)
  clear n0 n1 n2 hg2 hnb hK e0 e2 e3 ho2 hlen HOW hrb
  obtain ⟨c0, f0⟩ := block_cells k0
  obtain ⟨c2', f2⟩ := block_cells k2
  obtain ⟨c3, f3⟩ := block_cells k3
  clear k0 k2 k3
  have q0 : W.heap.size < w2.heap.size := by omega
  go_wp2_with fail
  refine bodyPost_ret (v := .tuple #[valV x.kind x.text x.count (.slice none 0 0) (.slice a2 (x.items.length - 1) c2) (.slice none 0 0), repV 0 x.items[i] 0 (.slice none 0 0)]) (by simp [results, Tryz.results135, go_sem, c2', c3]) rfl
    ⟨_, _, rfl, ⟨_, _, _, rfl, ⟨(by show RowAt 2 encP _ (.slice none 0 0) x.pairs; rw [hi]; exact RowAt.nil _ _ _), RowAt.ofOwn lenI (base := B) (e := 9) ?_ HL.out, (by show RowAt 2 encS _ (.slice none 0 0) x.scores; rw [hs]; exact RowAt.nil _ _ _)⟩, In.nil _ _ _, ?_, In.nil _ _ _⟩, ⟨_, rfl, RowAt.nil _ _ _, In.nil _ _ _⟩, ?_⟩
  · (iterate 11 (refine own_set ?_ (by first | exact HE.out.1 | exact HE.out.2.1 | exact HE.out.2.2) _))
    exact HO.out
  · exact HIN.out
  · (iterate 11 (refine Keeps.setCell ?_ (by first | omega | (simp <;> omega)) _))
    exact HK.out

set_option maxHeartbeats 4000000 in
theorem list_pop (x : Val) (c : Cmd) (hk : c.k = 9) (hm : x.items.length ≤ 1048576) (hi : x.pairs = []) (hs : x.scores = []) (hl : 0 < x.items.length) :
    Does 97 x c { x with items := x.items.take (x.items.length - 1) ++ x.items.drop (x.items.length - 1 + 1) } { text := x.items[x.items.length - 1]'(by omega) } := by
  intro B N W ps is ss hBN hN ho op oi os
  have n7 : (c.k == 7) = false := (by simp [hk]); have n8 : (c.k == 8) = false := (by simp [hk]); have n9 : (c.k == 9) = true := (by simp [hk])
  have hlt : x.items.length - 1 < x.items.length := by omega
  obtain rfl := ho.p.2 hi
  obtain rfl := ho.s.2 hs
  obtain ⟨ia, ic, rfl⟩ := ownsRow_shape ho.i.1
  obtain ⟨n0, n1, n2, n3, hb0, hz0⟩ := four_at W (valO x.kind x.text x.count (.slice none 0 0) (.slice ia x.items.length ic) (.slice none 0 0)) (cmdC c) (valO 0 ⟨#[]⟩ 0 (.slice none 0 0) (.slice none 0 0) (.slice none 0 0)) (repO 0 ⟨#[]⟩ 0 (.slice none 0 0))
  have hR := removeItem_at x (x.items.length - 1) hm hi hs hlt B N _ _ _ _ hBN (Nat.le_trans hN hb0.size) (ho.kept hb0) oi
  have hw : IntKind.i64.wrap ((x.items.length : Int) - 1) = ((x.items.length - 1 : Nat) : Int) := by rw [IntKind.wrap_i64]; omega
  clear hk ho hi hs
  go_enter Tryz.func97, Tryz.ntmps97
  go_wp2_with fail
  refine hR.mono ?_
  rintro e w2 ⟨v2, u2, rfl, hr2, hu2, hK2⟩
  generalize hY : ({ x with items := x.items.take (x.items.length - 1) ++ x.items.drop (x.items.length - 1 + 1) } : Val) = y at hr2
  have HY : Hid (({ x with items := x.items.take (x.items.length - 1) ++ x.items.drop (x.items.length - 1 + 1) } : Val) = y) := hY
  clear hY
  obtain ⟨pa2, pc2, ia2, ic2, sa2, sc2, rfl⟩ := hr2.repsF.reps.shapes
  obtain ⟨la2, lc2, rfl⟩ := hu2.repRF.rep.shapes
  have k2 := (hK2.block (W.heap.size + 1 + 1) (by omega) (.inr (by omega))).trans n2
  have k3 := (hK2.block (W.heap.size + 1 + 1 + 1) (by omega) (.inr (by omega))).trans n3
  have sz2 := hK2.size
  have hK : Keeps B N W w2 := (Keeps.ofBelow hb0).trans hK2
  have HK : Hid (Keeps B N W w2) := hK
  clear n0 n1 n2 n3 hR hK2 hK
  obtain ⟨c2, f2⟩ := block_cells k2
  obtain ⟨c3, f3⟩ := block_cells k3
  clear k2 k3
  go_wp2_with fail
  refine bodyPost_ret (v := .tuple #[_, _]) (by simp [results, Tryz.results97, go_sem, c2, c3]; exact ⟨rfl, rfl⟩) rfl ⟨_, _, rfl, ?_, ?_, ?_⟩
  · rw [HY.out]
    refine RepsA.mono (N := N) ?_ (Nat.le_refl _) (show W.heap.size ≤ _ from hb0.size)
    (iterate 10 (refine RepsA.set ?_ (by first | omega | (simp <;> omega)) (by first | omega | (simp <;> omega)) _))
    exact hr2
  · refine RepRA.mono (N := N) ?_ (Nat.le_refl _) (show W.heap.size ≤ _ from hb0.size)
    (iterate 10 (refine RepRA.set ?_ (by first | omega | (simp <;> omega)) (by first | omega | (simp <;> omega)) _))
    exact hu2
  · (iterate 10 (refine Keeps.setCell ?_ (by first | omega | (simp <;> omega)) _))
    exact HK.out
set_option maxHeartbeats 4000000 in
theorem list_shift (x : Val) (c : Cmd) (hk : c.k = 10) (hm : x.items.length ≤ 1048576) (hi : x.pairs = []) (hs : x.scores = []) (hl : 0 < x.items.length) :
    Does 97 x c { x with items := x.items.take (0) ++ x.items.drop (0 + 1) } { text := x.items[0]'(by omega) } := by
  intro B N W ps is ss hBN hN ho op oi os
  have n7 : (c.k == 7) = false := (by simp [hk]); have n8 : (c.k == 8) = false := (by simp [hk]); have n9 : (c.k == 9) = false := (by simp [hk])
  have hlt : 0 < x.items.length := by omega
  obtain rfl := ho.p.2 hi
  obtain rfl := ho.s.2 hs
  obtain ⟨ia, ic, rfl⟩ := ownsRow_shape ho.i.1
  obtain ⟨n0, n1, n2, n3, hb0, hz0⟩ := four_at W (valO x.kind x.text x.count (.slice none 0 0) (.slice ia x.items.length ic) (.slice none 0 0)) (cmdC c) (valO 0 ⟨#[]⟩ 0 (.slice none 0 0) (.slice none 0 0) (.slice none 0 0)) (repO 0 ⟨#[]⟩ 0 (.slice none 0 0))
  have hR := removeItem_at x (0) hm hi hs hlt B N _ _ _ _ hBN (Nat.le_trans hN hb0.size) (ho.kept hb0) oi
  have hw : IntKind.i64.wrap ((x.items.length : Int) - 1) = ((x.items.length - 1 : Nat) : Int) := by rw [IntKind.wrap_i64]; omega
  clear hk ho hi hs
  go_enter Tryz.func97, Tryz.ntmps97
  go_wp2_with fail
  refine hR.mono ?_
  rintro e w2 ⟨v2, u2, rfl, hr2, hu2, hK2⟩
  generalize hY : ({ x with items := x.items.take (0) ++ x.items.drop (0 + 1) } : Val) = y at hr2
  have HY : Hid (({ x with items := x.items.take (0) ++ x.items.drop (0 + 1) } : Val) = y) := hY
  clear hY
  obtain ⟨pa2, pc2, ia2, ic2, sa2, sc2, rfl⟩ := hr2.repsF.reps.shapes
  obtain ⟨la2, lc2, rfl⟩ := hu2.repRF.rep.shapes
  have k2 := (hK2.block (W.heap.size + 1 + 1) (by omega) (.inr (by omega))).trans n2
  have k3 := (hK2.block (W.heap.size + 1 + 1 + 1) (by omega) (.inr (by omega))).trans n3
  have sz2 := hK2.size
  have hK : Keeps B N W w2 := (Keeps.ofBelow hb0).trans hK2
  have HK : Hid (Keeps B N W w2) := hK
  clear n0 n1 n2 n3 hR hK2 hK
  obtain ⟨c2, f2⟩ := block_cells k2
  obtain ⟨c3, f3⟩ := block_cells k3
  clear k2 k3
  go_wp2_with fail
  refine bodyPost_ret (v := .tuple #[_, _]) (by simp [results, Tryz.results97, go_sem, c2, c3]; exact ⟨rfl, rfl⟩) rfl ⟨_, _, rfl, ?_, ?_, ?_⟩
  · rw [HY.out]
    refine RepsA.mono (N := N) ?_ (Nat.le_refl _) (show W.heap.size ≤ _ from hb0.size)
    (iterate 10 (refine RepsA.set ?_ (by first | omega | (simp <;> omega)) (by first | omega | (simp <;> omega)) _))
    exact hr2
  · refine RepRA.mono (N := N) ?_ (Nat.le_refl _) (show W.heap.size ≤ _ from hb0.size)
    (iterate 10 (refine RepRA.set ?_ (by first | omega | (simp <;> omega)) (by first | omega | (simp <;> omega)) _))
    exact hu2
  · (iterate 10 (refine Keeps.setCell ?_ (by first | omega | (simp <;> omega)) _))
    exact HK.out
end Go.Proofs.YtfnephnecighaaaGreat
