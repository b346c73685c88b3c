/- A field is set: the text of one that is there, or one more. -/
import Derived.Test.YtfnephnecighaaaGreatMqJ
import Derived.Deep.DeepCutAuto
namespace Go.Proofs.YtfnephnecighaaaGreat
open Go.RowKit
set_option linter.unusedVariables false

set_option maxHeartbeats 8000000 in
theorem setField_new (x : Val) (i : Nat) (t : ByteArray × ByteArray) (hm : x.size < 20) (hi : x.items = []) (hs : x.scores = []) (hl : i ≤ x.pairs.length) (B N : Nat) (W : World) (ps is ss : Value) (hBN : B ≤ N) (hN : N ≤ W.heap.size) (ho : OwnLists B W ps is ss x) (oi : OwnIn N ps) :
    Calls Tryz.prog 131 #[valV x.kind x.text x.count ps is ss, .int .i64 (i : Int), .bool false, valP t] W fun e w' => ∃ v u, e = .returned (.tuple #[v, u]) ∧ RepsA B N W.heap.size w' v { x with pairs := x.pairs.take i ++ t :: x.pairs.drop i } ∧ RepRA B N W.heap.size w' u { n := 1 } ∧ Keeps B N W w' := by
  have hlen20 : x.pairs.length < 20 := by unfold Val.size at hm; omega
  have hrep : Reps W (valV x.kind x.text x.count ps is ss) x := ⟨_, _, _, rfl, ho.lists (by omega)⟩
  obtain rfl := ho.i.2 hi
  obtain rfl := ho.s.2 hs
  obtain ⟨ia, ic, rfl⟩ := ownsRow_shape ho.p.1
  obtain ⟨t1, t2⟩ := t
  obtain ⟨n0, np, n1, n2, hb0, hz0⟩ := four_at W (valO x.kind x.text x.count (.slice ia x.pairs.length ic) (.slice none 0 0) (.slice none 0 0)) (.cells #[.string t1, .string t2] 67) (valO 0 ⟨#[]⟩ 0 (.slice none 0 0) (.slice none 0 0) (.slice none 0 0)) (repO 0 ⟨#[]⟩ 0 (.slice none 0 0))
  have hF := isFull_any _ x _ (hrep.below hb0)
  rw [show decide (20 ≤ x.size) = false by simp; omega] at hF
  have hownW := ho.p
  clear hrep ho
  go_enter Tryz.func131, Tryz.ntmps131
  go_wp2_with fail
  refine hF.mono ?_
  rintro e w1 ⟨rfl, hb1⟩
  have hB1 := bstep hb0 hb1
  have sz1 : W.heap.size + 4 ≤ w1.heap.size := by rw [← hz0]; exact hb1.size
  have m0 := (hb1.block W.heap.size (by omega)).trans n0
  have mp := (hb1.block (W.heap.size + 1) (by omega)).trans np
  have m1 := (hb1.block (W.heap.size + 1 + 1) (by omega)).trans n1
  have m2 := (hb1.block (W.heap.size + 1 + 1 + 1) (by omega)).trans n2
  have hw1 := (hownW.kept hB1).1
  clear n0 n1 n2 np hb1 hF hz0 hb0
  obtain ⟨c0, f0⟩ := block_cells m0
  obtain ⟨cp, fp⟩ := block_cells mp
  go_wp2_with fail
  have hnew : (w1.alloc (.cells #[.string t1, .string t2] 67)).heap[w1.heap.size]? = some (.cells #[.string t1, .string t2] 67 (0, 0)) := by show ((_ : Array Obj).push _)[_]? = _; simp
  have hwl := (hownW.kept (hB1.alloc hB1.size (.cells #[.string t1, .string t2] 67))).1
  have hI := insertP_any B i (.slice ia x.pairs.length ic) x.pairs (t1, t2) w1.heap.size (w1.alloc (.cells #[.string t1, .string t2] 67)) hwl (by simp; omega) hl (by omega) hnew (fun k hk e => by have := oi k hk; omega)
  refine hI.mono ?_
  rintro e w2 ⟨r, rfl, ho2, hg2, hrb⟩
  obtain ⟨a2, c2, rfl⟩ := ownsRow_shape ho2
  have hnb : ∀ k, W.heap.size ≤ k → some k ≠ (Value.slice ia x.pairs.length ic).ownBlock := fun k hk e => by have := oi _ e.symm; omega
  have hK : Keeps B N W w2 := (Keeps.ofBelow (hB1.alloc hB1.size (.cells #[.string t1, .string t2] 67))).trans (Keeps.grown hg2 (fun k hk => ⟨(hwl.lt k hk).1, oi k hk⟩))
  have sz2 : w1.heap.size + 1 ≤ w2.heap.size := by have := hg2.size; simp at this; omega
  have k0 := (hg2.block W.heap.size (by simp; omega) (hnb _ (by omega))).trans ((Below.heap_alloc _ _ _ (by omega)).trans m0)
  have k2 := (hg2.block (W.heap.size + 1 + 1) (by simp; omega) (hnb _ (by omega))).trans ((Below.heap_alloc _ _ _ (by omega)).trans m1)
  have k3 := (hg2.block (W.heap.size + 1 + 1 + 1) (by simp; omega) (hnb _ (by omega))).trans ((Below.heap_alloc _ _ _ (by omega)).trans m2)
  have e0 := own_ne ho2 k0 (by decide)
  have e2 := own_ne ho2 k2 (by decide)
  have e3 := own_ne ho2 k3 (by decide)
  have hlen : (x.pairs.take i ++ (t1, t2) :: x.pairs.drop i).length = x.pairs.length + 1 := by simp; omega
  have HIN : Hid (In B N W.heap.size (.slice a2 (x.pairs.length + 1) c2)) := (fun k hk => ⟨(ho2.lt k hk).1, by rcases hrb k hk with h | h; exact .inl (oi k h); exact .inr (by simp at h; omega)⟩ : In B N W.heap.size (.slice a2 (x.pairs.length + 1) c2))
  obtain ⟨L, hL⟩ : ∃ L, L = x.pairs.take i ++ (t1, t2) :: x.pairs.drop i := ⟨_, rfl⟩
  rw [← hL] at ho2 hlen
  have HLI : Hid (L = x.pairs.take i ++ (t1, t2) :: x.pairs.drop i) := hL
  have HO : Hid (w2.ownsRow B 67 2 (.slice a2 (x.pairs.length + 1) c2) L.length (L.flatMap encP)) := (by rw [hlen]; exact ho2 : w2.ownsRow B 67 2 (.slice a2 (x.pairs.length + 1) c2) L.length (L.flatMap encP))
  have HE : Hid ((Value.slice a2 (x.pairs.length + 1) c2).ownBlock ≠ some W.heap.size ∧ (Value.slice a2 (x.pairs.length + 1) c2).ownBlock ≠ some (W.heap.size + 1 + 1) ∧ (Value.slice a2 (x.pairs.length + 1) c2).ownBlock ≠ some (W.heap.size + 1 + 1 + 1)) := ⟨e0, e2, e3⟩
  have HK : Hid (Keeps B N W w2) := hK
  have HL : Hid (L.length ≤ 140737488355328) := (by rw [hlen]; omega : L.length ≤ 140737488355328)
  clear m0 m1 m2 mp cp fp c0 f0 hg2 hnb hK e0 e2 e3 ho2 hlen hrb hL hI hwl hw1 hownW hnew
  obtain ⟨c0, f0⟩ := block_cells k0
  obtain ⟨c2', f2⟩ := block_cells k2
  obtain ⟨c3, f3⟩ := block_cells k3
  clear k0 k2 k3
  have q0 : W.heap.size < w2.heap.size := by omega
  go_wp2_with fail
  go_region_with (go_at_call 133; refine (number_any _ _).mono ?_; rintro e w3 ⟨rfl, rfl⟩)
  all_goals
    go_wp2_with fail
    refine bodyPost_ret (v := .tuple #[valV x.kind x.text x.count (.slice a2 (x.pairs.length + 1) c2) (.slice none 0 0) (.slice none 0 0), repV 0 ⟨#[]⟩ 1 (.slice none 0 0)]) (by simp [results, Tryz.results131, go_sem, c2', c3]) rfl ?_
    rw [← HLI.out]
    refine ⟨_, _, rfl, ⟨_, _, _, rfl, ⟨RowAt.ofOwn lenP (base := B) (e := 67) ?_ HL.out, (by show RowAt 1 encI _ (.slice none 0 0) x.items; rw [hi]; exact RowAt.nil _ _ _), (by show RowAt 2 encS _ (.slice none 0 0) x.scores; rw [hs]; exact RowAt.nil _ _ _)⟩, ?_, In.nil _ _ _, In.nil _ _ _⟩, ⟨_, rfl, RowAt.nil _ _ _, In.nil _ _ _⟩, ?_⟩
    · refine own_drew ?_
      (iterate 11 (refine own_set ?_ (by first | exact HE.out.1 | exact HE.out.2.1 | exact HE.out.2.2) _))
      exact HO.out
    · exact HIN.out
    · refine Keeps.drew ?_
      (iterate 11 (refine Keeps.setCell ?_ (by first | omega | (simp <;> omega)) _))
      exact HK.out

theorem flat_set {α : Type} {enc : α → List Value} (a b : Value) (t : α) (ht : enc t = [a, b]) (hk : ∀ x, (enc x).length = 2) : ∀ (l : List α) (i : Nat) (S : List Value), i < l.length → (((l.flatMap enc) ++ S).set (i * 2) a).set (i * 2 + 1) b = (l.set i t).flatMap enc ++ S
  | [], i, S, h => by simp at h
  | x :: r, 0, S, h => by
    obtain ⟨u, v, e⟩ : ∃ u v, enc x = [u, v] := by
      have := hk x
      match enc x, this with
      | [u, v], _ => exact ⟨u, v, rfl⟩
    simp [e, ht]
  | x :: r, i + 1, S, h => by
    obtain ⟨u, v, e⟩ : ∃ u v, enc x = [u, v] := by
      have := hk x
      match enc x, this with
      | [u, v], _ => exact ⟨u, v, rfl⟩
    have := flat_set a b t ht hk r i S (by simpa using h)
    rw [List.flatMap_cons, e, List.set_cons_succ, List.flatMap_cons, e, show (i + 1) * 2 = i * 2 + 1 + 1 by omega]
    simp only [List.cons_append, List.nil_append, List.set_cons_succ]
    rw [this]
theorem store_two {W : World} {g : Nat} {L : List Value} {e : TypeId} (h : W.heap[g]? = some (.cells L.toArray e (0, 0))) (o : Nat) (a b : Value) :
    ((W.setCell ⟨g, o, none⟩ a).setCell ⟨g, o + 1, none⟩ b).heap[g]? = some (.cells ((L.set o a).set (o + 1) b).toArray e (0, 0)) := by
  rw [Go.heap_setCell_same _ g (o + 1) _ e b (Go.heap_setCell_same _ g o _ e a h)]
  simp

set_option maxHeartbeats 8000000 in
theorem setField_old (x : Val) (i : Nat) (t : ByteArray × ByteArray) (hm : x.size ≤ 1048576) (hi : x.items = []) (hs : x.scores = []) (hl : i < x.pairs.length) (B N : Nat) (W : World) (ps is ss : Value) (hBN : B ≤ N) (hN : N ≤ W.heap.size) (ho : OwnLists B W ps is ss x) (oi : OwnIn N ps) :
    Calls Tryz.prog 131 #[valV x.kind x.text x.count ps is ss, .int .i64 (i : Int), .bool true, valP t] W fun e w' => ∃ v u, e = .returned (.tuple #[v, u]) ∧ RepsA B N W.heap.size w' v { x with pairs := x.pairs.set i t } ∧ RepRA B N W.heap.size w' u {} ∧ Keeps B N W w' := by
  have hmL : x.pairs.length ≤ 1048576 := by unfold Val.size at hm; omega
  obtain rfl := ho.i.2 hi
  obtain rfl := ho.s.2 hs
  obtain ⟨g, ic, S, rfl, hgB, hgb, hc1, hc2, hc3⟩ := own_open ho.p.1 (by omega)
  obtain ⟨t1, t2⟩ := t
  obtain ⟨n0, np, n1, n2, hb0, hz0⟩ := four_at W (valO x.kind x.text x.count (.slice (some ⟨g, 0, none⟩) x.pairs.length ic) (.slice none 0 0) (.slice none 0 0)) (.cells #[.string t1, .string t2] 67) (valO 0 ⟨#[]⟩ 0 (.slice none 0 0) (.slice none 0 0) (.slice none 0 0)) (repO 0 ⟨#[]⟩ 0 (.slice none 0 0))
  have hgl : g < W.heap.size := (Array.getElem?_eq_some_iff.1 hgb).1
  have hgN : g < N := oi g rfl
  have hil : (i : Int) < (x.pairs.length : Int) := by omega
  have hi0 : (0 : Int) ≤ (i : Int) := by omega
  have hgb' := (hb0.block g hgl).trans hgb
  have fg : ∀ o, ((((W.alloc (valO x.kind x.text x.count (.slice (some ⟨g, 0, none⟩) x.pairs.length ic) (.slice none 0 0) (.slice none 0 0))).alloc (.cells #[.string t1, .string t2] 67)).alloc (valO 0 ⟨#[]⟩ 0 (.slice none 0 0) (.slice none 0 0) (.slice none 0 0))).alloc (repO 0 ⟨#[]⟩ 0 (.slice none 0 0))).frozen? ⟨g, o, none⟩ = false := (block_cells hgb').2
  have cA : ((((W.alloc (valO x.kind x.text x.count (.slice (some ⟨g, 0, none⟩) x.pairs.length ic) (.slice none 0 0) (.slice none 0 0))).alloc (.cells #[.string t1, .string t2] 67)).alloc (valO 0 ⟨#[]⟩ 0 (.slice none 0 0) (.slice none 0 0) (.slice none 0 0))).alloc (repO 0 ⟨#[]⟩ 0 (.slice none 0 0))).cell? ⟨g, i * 2, none⟩ = some (.string x.pairs[i].1) := by
    rw [(block_cells hgb').1 (i * 2)]
    have := flat_get 2 encP lenP x.pairs i hl 0 (by omega)
    rw [List.getElem?_toArray, List.getElem?_append_left (by rw [flat_length lenP]; omega)]
    simpa [encP] using this
  have cB : ((((W.alloc (valO x.kind x.text x.count (.slice (some ⟨g, 0, none⟩) x.pairs.length ic) (.slice none 0 0) (.slice none 0 0))).alloc (.cells #[.string t1, .string t2] 67)).alloc (valO 0 ⟨#[]⟩ 0 (.slice none 0 0) (.slice none 0 0) (.slice none 0 0))).alloc (repO 0 ⟨#[]⟩ 0 (.slice none 0 0))).cell? ⟨g, i * 2 + 1, none⟩ = some (.string x.pairs[i].2) := by
    rw [(block_cells hgb').1 (i * 2 + 1)]
    have := flat_get 2 encP lenP x.pairs i hl 1 (by omega)
    rw [List.getElem?_toArray, List.getElem?_append_left (by rw [flat_length lenP]; omega)]
    simpa [encP] using this
  have q1 : g ≠ W.heap.size := by omega
  have q2 : g ≠ W.heap.size + 1 := by omega
  have q3 : g ≠ W.heap.size + 1 + 1 := by omega
  have q4 : g ≠ W.heap.size + 1 + 1 + 1 := by omega
  go_enter Tryz.func131, Tryz.ntmps131
  go_wp2_with fail
  have ksame := store_two hgb' (i * 2) (.string t1) (.string t2)
  rw [flat_set (.string t1) (.string t2) (t1, t2) rfl lenP x.pairs i S hl] at ksame
  clear cA cB fg
  generalize ((((W.alloc (valO x.kind x.text x.count (.slice (some ⟨g, 0, none⟩) x.pairs.length ic) (.slice none 0 0) (.slice none 0 0))).alloc (.cells #[.string t1, .string t2] 67)).alloc (valO 0 ⟨#[]⟩ 0 (.slice none 0 0) (.slice none 0 0) (.slice none 0 0))).alloc (repO 0 ⟨#[]⟩ 0 (.slice none 0 0))) = W0 at n0 np n1 n2 hb0 hz0 hgb' ksame ⊢
  have hoth : ∀ k, k ≠ g → ((W0.setCell ⟨g, i * 2, none⟩ (.string t1)).setCell ⟨g, i * 2 + 1, none⟩ (.string t2)).heap[k]? = W0.heap[k]? := fun k hk => (Below.heap_setCell _ _ _ _ hk).trans (Below.heap_setCell _ _ _ _ hk)
  have hK : Keeps B N W ((W0.setCell ⟨g, i * 2, none⟩ (.string t1)).setCell ⟨g, i * 2 + 1, none⟩ (.string t2)) := (Keeps.ofBelow hb0).trans ⟨rfl, rfl, rfl, by simp [World.setCell], fun k hk ho => hoth k (by omega)⟩
  have sz2 : ((W0.setCell ⟨g, i * 2, none⟩ (.string t1)).setCell ⟨g, i * 2 + 1, none⟩ (.string t2)).heap.size = W.heap.size + 4 := by simpa [World.setCell] using hz0
  generalize (W0.setCell ⟨g, i * 2, none⟩ (.string t1)).setCell ⟨g, i * 2 + 1, none⟩ (.string t2) = w2 at ksame hoth hK sz2 ⊢
  have k0 := (hoth _ (by omega)).trans n0
  have k2 := (hoth _ (by omega)).trans n1
  have k3 := (hoth _ (by omega)).trans n2
  obtain ⟨L, hL⟩ : ∃ L, L = x.pairs.set i (t1, t2) := ⟨_, rfl⟩
  have hlen : L.length = x.pairs.length := by rw [hL]; simp
  have ho2 : w2.ownsRow B 67 2 (.slice (some ⟨g, 0, none⟩) x.pairs.length ic) L.length (L.flatMap encP) := by
    rw [hlen]
    refine own_mk (S := S) (by rw [flat_length lenP, hlen]) hgB (by rw [hL]; exact ksame) hc1 hc2 ?_
    rw [List.length_append, flat_length lenP] at hc3 ⊢
    rw [hlen]; exact hc3
  have e0 := own_ne ho2 k0 (by decide)
  have e2 := own_ne ho2 k2 (by decide)
  have e3 := own_ne ho2 k3 (by decide)
  have HLI : Hid (L = x.pairs.set i (t1, t2)) := hL
  have HIN : Hid (In B N W.heap.size (.slice (some ⟨g, 0, none⟩) x.pairs.length ic)) := (fun k hk => ⟨(ho2.lt k hk).1, .inl (oi k hk)⟩ : In B N W.heap.size (.slice (some ⟨g, 0, none⟩) x.pairs.length ic))
  have HO : Hid (w2.ownsRow B 67 2 (.slice (some ⟨g, 0, none⟩) x.pairs.length ic) L.length (L.flatMap encP)) := ho2
  have HE : Hid ((Value.slice (some ⟨g, 0, none⟩) x.pairs.length ic).ownBlock ≠ some W.heap.size ∧ (Value.slice (some ⟨g, 0, none⟩) x.pairs.length ic).ownBlock ≠ some (W.heap.size + 1 + 1) ∧ (Value.slice (some ⟨g, 0, none⟩) x.pairs.length ic).ownBlock ≠ some (W.heap.size + 1 + 1 + 1)) := ⟨e0, e2, e3⟩
  have HK : Hid (Keeps B N W w2) := hK
  have HL : Hid (L.length ≤ 140737488355328) := (by rw [hlen]; omega : L.length ≤ 140737488355328)
  have HLL : Hid (L.length = x.pairs.length) := hlen
  clear n0 n1 n2 np hoth hK e0 e2 e3 ho2 hlen hL hgb hgb' ksame hc3 ho hb0 hz0
  obtain ⟨c0, f0⟩ := block_cells k0
  obtain ⟨c2', f2⟩ := block_cells k2
  obtain ⟨c3, f3⟩ := block_cells k3
  clear k0 k2 k3
  have q0 : W.heap.size < w2.heap.size := by omega
  go_region_with (go_at_call 133; refine (number_any _ _).mono ?_; rintro e w3 ⟨rfl, rfl⟩)
  all_goals
    go_wp2_with fail
    refine bodyPost_ret (v := .tuple #[valV x.kind x.text x.count (.slice (some ⟨g, 0, none⟩) x.pairs.length ic) (.slice none 0 0) (.slice none 0 0), repV 0 ⟨#[]⟩ 0 (.slice none 0 0)]) (by simp [results, Tryz.results131, go_sem, c2', c3]) rfl ?_
    rw [← HLI.out]
    refine ⟨_, _, rfl, ⟨_, _, _, rfl, ⟨RowAt.ofOwn lenP (base := B) (e := 67) ?_ HL.out, (by show RowAt 1 encI _ (.slice none 0 0) x.items; rw [hi]; exact RowAt.nil _ _ _), (by show RowAt 2 encS _ (.slice none 0 0) x.scores; rw [hs]; exact RowAt.nil _ _ _)⟩, ?_, In.nil _ _ _, In.nil _ _ _⟩, ⟨_, rfl, RowAt.nil _ _ _, In.nil _ _ _⟩, ?_⟩
    · refine own_drew ?_
      (iterate 10 (refine own_set ?_ (by first | exact HE.out.1 | exact HE.out.2.1 | exact HE.out.2.2) _))
      exact HO.out
    · exact HIN.out
    · refine Keeps.drew ?_
      (iterate 10 (refine Keeps.setCell ?_ (by first | omega | (simp <;> omega)) _))
      exact HK.out

set_option maxHeartbeats 8000000 in
theorem hash_set_new (x : Val) (c : Cmd) (p : Nat) (hk : c.k = 4) (hm : x.size < 20) (hi : x.items = []) (hs : x.scores = []) (hp : Parts (fun q : ByteArray × ByteArray => cmpS q.1 c.fld) x.pairs p) (hh : hitB (fun q : ByteArray × ByteArray => cmpS q.1 c.fld) x.pairs p = false) :
    Does 96 x c { x with pairs := x.pairs.take p ++ (c.fld, c.txt) :: x.pairs.drop p } { n := 1 } := by
  intro B N W ps is ss hBN hN ho op oi os
  have n4 : (c.k == 4) = true := by simp [hk]
  have hpl : p ≤ x.pairs.length := hp.1
  have hmL : x.pairs.length ≤ 140737488355328 := by unfold Val.size at hm; omega
  obtain rfl := ho.i.2 hi
  obtain rfl := ho.s.2 hs
  obtain ⟨ia, ic, rfl⟩ := ownsRow_shape ho.p.1
  obtain ⟨n0, n1, n2, n3, hb0, hz0⟩ := four_at W (valO x.kind x.text x.count (.slice ia x.pairs.length ic) (.slice none 0 0) (.slice none 0 0)) (cmdC c) (valO 0 ⟨#[]⟩ 0 (.slice none 0 0) (.slice none 0 0) (.slice none 0 0)) (repO 0 ⟨#[]⟩ 0 (.slice none 0 0))
  have hBS := bsearchP 130 #[] c.fld (fun q => cmpS q.1 c.fld) pairCmp_enter (.slice ia x.pairs.length ic) x.pairs p _ ((RowAt.ofOwn lenP ho.p.1 hmL).below hb0) (pairCmp_of c.fld _) hp
  rw [hh] at hBS
  clear hp hh hk
  go_enter Tryz.func96, Tryz.ntmps96
  go_wp2_with fail
  refine hBS.mono ?_
  rintro e w1 ⟨rfl, hb1⟩
  have hB1 := bstep hb0 hb1
  have sz1 : W.heap.size + 4 ≤ w1.heap.size := by rw [← hz0]; exact hb1.size
  have m0 := (hb1.block W.heap.size (by omega)).trans n0
  have m1 := (hb1.block (W.heap.size + 1) (by omega)).trans n1
  have m2 := (hb1.block (W.heap.size + 1 + 1) (by omega)).trans n2
  have m3 := (hb1.block (W.heap.size + 1 + 1 + 1) (by omega)).trans n3
  have hR := setField_new x p (c.fld, c.txt) hm hi hs hpl B N w1 _ _ _ hBN (by omega) (ho.kept hB1) op
  clear n0 n1 n2 n3 hb1 hBS hb0 ho hi hs
  obtain ⟨c0, f0⟩ := block_cells m0
  obtain ⟨c1, f1⟩ := block_cells m1
  go_wp2_with fail
  refine hR.mono ?_
  rintro e w2 ⟨v2, u2, rfl, hr2, hu2, hK2⟩
  generalize hY : ({ x with pairs := x.pairs.take p ++ (c.fld, c.txt) :: x.pairs.drop p } : Val) = y at hr2
  have HY : Hid (({ x with pairs := x.pairs.take p ++ (c.fld, c.txt) :: x.pairs.drop p } : Val) = y) := hY
  clear hY
  obtain ⟨pa2, pc2, ia2, ic2, sa2, sc2, rfl⟩ := hr2.repsF.reps.shapes
  obtain ⟨la2, lc2, rfl⟩ := hu2.repRF.rep.shapes
  have k2 := (hK2.block (W.heap.size + 1 + 1) (by omega) (.inr (by omega))).trans m2
  have k3 := (hK2.block (W.heap.size + 1 + 1 + 1) (by omega) (.inr (by omega))).trans m3
  have sz2 := hK2.size
  have hK : Keeps B N W w2 := (Keeps.ofBelow hB1).trans hK2
  have HK : Hid (Keeps B N W w2) := hK
  clear m0 m1 m2 m3 c0 f0 c1 f1 hR hK2 hK
  obtain ⟨c2, f2⟩ := block_cells k2
  obtain ⟨c3, f3⟩ := block_cells k3
  clear k2 k3
  go_wp2_with fail
  refine bodyPost_ret (v := .tuple #[_, _]) (by simp [results, Tryz.results96, go_sem, c2, c3]; exact ⟨rfl, rfl⟩) rfl ⟨_, _, rfl, ?_, ?_, ?_⟩
  · rw [HY.out]
    refine RepsA.mono (N := N) (M := w1.heap.size) ?_ (Nat.le_refl _) (by omega)
    (iterate 10 (refine RepsA.set ?_ (by first | omega | (simp <;> omega)) (by first | omega | (simp <;> omega)) _))
    exact hr2
  · refine RepRA.mono (N := N) (M := w1.heap.size) ?_ (Nat.le_refl _) (by omega)
    (iterate 10 (refine RepRA.set ?_ (by first | omega | (simp <;> omega)) (by first | omega | (simp <;> omega)) _))
    exact hu2
  · (iterate 10 (refine Keeps.setCell ?_ (by first | omega | (simp <;> omega)) _))
    exact HK.out
set_option maxHeartbeats 8000000 in
theorem hash_set_old (x : Val) (c : Cmd) (p : Nat) (hk : c.k = 4) (hm : x.size ≤ 1048576) (hpl : p < x.pairs.length) (hi : x.items = []) (hs : x.scores = []) (hp : Parts (fun q : ByteArray × ByteArray => cmpS q.1 c.fld) x.pairs p) (hh : hitB (fun q : ByteArray × ByteArray => cmpS q.1 c.fld) x.pairs p = true) :
    Does 96 x c { x with pairs := x.pairs.set p (c.fld, c.txt) } {} := by
  intro B N W ps is ss hBN hN ho op oi os
  have n4 : (c.k == 4) = true := by simp [hk]
  skip
  have hmL : x.pairs.length ≤ 140737488355328 := by unfold Val.size at hm; omega
  obtain rfl := ho.i.2 hi
  obtain rfl := ho.s.2 hs
  obtain ⟨ia, ic, rfl⟩ := ownsRow_shape ho.p.1
  obtain ⟨n0, n1, n2, n3, hb0, hz0⟩ := four_at W (valO x.kind x.text x.count (.slice ia x.pairs.length ic) (.slice none 0 0) (.slice none 0 0)) (cmdC c) (valO 0 ⟨#[]⟩ 0 (.slice none 0 0) (.slice none 0 0) (.slice none 0 0)) (repO 0 ⟨#[]⟩ 0 (.slice none 0 0))
  have hBS := bsearchP 130 #[] c.fld (fun q => cmpS q.1 c.fld) pairCmp_enter (.slice ia x.pairs.length ic) x.pairs p _ ((RowAt.ofOwn lenP ho.p.1 hmL).below hb0) (pairCmp_of c.fld _) hp
  rw [hh] at hBS
  clear hp hh hk
  go_enter Tryz.func96, Tryz.ntmps96
  go_wp2_with fail
  refine hBS.mono ?_
  rintro e w1 ⟨rfl, hb1⟩
  have hB1 := bstep hb0 hb1
  have sz1 : W.heap.size + 4 ≤ w1.heap.size := by rw [← hz0]; exact hb1.size
  have m0 := (hb1.block W.heap.size (by omega)).trans n0
  have m1 := (hb1.block (W.heap.size + 1) (by omega)).trans n1
  have m2 := (hb1.block (W.heap.size + 1 + 1) (by omega)).trans n2
  have m3 := (hb1.block (W.heap.size + 1 + 1 + 1) (by omega)).trans n3
  have hR := setField_old x p (c.fld, c.txt) hm hi hs hpl B N w1 _ _ _ hBN (by omega) (ho.kept hB1) op
  clear n0 n1 n2 n3 hb1 hBS hb0 ho hi hs
  obtain ⟨c0, f0⟩ := block_cells m0
  obtain ⟨c1, f1⟩ := block_cells m1
  go_wp2_with fail
  refine hR.mono ?_
  rintro e w2 ⟨v2, u2, rfl, hr2, hu2, hK2⟩
  generalize hY : ({ x with pairs := x.pairs.set p (c.fld, c.txt) } : Val) = y at hr2
  have HY : Hid (({ x with pairs := x.pairs.set p (c.fld, c.txt) } : Val) = y) := hY
  clear hY
  obtain ⟨pa2, pc2, ia2, ic2, sa2, sc2, rfl⟩ := hr2.repsF.reps.shapes
  obtain ⟨la2, lc2, rfl⟩ := hu2.repRF.rep.shapes
  have k2 := (hK2.block (W.heap.size + 1 + 1) (by omega) (.inr (by omega))).trans m2
  have k3 := (hK2.block (W.heap.size + 1 + 1 + 1) (by omega) (.inr (by omega))).trans m3
  have sz2 := hK2.size
  have hK : Keeps B N W w2 := (Keeps.ofBelow hB1).trans hK2
  have HK : Hid (Keeps B N W w2) := hK
  clear m0 m1 m2 m3 c0 f0 c1 f1 hR hK2 hK
  obtain ⟨c2, f2⟩ := block_cells k2
  obtain ⟨c3, f3⟩ := block_cells k3
  clear k2 k3
  go_wp2_with fail
  refine bodyPost_ret (v := .tuple #[_, _]) (by simp [results, Tryz.results96, go_sem, c2, c3]; exact ⟨rfl, rfl⟩) rfl ⟨_, _, rfl, ?_, ?_, ?_⟩
  · rw [HY.out]
    refine RepsA.mono (N := N) (M := w1.heap.size) ?_ (Nat.le_refl _) (by omega)
    (iterate 10 (refine RepsA.set ?_ (by first | omega | (simp <;> omega)) (by first | omega | (simp <;> omega)) _))
    exact hr2
  · refine RepRA.mono (N := N) (M := w1.heap.size) ?_ (Nat.le_refl _) (by omega)
    (iterate 10 (refine RepRA.set ?_ (by first | omega | (simp <;> omega)) (by first | omega | (simp <;> omega)) _))
    exact hu2
  · (iterate 10 (refine Keeps.setCell ?_ (by first | omega | (simp <;> omega)) _))
    exact HK.out

set_option maxHeartbeats 4000000 in
theorem hash_full (x : Val) (c : Cmd) (p : Nat) (hk : c.k = 4) (hm : x.size ≤ 1048576) (hf : 20 ≤ x.size) (hp : Parts (fun q : ByteArray × ByteArray => cmpS q.1 c.fld) x.pairs p) (hh : hitB (fun q : ByteArray × ByteArray => cmpS q.1 c.fld) x.pairs p = false) :
    Does 96 x c x { code := 6 } := by
  intro B N W ps is ss hBN hN ho op oi os
  have hmL : x.pairs.length ≤ 140737488355328 := by unfold Val.size at hm; omega
  have hls := ho.lists hm
  have hfin := fun w' (hb : Below W.heap.size W w') => ho.repsA (N := N) (M := W.heap.size) hm hb op oi os
  have n4 : (c.k == 4) = true := by simp [hk]
  obtain ⟨pa, pc, ia, ic, sa, sc, rfl, rfl, rfl⟩ := ho.shapes
  obtain ⟨n0, n1, n2, n3, hb0, hz0⟩ := four_at W (valO x.kind x.text x.count (.slice pa x.pairs.length pc) (.slice ia x.items.length ic) (.slice sa x.scores.length sc)) (cmdC c) (valO 0 ⟨#[]⟩ 0 (.slice none 0 0) (.slice none 0 0) (.slice none 0 0)) (repO 0 ⟨#[]⟩ 0 (.slice none 0 0))
  have hBS := bsearchP 130 #[] c.fld (fun q => cmpS q.1 c.fld) pairCmp_enter (.slice pa x.pairs.length pc) x.pairs p _ ((RowAt.ofOwn lenP ho.p.1 hmL).below hb0) (pairCmp_of c.fld _) hp
  rw [hh] at hBS
  have HF : Hid (∀ w', Below W.heap.size W w' → RepsA B N W.heap.size w' (valV x.kind x.text x.count (.slice pa x.pairs.length pc) (.slice ia x.items.length ic) (.slice sa x.scores.length sc)) x) := hfin
  clear hp hh hk hfin ho
  go_enter Tryz.func96, Tryz.ntmps96
  go_wp2_with fail
  refine hBS.mono ?_
  rintro e w1 ⟨rfl, hb1⟩
  have hB1 := bstep hb0 hb1
  have hC := setField_full x p (c.fld, c.txt) w1 _ _ _ hf (hls.below hB1)
  unfold Back at hC
  have sz1 : W.heap.size + 4 ≤ w1.heap.size := by rw [← hz0]; exact hb1.size
  have m0 := (hb1.block W.heap.size (by omega)).trans n0
  have m1 := (hb1.block (W.heap.size + 1) (by omega)).trans n1
  have m2 := (hb1.block (W.heap.size + 1 + 1) (by omega)).trans n2
  have m3 := (hb1.block (W.heap.size + 1 + 1 + 1) (by omega)).trans n3
  clear n0 n1 n2 n3 hb1 hBS hz0 hb0 hls
  obtain ⟨c0, f0⟩ := block_cells m0
  obtain ⟨c1, f1⟩ := block_cells m1
  go_wp2_with fail
  refine hC.mono ?_
  rintro e w2 ⟨rfl, hb2⟩
  have hB2 := bstep hB1 hb2
  have sz2 := hb2.size
  obtain ⟨c2, f2⟩ := block_cells ((hb2.block _ (by omega)).trans m2)
  obtain ⟨c3, f3⟩ := block_cells ((hb2.block _ (by omega)).trans m3)
  clear m0 m1 m2 m3 c0 f0 c1 f1 hC hb2
  go_wp2_with fail
  refine bodyPost_ret (v := .tuple #[valV x.kind x.text x.count (.slice pa x.pairs.length pc) (.slice ia x.items.length ic) (.slice sa x.scores.length sc), repV 6 ⟨#[]⟩ 0 (.slice none 0 0)]) (by simp [results, Tryz.results96, go_sem, c2, c3]) rfl ⟨_, _, rfl, HF.out _ ?_, ⟨_, rfl, RowAt.nil _ _ _, In.nil _ _ _⟩, Keeps.ofBelow ?_⟩
  all_goals
    (repeat (with_reducible first | exact hB2 | refine Below.drew ?_ | refine Below.setCell ?_ ?_ _))
    all_goals (first | omega | (simp <;> omega))
end Go.Proofs.YtfnephnecighaaaGreat

/- Members of a rank: put in, looked for. -/
namespace Go.Proofs.YtfnephnecighaaaGreat
open Go.RowKit
set_option linter.unusedVariables false

theorem grown_trans {w w1 w2 : World} {o : Option Nat} (h : Below w.heap.size w w1) (h' : w1.grownBy w2 o) : w.grownBy w2 o :=
  ⟨h'.os.trans h.os, h'.tape.trans h.tape, h'.output.trans h.output, Nat.le_trans h.size h'.size, fun k hk hne => (h'.block k (Nat.lt_of_lt_of_le hk h.size) hne).trans (h.block k hk)⟩
theorem own_kept {w w' : World} {B k n : Nat} {e : TypeId} {s : Value} {xs : List Value} (h : w.ownsRow B e k s n xs) (hb : Below w.heap.size w w') : w'.ownsRow B e k s n xs := by
  refine ⟨h.1, ?_⟩
  rcases h.2 with h1 | ⟨g, cap, cur, h1, h2, h3, h4⟩
  · exact .inl h1
  · exact .inr ⟨g, cap, cur, h1, h2, (hb.block g (Array.getElem?_eq_some_iff.1 h3).1).trans h3, h4⟩
theorem cmpScores_of (t : ByteArray × Int) (w : World) : CmpOf Tryz.prog valS (valS t) (fun q => cmpSc q t) 123 #[] w := fun x W hb => compareScores_any x t W
theorem cmpScores_enter : ∀ args w, (callFunc 123 args).run Tryz.prog w = .ok (.enter 123 args) w := enters_of Tryz.func123 (by kernel_rfl) rfl

set_option maxHeartbeats 4000000 in
theorem insertScore_at (B p : Nat) (s : Value) (l : List (ByteArray × Int)) (t : ByteArray × Int) (w : World) (ho : w.ownsRow B 69 2 s l.length (l.flatMap encS)) (hB : B ≤ w.heap.size) (hn : l.length ≤ 1048575) (hp : Parts (fun q => cmpSc q t) l p) :
    Calls Tryz.prog 142 #[s, valS t] w fun e w' => ∃ r, e = .returned r ∧ w'.ownsRow B 69 2 r (l.length + 1) ((l.take p ++ t :: l.drop p).flatMap encS) ∧ w.grownBy w' s.ownBlock ∧ ∀ k, r.ownBlock = some k → s.ownBlock = some k ∨ w.heap.size ≤ k := by
  have hpl : p ≤ l.length := hp.1
  obtain ⟨t1, t2⟩ := t
  have hb0 := balloc w (.cells #[.string t1, .int .i64 t2] 69)
  have hBS := bsearchS 123 #[] (t1, t2) (fun q => cmpSc q (t1, t2)) cmpScores_enter s l p _ ((RowAt.ofOwn lenS ho (by omega)).below hb0) (cmpScores_of (t1, t2) _) hp
  have n0 : (w.alloc (.cells #[.string t1, .int .i64 t2] 69)).heap[w.heap.size]? = some (.cells #[.string t1, .int .i64 t2] 69 (0, 0)) := by show ((_ : Array Obj).push _)[_]? = _; simp
  obtain ⟨a, c, rfl⟩ := ownsRow_shape ho
  have hlt : ∀ k, (Value.slice a l.length c).ownBlock = some k → k < w.heap.size := fun k hk => (ho.lt k hk).2
  clear hp
  go_enter Tryz.func142, Tryz.ntmps142
  go_wp2_with fail
  refine hBS.mono ?_
  rintro e w1 ⟨rfl, hb1⟩
  have hB1 := bstep hb0 hb1
  have sz1 : w.heap.size + 1 ≤ w1.heap.size := by have := hb1.size; simpa using this
  have m0 := (hb1.block w.heap.size (by simp)).trans n0
  obtain ⟨c0, f0⟩ := block_cells m0
  have hB2 := hB1.alloc hB1.size (.cells #[.string t1, .int .i64 t2] 69)
  have ho1 := own_kept ho hB2
  clear n0 m0 hb1 hBS hb0
  go_wp2_with fail
  have hnew : (w1.alloc (.cells #[.string t1, .int .i64 t2] 69)).heap[w1.heap.size]? = some (.cells #[.string t1, .int .i64 t2] 69 (0, 0)) := by show ((_ : Array Obj).push _)[_]? = _; simp
  have hI := insertS_any B p (.slice a l.length c) l (t1, t2) w1.heap.size (w1.alloc (.cells #[.string t1, .int .i64 t2] 69)) ho1 (by simp; omega) hpl (by omega) hnew (fun k hk e => by have := hlt k hk; omega)
  refine hI.mono ?_
  rintro e w2 ⟨r, rfl, ho2, hg2, hrb⟩
  obtain ⟨a2, c2, rfl⟩ := ownsRow_shape ho2
  have H : Hid (w2.ownsRow B 69 2 (.slice a2 (l.length + 1) c2) (l.length + 1) ((l.take p ++ (t1, t2) :: l.drop p).flatMap encS) ∧ w.grownBy w2 (Value.slice a l.length c).ownBlock ∧ ∀ k, (Value.slice a2 (l.length + 1) c2).ownBlock = some k → (Value.slice a l.length c).ownBlock = some k ∨ w.heap.size ≤ k) := ⟨ho2, grown_trans hB2 hg2, fun k hk => by rcases hrb k hk with h | h; exact .inl h; exact .inr (by simp at h; omega)⟩
  clear ho2 hg2 hrb hI ho1 ho c0 f0 hnew
  go_wp2_with fail
  go_ret
  exact ⟨_, rfl, H.out⟩

set_option maxHeartbeats 1000000 in
theorem withoutScore_none (s : Value) (a : Option Addr) (n c : Nat) (hs : s = .slice a n c) (w : World) : Calls Tryz.prog 143 #[s, .int .i64 (-1)] w fun e w' => e = .returned s ∧ w = w' := by
  subst hs
  go_enter Tryz.func143, Tryz.ntmps143
  go_wp2_with fail
  go_ret
  exact ⟨rfl, rfl⟩

set_option maxHeartbeats 4000000 in
theorem rank_rem_miss (x : Val) (c : Cmd)  (hk : c.k = 15) (hm : x.size ≤ 1048576) (hh : idxI (isMember c.txt) x.scores = -1) : Does 99 x c x {} := by
  intro B N W ps is ss hBN hN ho op oi os
  have hmL : x.scores.length ≤ 140737488355328 := by unfold Val.size at hm; omega
  have hfin := fun w' (hb : Below W.heap.size W w') => ho.repsA (N := N) (M := W.heap.size) hm hb op oi os
  have n4 : (c.k == 14) = false := by simp [hk]
  have n5 : (c.k == 15) = decide (15 = 15) := by simp [hk]
  obtain ⟨pa, pc, ia, ic, sa, sc, rfl, rfl, rfl⟩ := ho.shapes
  obtain ⟨n0, n1, n2, n3, hb0, hz0⟩ := four_at W (valO x.kind x.text x.count (.slice pa x.pairs.length pc) (.slice ia x.items.length ic) (.slice sa x.scores.length sc)) (cmdC c) (valO 0 ⟨#[]⟩ 0 (.slice none 0 0) (.slice none 0 0) (.slice none 0 0)) (repO 0 ⟨#[]⟩ 0 (.slice none 0 0))
  have hBS := indexFuncS 140 #[.pointer (some ⟨W.heap.size + 1, 0, none⟩)] (isMember c.txt) member_enter (.slice sa x.scores.length sc) x.scores _ ((RowAt.ofOwn lenS ho.s.1 hmL).below hb0) (member_pred c _ _ n1)
  rw [hh] at hBS
  have HF : Hid (∀ w', Below W.heap.size W w' → RepsA B N W.heap.size w' (valV x.kind x.text x.count (.slice pa x.pairs.length pc) (.slice ia x.items.length ic) (.slice sa x.scores.length sc)) x) := hfin
  clear hh hk hfin ho
  go_enter Tryz.func99, Tryz.ntmps99
  go_wp2_with fail
  refine hBS.mono ?_
  rintro e w1 ⟨rfl, hb1⟩
  have hB1 := bstep hb0 hb1
  have sz1 : W.heap.size + 4 ≤ w1.heap.size := by rw [← hz0]; exact hb1.size
  have m0 := (hb1.block W.heap.size (by omega)).trans n0
  have m1 := (hb1.block (W.heap.size + 1) (by omega)).trans n1
  have m2 := (hb1.block (W.heap.size + 1 + 1) (by omega)).trans n2
  have m3 := (hb1.block (W.heap.size + 1 + 1 + 1) (by omega)).trans n3
  clear n0 n1 n2 n3 hb1 hBS hz0 hb0
  obtain ⟨c0, f0⟩ := block_cells m0
  obtain ⟨c1, f1⟩ := block_cells m1
  obtain ⟨c2, f2⟩ := block_cells m2
  obtain ⟨c3, f3⟩ := block_cells m3
  clear m0 m1 m2 m3
  have q0 : W.heap.size < w1.heap.size := by omega
  skip
  go_wp2_with fail
  refine (withoutScore_none _ _ _ _ rfl _).mono ?_; rintro e w2 ⟨rfl, rfl⟩; go_wp2_with fail; go_region_with (go_at_call 133; refine (number_any _ _).mono ?_; rintro e w3 ⟨rfl, rfl⟩)
  all_goals
    go_wp2_with fail
    refine bodyPost_ret (v := .tuple #[valV x.kind x.text x.count (.slice pa x.pairs.length pc) (.slice ia x.items.length ic) (.slice sa x.scores.length sc), repV 0 ⟨#[]⟩ 0 (.slice none 0 0)]) (by simp [results, Tryz.results99, go_sem, c2, c3]) rfl ⟨_, _, rfl, HF.out _ ?_, ⟨_, rfl, RowAt.nil _ _ _, In.nil _ _ _⟩, Keeps.ofBelow ?_⟩
    all_goals
      (repeat (with_reducible first | exact hB1 | refine Below.drew ?_ | refine Below.setCell ?_ ?_ _))
      all_goals (first | omega | (simp <;> omega))
set_option maxHeartbeats 4000000 in
theorem rank_rank_miss (x : Val) (c : Cmd)   (hk : c.k = 16) (hm : x.size ≤ 1048576) (hh : idxI (isMember c.txt) x.scores = -1) : Does 99 x c x { code := 5 } := by
  intro B N W ps is ss hBN hN ho op oi os
  have hmL : x.scores.length ≤ 140737488355328 := by unfold Val.size at hm; omega
  have hfin := fun w' (hb : Below W.heap.size W w') => ho.repsA (N := N) (M := W.heap.size) hm hb op oi os
  have n4 : (c.k == 14) = false := by simp [hk]
  have n5 : (c.k == 15) = decide (16 = 15) := by simp [hk]
  obtain ⟨pa, pc, ia, ic, sa, sc, rfl, rfl, rfl⟩ := ho.shapes
  obtain ⟨n0, n1, n2, n3, hb0, hz0⟩ := four_at W (valO x.kind x.text x.count (.slice pa x.pairs.length pc) (.slice ia x.items.length ic) (.slice sa x.scores.length sc)) (cmdC c) (valO 0 ⟨#[]⟩ 0 (.slice none 0 0) (.slice none 0 0) (.slice none 0 0)) (repO 0 ⟨#[]⟩ 0 (.slice none 0 0))
  have hBS := indexFuncS 140 #[.pointer (some ⟨W.heap.size + 1, 0, none⟩)] (isMember c.txt) member_enter (.slice sa x.scores.length sc) x.scores _ ((RowAt.ofOwn lenS ho.s.1 hmL).below hb0) (member_pred c _ _ n1)
  rw [hh] at hBS
  have HF : Hid (∀ w', Below W.heap.size W w' → RepsA B N W.heap.size w' (valV x.kind x.text x.count (.slice pa x.pairs.length pc) (.slice ia x.items.length ic) (.slice sa x.scores.length sc)) x) := hfin
  clear hh hk hfin ho
  go_enter Tryz.func99, Tryz.ntmps99
  go_wp2_with fail
  refine hBS.mono ?_
  rintro e w1 ⟨rfl, hb1⟩
  have hB1 := bstep hb0 hb1
  have sz1 : W.heap.size + 4 ≤ w1.heap.size := by rw [← hz0]; exact hb1.size
  have m0 := (hb1.block W.heap.size (by omega)).trans n0
  have m1 := (hb1.block (W.heap.size + 1) (by omega)).trans n1
  have m2 := (hb1.block (W.heap.size + 1 + 1) (by omega)).trans n2
  have m3 := (hb1.block (W.heap.size + 1 + 1 + 1) (by omega)).trans n3
  clear n0 n1 n2 n3 hb1 hBS hz0 hb0
  obtain ⟨c0, f0⟩ := block_cells m0
  obtain ⟨c1, f1⟩ := block_cells m1
  obtain ⟨c2, f2⟩ := block_cells m2
  obtain ⟨c3, f3⟩ := block_cells m3
  clear m0 m1 m2 m3
  have q0 : W.heap.size < w1.heap.size := by omega
  skip
  go_wp2_with fail
  skip
  all_goals
    skip
    refine bodyPost_ret (v := .tuple #[valV x.kind x.text x.count (.slice pa x.pairs.length pc) (.slice ia x.items.length ic) (.slice sa x.scores.length sc), repV 5 ⟨#[]⟩ 0 (.slice none 0 0)]) (by simp [results, Tryz.results99, go_sem, c2, c3]) rfl ⟨_, _, rfl, HF.out _ ?_, ⟨_, rfl, RowAt.nil _ _ _, In.nil _ _ _⟩, Keeps.ofBelow ?_⟩
    all_goals
      (repeat (with_reducible first | exact hB1 | refine Below.drew ?_ | refine Below.setCell ?_ ?_ _))
      all_goals (first | omega | (simp <;> omega))
set_option maxHeartbeats 4000000 in
theorem rank_rank (x : Val) (c : Cmd) (p : Nat) (hk : c.k = 16) (hm : x.size ≤ 1048576) (hh : idxI (isMember c.txt) x.scores = (p : Int)) : Does 99 x c x { n := (p : Int) } := by
  intro B N W ps is ss hBN hN ho op oi os
  have hmL : x.scores.length ≤ 140737488355328 := by unfold Val.size at hm; omega
  have hfin := fun w' (hb : Below W.heap.size W w') => ho.repsA (N := N) (M := W.heap.size) hm hb op oi os
  have n4 : (c.k == 14) = false := by simp [hk]
  have n5 : (c.k == 15) = decide (16 = 15) := by simp [hk]
  obtain ⟨pa, pc, ia, ic, sa, sc, rfl, rfl, rfl⟩ := ho.shapes
  obtain ⟨n0, n1, n2, n3, hb0, hz0⟩ := four_at W (valO x.kind x.text x.count (.slice pa x.pairs.length pc) (.slice ia x.items.length ic) (.slice sa x.scores.length sc)) (cmdC c) (valO 0 ⟨#[]⟩ 0 (.slice none 0 0) (.slice none 0 0) (.slice none 0 0)) (repO 0 ⟨#[]⟩ 0 (.slice none 0 0))
  have hBS := indexFuncS 140 #[.pointer (some ⟨W.heap.size + 1, 0, none⟩)] (isMember c.txt) member_enter (.slice sa x.scores.length sc) x.scores _ ((RowAt.ofOwn lenS ho.s.1 hmL).below hb0) (member_pred c _ _ n1)
  rw [hh] at hBS
  have HF : Hid (∀ w', Below W.heap.size W w' → RepsA B N W.heap.size w' (valV x.kind x.text x.count (.slice pa x.pairs.length pc) (.slice ia x.items.length ic) (.slice sa x.scores.length sc)) x) := hfin
  clear hh hk hfin ho
  go_enter Tryz.func99, Tryz.ntmps99
  go_wp2_with fail
  refine hBS.mono ?_
  rintro e w1 ⟨rfl, hb1⟩
  have hB1 := bstep hb0 hb1
  have sz1 : W.heap.size + 4 ≤ w1.heap.size := by rw [← hz0]; exact hb1.size
  have m0 := (hb1.block W.heap.size (by omega)).trans n0
  have m1 := (hb1.block (W.heap.size + 1) (by omega)).trans n1
  have m2 := (hb1.block (W.heap.size + 1 + 1) (by omega)).trans n2
  have m3 := (hb1.block (W.heap.size + 1 + 1 + 1) (by omega)).trans n3
  clear n0 n1 n2 n3 hb1 hBS hz0 hb0
  obtain ⟨c0, f0⟩ := block_cells m0
  obtain ⟨c1, f1⟩ := block_cells m1
  obtain ⟨c2, f2⟩ := block_cells m2
  obtain ⟨c3, f3⟩ := block_cells m3
  clear m0 m1 m2 m3
  have q0 : W.heap.size < w1.heap.size := by omega
  have hp0 : (0 : Int) ≤ (p : Int) := Int.natCast_nonneg p
  go_wp2_with fail
  skip
  all_goals
    skip
    refine bodyPost_ret (v := .tuple #[valV x.kind x.text x.count (.slice pa x.pairs.length pc) (.slice ia x.items.length ic) (.slice sa x.scores.length sc), repV 0 ⟨#[]⟩ (p : Int) (.slice none 0 0)]) (by simp [results, Tryz.results99, go_sem, c2, c3]) rfl ⟨_, _, rfl, HF.out _ ?_, ⟨_, rfl, RowAt.nil _ _ _, In.nil _ _ _⟩, Keeps.ofBelow ?_⟩
    all_goals
      (repeat (with_reducible first | exact hB1 | refine Below.drew ?_ | refine Below.setCell ?_ ?_ _))
      all_goals (first | omega | (simp <;> omega))

set_option maxHeartbeats 4000000 in
theorem rank_full (x : Val) (c : Cmd) (hk : c.k = 14) (hm : x.size ≤ 1048576) (hf : 20 ≤ x.size) (hh : idxI (isMember c.txt) x.scores = -1) : Does 99 x c x { code := 6 } := by
  intro B N W ps is ss hBN hN ho op oi os
  have hmL : x.scores.length ≤ 140737488355328 := by unfold Val.size at hm; omega
  have hls := ho.lists hm
  have hfin := fun w' (hb : Below W.heap.size W w') => ho.repsA (N := N) (M := W.heap.size) hm hb op oi os
  have n4 : (c.k == 14) = true := by simp [hk]
  obtain ⟨pa, pc, ia, ic, sa, sc, rfl, rfl, rfl⟩ := ho.shapes
  obtain ⟨n0, n1, n2, n3, hb0, hz0⟩ := four_at W (valO x.kind x.text x.count (.slice pa x.pairs.length pc) (.slice ia x.items.length ic) (.slice sa x.scores.length sc)) (cmdC c) (valO 0 ⟨#[]⟩ 0 (.slice none 0 0) (.slice none 0 0) (.slice none 0 0)) (repO 0 ⟨#[]⟩ 0 (.slice none 0 0))
  have hBS := indexFuncS 140 #[.pointer (some ⟨W.heap.size + 1, 0, none⟩)] (isMember c.txt) member_enter (.slice sa x.scores.length sc) x.scores _ ((RowAt.ofOwn lenS ho.s.1 hmL).below hb0) (member_pred c _ _ n1)
  rw [hh] at hBS
  have HF : Hid (∀ w', Below W.heap.size W w' → RepsA B N W.heap.size w' (valV x.kind x.text x.count (.slice pa x.pairs.length pc) (.slice ia x.items.length ic) (.slice sa x.scores.length sc)) x) := hfin
  clear hh hk hfin ho
  go_enter Tryz.func99, Tryz.ntmps99
  go_wp2_with fail
  refine hBS.mono ?_
  rintro e w1 ⟨rfl, hb1⟩
  have hB1 := bstep hb0 hb1
  have hF := isFull_any (valV x.kind x.text x.count (.slice pa x.pairs.length pc) (.slice ia x.items.length ic) (.slice sa x.scores.length sc)) x w1 ⟨_, _, _, rfl, hls.below hB1⟩
  rw [show decide (20 ≤ x.size) = true by simpa using hf] at hF
  have sz1 : W.heap.size + 4 ≤ w1.heap.size := by rw [← hz0]; exact hb1.size
  have m0 := (hb1.block W.heap.size (by omega)).trans n0
  have m1 := (hb1.block (W.heap.size + 1) (by omega)).trans n1
  have m2 := (hb1.block (W.heap.size + 1 + 1) (by omega)).trans n2
  have m3 := (hb1.block (W.heap.size + 1 + 1 + 1) (by omega)).trans n3
  clear n0 n1 n2 n3 hb1 hBS hz0 hb0 hls
  obtain ⟨c0, f0⟩ := block_cells m0
  obtain ⟨c1, f1⟩ := block_cells m1
  go_wp2_with fail
  refine hF.mono ?_
  rintro e w2 ⟨rfl, hb2⟩
  have hB2 := bstep hB1 hb2
  have sz2 := hb2.size
  obtain ⟨c0', f0'⟩ := block_cells ((hb2.block _ (by omega)).trans m0)
  obtain ⟨c2, f2⟩ := block_cells ((hb2.block _ (by omega)).trans m2)
  obtain ⟨c3, f3⟩ := block_cells ((hb2.block _ (by omega)).trans m3)
  clear m0 m1 m2 m3 c0 f0 c1 f1 hF hb2
  go_wp2_with fail
  refine bodyPost_ret (v := .tuple #[valV x.kind x.text x.count (.slice pa x.pairs.length pc) (.slice ia x.items.length ic) (.slice sa x.scores.length sc), repV 6 ⟨#[]⟩ 0 (.slice none 0 0)]) (by simp [results, Tryz.results99, go_sem, c2, c3]) rfl ⟨_, _, rfl, HF.out _ ?_, ⟨_, rfl, RowAt.nil _ _ _, In.nil _ _ _⟩, Keeps.ofBelow ?_⟩
  all_goals
    (repeat (with_reducible first | exact hB2 | refine Below.drew ?_ | refine Below.setCell ?_ ?_ _))
    all_goals (first | omega | (simp <;> omega))
end Go.Proofs.YtfnephnecighaaaGreat

/- A member is put into a rank: anew, or at another place. -/
namespace Go.Proofs.YtfnephnecighaaaGreat
open Go.RowKit
set_option linter.unusedVariables false

/-- Where performRank stands between its calls: its frame as it was, the scores a row of the call's own. -/
structure Mid (B N : Nat) (W : World) (x : Val) (c : Cmd) (s0 : Value) (w : World) (s : Value) (L : List (ByteArray × Int)) : Prop where
  keeps : Keeps B N W w
  own : w.ownsRow B 69 2 s L.length (L.flatMap encS)
  inn : In B N W.heap.size s
  size : W.heap.size + 4 ≤ w.heap.size
  b0 : w.heap[W.heap.size]? = some (valO x.kind x.text x.count (.slice none 0 0) (.slice none 0 0) s0)
  b1 : w.heap[W.heap.size + 1]? = some (cmdC c)
  b2 : w.heap[W.heap.size + 1 + 1]? = some (valO 0 ⟨#[]⟩ 0 (.slice none 0 0) (.slice none 0 0) (.slice none 0 0))
  b3 : w.heap[W.heap.size + 1 + 1 + 1]? = some (repO 0 ⟨#[]⟩ 0 (.slice none 0 0))

theorem Mid.heap {B N : Nat} {W w w' : World} {x : Val} {c : Cmd} {s0 s : Value} {L : List (ByteArray × Int)} (h : Mid B N W x c s0 w s L) (e : w' = w.drew) : Mid B N W x c s0 w' s L := by
  subst e
  exact ⟨h.keeps.drew, h.own, h.inn, h.size, h.b0, h.b1, h.b2, h.b3⟩
theorem Mid.grown {B N : Nat} {W w w' : World} {x : Val} {c : Cmd} {s0 s r : Value} {L L' : List (ByteArray × Int)} (h : Mid B N W x c s0 w s L) (hg : w.grownBy w' s.ownBlock) (ho : w'.ownsRow B 69 2 r L'.length (L'.flatMap encS))
    (hr : ∀ k, r.ownBlock = some k → s.ownBlock = some k ∨ w.heap.size ≤ k) : Mid B N W x c s0 w' r L' := by
  have hz := h.keeps.size
  have e0 := own_ne h.own h.b0 (by decide)
  have e1 := own_ne h.own h.b1 (by decide)
  have e2 := own_ne h.own h.b2 (by decide)
  have e3 := own_ne h.own h.b3 (by decide)
  have hs := h.size
  refine ⟨⟨hg.os.trans h.keeps.os, hg.tape.trans h.keeps.tape, hg.output.trans h.keeps.output, Nat.le_trans hz hg.size, fun k hk ho => ?_⟩, ho, fun k hk => ⟨(ho.lt k hk).1, ?_⟩, Nat.le_trans hs hg.size, ?_, ?_, ?_, ?_⟩
  · refine (hg.block k (by omega) (fun e => ?_)).trans (h.keeps.block k hk ho)
    have := h.inn k e.symm
    omega
  · rcases hr k hk with e | e
    · exact (h.inn k e).2
    · exact .inr (by omega)
  · exact (hg.block _ (by omega) (fun e => e0 e.symm)).trans h.b0
  · exact (hg.block _ (by omega) (fun e => e1 e.symm)).trans h.b1
  · exact (hg.block _ (by omega) (fun e => e2 e.symm)).trans h.b2
  · exact (hg.block _ (by omega) (fun e => e3 e.symm)).trans h.b3

theorem mid_insert {B N p : Nat} {W w : World} {x : Val} {c : Cmd} {s0 s : Value} {L : List (ByteArray × Int)} (t : ByteArray × Int) (h : Mid B N W x c s0 w s L) (hB : B ≤ N) (hN : N ≤ W.heap.size) (hn : L.length ≤ 1048575) (hp : Parts (fun q => cmpSc q t) L p) :
    Calls Tryz.prog 142 #[s, valS t] w fun e w' => ∃ a cc, e = .returned (.slice a (L.length + 1) cc) ∧ Mid B N W x c s0 w' (.slice a (L.length + 1) cc) (L.take p ++ t :: L.drop p) := by
  have hz := h.size
  have hpl : p ≤ L.length := hp.1
  refine (insertScore_at B p s L t w h.own (by omega) hn hp).mono ?_
  rintro e w' ⟨r, rfl, h1, h2, h3⟩
  obtain ⟨a, cc, rfl⟩ := ownsRow_shape h1
  have hlen : (L.take p ++ t :: L.drop p).length = L.length + 1 := by simp; omega
  exact ⟨a, cc, rfl, h.grown h2 (by rw [hlen]; exact h1) h3⟩
theorem mid_without {B N i : Nat} {W w : World} {x : Val} {c : Cmd} {s0 s : Value} {L : List (ByteArray × Int)} (h : Mid B N W x c s0 w s L) (hi : i < L.length) (hn : L.length ≤ 1048576) :
    Calls Tryz.prog 143 #[s, .int .i64 (i : Int)] w fun e w' => ∃ a cc, e = .returned (.slice a (L.take i ++ L.drop (i + 1)).length cc) ∧ Mid B N W x c s0 w' (.slice a (L.take i ++ L.drop (i + 1)).length cc) (L.take i ++ L.drop (i + 1)) := by
  refine (withoutScore_at B i s L w h.own hi hn).mono ?_
  rintro e w' ⟨r, rfl, h1, h2, h3⟩
  have hlen : (L.take i ++ L.drop (i + 1)).length = L.length - 1 := by simp; omega
  rw [← hlen] at h1
  obtain ⟨a, cc, rfl⟩ := ownsRow_shape h1
  exact ⟨a, cc, rfl, h.grown h2 h1 (fun k hk => .inl (h3 ▸ hk))⟩
theorem mid_keep {B N : Nat} {W w : World} {x : Val} {c : Cmd} {s0 : Value} {a : Option Addr} {cc : Nat} {L : List (ByteArray × Int)} (h : Mid B N W x c s0 w (.slice a L.length cc) L) :
    Calls Tryz.prog 143 #[.slice a L.length cc, .int .i64 (-1)] w fun e w' => ∃ a cc, e = .returned (.slice a L.length cc) ∧ Mid B N W x c s0 w' (.slice a L.length cc) L := by
  refine (withoutScore_none _ a _ cc rfl w).mono ?_
  rintro e w' ⟨rfl, rfl⟩
  exact ⟨a, cc, rfl, h⟩
theorem Mid.below {B N : Nat} {W w w' : World} {x : Val} {c : Cmd} {s0 s : Value} {L : List (ByteArray × Int)} (h : Mid B N W x c s0 w s L) (hb : Below w.heap.size w w') : Mid B N W x c s0 w' s L := by
  have hz := h.size
  exact ⟨h.keeps.trans (Keeps.ofBelow hb), own_kept h.own hb, h.inn, Nat.le_trans hz hb.size, (hb.block _ (by omega)).trans h.b0, (hb.block _ (by omega)).trans h.b1, (hb.block _ (by omega)).trans h.b2, (hb.block _ (by omega)).trans h.b3⟩

end Go.Proofs.YtfnephnecighaaaGreat
