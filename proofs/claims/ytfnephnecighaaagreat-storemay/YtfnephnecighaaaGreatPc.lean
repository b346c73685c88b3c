/- What is taken from a value's own lists: a member. -/
import Derived.Test.YtfnephnecighaaaGreatPb
import Derived.Deep.RegionHeld3
namespace Go.Proofs.YtfnephnecighaaaGreat
open Go.RowKit
set_option linter.unusedVariables false

set_option maxHeartbeats 1000000 in
theorem withoutScore_at (B i : Nat) (s : Value) (l : List (ByteArray × Int)) (w : World) (ho : w.ownsRow B 69 2 s l.length (l.flatMap encS)) (hi : i < l.length) (hn : l.length ≤ 1048576) :
    Calls Tryz.prog 143 #[s, .int .i64 (i : Int)] w fun e w' => ∃ r, e = .returned r ∧ w'.ownsRow B 69 2 r (l.length - 1) ((l.take i ++ l.drop (i + 1)).flatMap encS) ∧ w.grownBy w' s.ownBlock ∧ r.ownBlock = s.ownBlock := by
  have hd := deleteS_any B i s l w ho hi hn
  obtain ⟨a, c, rfl⟩ := ownsRow_shape ho
  have hw : IntKind.i64.wrap ((i : Int) + 1) = (i : Int) + 1 := by rw [IntKind.wrap_i64]; omega
  have h0 : ¬ ((i : Int) < 0) := by omega
  clear ho
  go_enter Tryz.func143, Tryz.ntmps143
  go_wp2_with fail
  refine hd.mono ?_
  rintro e w' ⟨r, rfl, h1, h2, h3⟩
  obtain ⟨a2, c2, rfl⟩ := ownsRow_shape h1
  have H : Hid (w'.ownsRow B 69 2 (.slice a2 (l.length - 1) c2) (l.length - 1) ((l.take i ++ l.drop (i + 1)).flatMap encS) ∧ w.grownBy w' (Value.slice a l.length c).ownBlock ∧ (Value.slice a2 (l.length - 1) c2).ownBlock = (Value.slice a l.length c).ownBlock) := ⟨h1, h2, h3⟩
  clear h1 h2 h3 hd
  go_wp2_with fail
  go_ret
  exact ⟨_, rfl, H.out⟩

def isMember (t : ByteArray) (q : ByteArray × Int) : Bool := q.1.toList == t.toList
set_option maxHeartbeats 1000000 in
theorem member_pred (c : Cmd) (b : Nat) (w : World) (hb : w.heap[b]? = some (cmdC c)) : PredOf Tryz.prog valS (isMember c.txt) 140 #[.pointer (some ⟨b, 0, none⟩)] w := by
  intro x W hB
  have hbl := (Array.getElem?_eq_some_iff.1 hb).1
  have hW := (hB.block b hbl).trans hb
  have hz := hB.size
  obtain ⟨c0, f0⟩ := block_cells hW
  have hne : b ≠ W.heap.size := by omega
  have hlt : b < W.heap.size := by omega
  clear hb hW
  go_enter Tryz.func140, Tryz.ntmps140
  go_wp2_with fail
  all_goals (go_ret; refine ⟨ret_bool ?_, by first | exact balloc _ _ | exact Below.refl _ _⟩; simp_all [isMember])
theorem member_enter : ∀ args w, (callFunc 140 args).run Tryz.prog w = .ok (.enter 140 args) w := enters_of Tryz.func140 (by kernel_rfl) rfl
set_option maxHeartbeats 8000000 in
theorem rank_del (x : Val) (c : Cmd) (p : Nat) (hk : c.k = 15) (hm : x.scores.length ≤ 1048576) (hi : x.pairs = []) (hs : x.items = []) (hpl : p < x.scores.length) (hh : idxI (isMember c.txt) x.scores = (p : Int)) :
    Does 99 x c { x with scores := x.scores.take p ++ x.scores.drop (p + 1) } { n := 1 } := by
  intro B N W ps is ss hBN hN ho op oi os
  obtain rfl := ho.p.2 hi
  obtain rfl := ho.i.2 hs
  have hps := ho.s.1
  obtain ⟨pa, pc, rfl⟩ := ownsRow_shape hps
  have n4 : (c.k == 14) = false := by simp [hk]
  have n5 : (c.k == 15) = true := by simp [hk]
  have hb0 : Below W.heap.size W ((((W.alloc (valO x.kind x.text x.count (.slice none 0 0) (.slice none 0 0) (.slice pa x.scores.length pc))).alloc (cmdC c)).alloc (valO 0 ⟨#[]⟩ 0 (.slice none 0 0) (.slice none 0 0) (.slice none 0 0))).alloc (repO 0 ⟨#[]⟩ 0 (.slice none 0 0))) := (((balloc W _).alloc (by simp) _).alloc (by simp; omega) _).alloc (by simp; omega) _
  obtain ⟨n0, n1, n2, n3, -, hz0⟩ := four_at W (valO x.kind x.text x.count (.slice none 0 0) (.slice none 0 0) (.slice pa x.scores.length pc)) (cmdC c) (valO 0 ⟨#[]⟩ 0 (.slice none 0 0) (.slice none 0 0) (.slice none 0 0)) (repO 0 ⟨#[]⟩ 0 (.slice none 0 0))
  have hBS := indexFuncS 140 #[.pointer (some ⟨W.heap.size + 1, 0, none⟩)] (isMember c.txt) member_enter (.slice pa x.scores.length pc) x.scores _ ((RowAt.ofOwn lenS hps (by omega)).below hb0) (member_pred c _ _ n1)
  rw [hh] at hBS
  clear hh hk
  have hp0 : (0 : Int) ≤ (p : Int) := by omega
  go_enter Tryz.func99, Tryz.ntmps99
  go_wp2_with fail
  refine hBS.mono ?_
  rintro e w1 ⟨rfl, hb1⟩
  have hB1 := bstep hb0 hb1
  have sz1 : W.heap.size + 4 ≤ w1.heap.size := by rw [← hz0]; exact hb1.size
  have m0 := (hb1.block W.heap.size (by omega)).trans n0
  have m1 := (hb1.block (W.heap.size + 1) (by omega)).trans n1
  have m2 := (hb1.block (W.heap.size + 1 + 1) (by omega)).trans n2
  have m3 := (hb1.block (W.heap.size + 1 + 1 + 1) (by omega)).trans n3
  clear n0 n1 n2 n3 hb1 hBS hz0 hb0
  obtain ⟨c0, f0⟩ := block_cells m0
  obtain ⟨c1, f1⟩ := block_cells m1
  have hw : IntKind.i64.wrap ((p : Int) + 1) = (p : Int) + 1 := by rw [IntKind.wrap_i64]; omega
  go_wp2_with fail
  refine (withoutScore_at B p _ x.scores w1 (ho.s.kept hB1).1 hpl hm).mono ?_
  rintro e w2 ⟨r, rfl, ho2, hg2, hrb⟩
  obtain ⟨a2, c2, rfl⟩ := ownsRow_shape ho2
  have hnb : ∀ k, W.heap.size ≤ k → some k ≠ (Value.slice pa x.scores.length pc).ownBlock := fun k hk e => by have := os _ e.symm; omega
  have hK : Keeps B N W w2 := (Keeps.ofBelow hB1).trans (Keeps.grown hg2 (fun k hk => ⟨((ho.s.kept hB1).1.lt k hk).1, os k hk⟩))
  have sz2 := hg2.size
  have k0 := (hg2.block W.heap.size (by omega) (hnb _ (by omega))).trans m0
  have k2 := (hg2.block (W.heap.size + 1 + 1) (by omega) (hnb _ (by omega))).trans m2
  have k3 := (hg2.block (W.heap.size + 1 + 1 + 1) (by omega) (hnb _ (by omega))).trans m3
  have e0 := own_ne ho2 k0 (by decide)
  have e2 := own_ne ho2 k2 (by decide)
  have e3 := own_ne ho2 k3 (by decide)
  have hlen : (x.scores.take p ++ x.scores.drop (p + 1)).length = x.scores.length - 1 := by simp; omega
  have HO : Hid (w2.ownsRow B 69 2 (.slice a2 (x.scores.length - 1) c2) (x.scores.take p ++ x.scores.drop (p + 1)).length ((x.scores.take p ++ x.scores.drop (p + 1)).flatMap encS)) := (by rw [hlen]; exact ho2 : w2.ownsRow B 69 2 (.slice a2 (x.scores.length - 1) c2) (x.scores.take p ++ x.scores.drop (p + 1)).length ((x.scores.take p ++ x.scores.drop (p + 1)).flatMap encS))
  have HE : Hid ((Value.slice a2 (x.scores.length - 1) c2).ownBlock ≠ some W.heap.size ∧ (Value.slice a2 (x.scores.length - 1) c2).ownBlock ≠ some (W.heap.size + 1 + 1) ∧ (Value.slice a2 (x.scores.length - 1) c2).ownBlock ≠ some (W.heap.size + 1 + 1 + 1)) := ⟨e0, e2, e3⟩
  have HK : Hid (Keeps B N W w2) := hK
  have HIN : Hid (In B N W.heap.size (.slice a2 (x.scores.length - 1) c2)) := (fun k hk => ⟨(ho2.lt k hk).1, .inl (os k (hrb ▸ hk))⟩ : In B N W.heap.size (.slice a2 (x.scores.length - 1) c2))
  have HL : Hid ((x.scores.take p ++ x.scores.drop (p + 1)).length ≤ 140737488355328) := (by rw [hlen]; omega : (x.scores.take p ++ x.scores.drop (p + 1)).length ≤ 140737488355328)
  clear m0 m1 m2 m3 c0 f0 c1 f1 hg2 hnb hK e0 e2 e3 ho2 hlen hps hrb
  obtain ⟨c0, f0⟩ := block_cells k0
  obtain ⟨c2', f2⟩ := block_cells k2
  obtain ⟨c3, f3⟩ := block_cells k3
  clear k0 k2 k3
  have q0 : W.heap.size < w2.heap.size := by omega
  go_wp2_with fail
  go_region_with (go_at_call 133; refine (number_any _ _).mono ?_; rintro e w3 ⟨rfl, rfl⟩)
  all_goals
    go_wp2_with fail
    refine bodyPost_ret (v := .tuple #[valV x.kind x.text x.count (.slice none 0 0) (.slice none 0 0) (.slice a2 (x.scores.length - 1) c2), repV 0 ⟨#[]⟩ 1 (.slice none 0 0)]) (by simp [results, Tryz.results99, go_sem, c2', c3]) rfl ⟨_, _, rfl, ⟨_, _, _, rfl, ⟨(by show RowAt 2 encP _ (.slice none 0 0) x.pairs; rw [hi]; exact RowAt.nil _ _ _), (by show RowAt 1 encI _ (.slice none 0 0) x.items; rw [hs]; exact RowAt.nil _ _ _), RowAt.ofOwn lenS (base := B) (e := 69) ?_ HL.out⟩, In.nil _ _ _, In.nil _ _ _, ?_⟩, ⟨_, rfl, RowAt.nil _ _ _, In.nil _ _ _⟩, ?_⟩
    · refine own_drew ?_
      (iterate 11 (refine own_set ?_ (by first | exact HE.out.1 | exact HE.out.2.1 | exact HE.out.2.2) _))
      exact HO.out
    · exact HIN.out
    · refine Keeps.drew ?_
      (iterate 11 (refine Keeps.setCell ?_ (by first | omega | (simp <;> omega)) _))
      exact HK.out
end Go.Proofs.YtfnephnecighaaaGreat
