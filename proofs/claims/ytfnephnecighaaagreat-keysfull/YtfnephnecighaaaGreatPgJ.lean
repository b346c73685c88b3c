/- A text that a set has not yet stands there. -/
import Derived.Test.YtfnephnecighaaaGreatPaJ
import Derived.Test.YtfnephnecighaaaGreatVfJ
import Derived.Deep.RegionHeld3
namespace Go.Proofs.YtfnephnecighaaaGreat
open Go.RowKit
set_option linter.unusedVariables false

set_option maxHeartbeats 8000000 in
theorem set_add (x : Val) (c : Cmd) (p : Nat) (hk : c.k = 11) (hm : x.size < 20) (hi : x.pairs = []) (hs : x.scores = []) (hp : Parts (fun q : ByteArray => cmpS q c.txt) x.items p) (hh : hitB (fun q : ByteArray => cmpS q c.txt) x.items p = false) :
    Does 98 x c { x with items := x.items.take p ++ c.txt :: x.items.drop p } { n := 1 } := by
  intro B N W ps is ss hBN hN ho op oi os
  have n11 : (c.k == 11) = true := by simp [hk]
  have hpl : p ≤ x.items.length := hp.1
  have hlen20 : x.items.length < 20 := by unfold Val.size at hm; omega
  obtain rfl := ho.p.2 hi
  obtain rfl := ho.s.2 hs
  obtain ⟨ia, ic, rfl⟩ := ownsRow_shape ho.i.1
  obtain ⟨n0, n1, n2, n3, hb0, hz0⟩ := four_at W (valO x.kind x.text x.count (.slice none 0 0) (.slice ia x.items.length ic) (.slice none 0 0)) (cmdC c) (valO 0 ⟨#[]⟩ 0 (.slice none 0 0) (.slice none 0 0) (.slice none 0 0)) (repO 0 ⟨#[]⟩ 0 (.slice none 0 0))
  have hBS := bsearchI c.txt (.slice ia x.items.length ic) x.items p _ ((RowAt.ofOwn lenI ho.i.1 (by omega)).below hb0) hp
  rw [hh] at hBS
  clear hp hh hk
  go_enter Tryz.func98, Tryz.ntmps98
  go_wp2_with fail
  refine hBS.mono ?_
  rintro e w1 ⟨rfl, hb1⟩
  have hB1 := bstep hb0 hb1
  have sz1 : W.heap.size + 4 ≤ w1.heap.size := by rw [← hz0]; exact hb1.size
  have m0 := (hb1.block W.heap.size (by omega)).trans n0
  have m1 := (hb1.block (W.heap.size + 1) (by omega)).trans n1
  have m2 := (hb1.block (W.heap.size + 1 + 1) (by omega)).trans n2
  have m3 := (hb1.block (W.heap.size + 1 + 1 + 1) (by omega)).trans n3
  have hR := addItem_at x p c.txt hm hi hs hpl B N w1 _ _ _ hBN (by omega) (ho.kept hB1) oi
  clear n0 n1 n2 n3 hb1 hBS hb0 ho hi hs
  obtain ⟨c0, f0⟩ := block_cells m0
  obtain ⟨c1, f1⟩ := block_cells m1
  go_wp2_with fail
  refine hR.mono ?_
  rintro e w2 ⟨v2, u2, rfl, hr2, hu2, hK2⟩
  generalize hY : ({ x with items := x.items.take p ++ c.txt :: x.items.drop p } : Val) = y at hr2
  have HY : Hid (({ x with items := x.items.take p ++ c.txt :: x.items.drop p } : Val) = y) := hY
  clear hY
  obtain ⟨pa2, pc2, ia2, ic2, sa2, sc2, rfl⟩ := hr2.repsF.reps.shapes
  obtain ⟨la2, lc2, rfl⟩ := hu2.repRF.rep.shapes
  have k2 := (hK2.block (W.heap.size + 1 + 1) (by omega) (.inr (by omega))).trans m2
  have k3 := (hK2.block (W.heap.size + 1 + 1 + 1) (by omega) (.inr (by omega))).trans m3
  have sz2 := hK2.size
  have hK : Keeps B N W w2 := (Keeps.ofBelow hB1).trans hK2
  have HK : Hid (Keeps B N W w2) := hK
  clear m0 m1 m2 m3 c0 f0 c1 f1 hR hK2 hK
  obtain ⟨c2, f2⟩ := block_cells k2
  obtain ⟨c3, f3⟩ := block_cells k3
  clear k2 k3
  go_wp2_with fail
  refine bodyPost_ret (v := .tuple #[_, _]) (by simp [results, Tryz.results98, go_sem, c2, c3]; exact ⟨rfl, rfl⟩) rfl ⟨_, _, rfl, ?_, ?_, ?_⟩
  · rw [HY.out]
    refine RepsA.mono (N := N) (M := w1.heap.size) ?_ (Nat.le_refl _) (by omega)
    (iterate 10 (refine RepsA.set ?_ (by first | omega | (simp <;> omega)) (by first | omega | (simp <;> omega)) _))
    exact hr2
  · refine RepRA.mono (N := N) (M := w1.heap.size) ?_ (Nat.le_refl _) (by omega)
    (iterate 10 (refine RepRA.set ?_ (by first | omega | (simp <;> omega)) (by first | omega | (simp <;> omega)) _))
    exact hu2
  · (iterate 10 (refine Keeps.setCell ?_ (by first | omega | (simp <;> omega)) _))
    exact HK.out
end Go.Proofs.YtfnephnecighaaaGreat

/- Texts, scores and their order; places in rising lists; what is put in and taken out leaves them rising: plain lists alone. -/
namespace Go.Proofs.YtfnephnecighaaaGreat
open Go.RowKit
set_option linter.unusedVariables false

def posOf {α : Type} (cm : α → Int) (l : List α) : Nat := (l.takeWhile (fun a => decide (cm a < 0))).length
theorem posOf_le {α : Type} (cm : α → Int) : ∀ l : List α, posOf cm l ≤ l.length
  | [] => by simp [posOf]
  | a :: r => by
    have := posOf_le cm r
    unfold posOf at *
    rw [List.takeWhile_cons]
    split <;> simp <;> omega
theorem parts_of {α : Type} {lt : α → α → Bool} (cm : α → Int) (hm : ∀ a b, lt a b = true → cm b < 0 → cm a < 0) : ∀ l : List α, l.Pairwise (fun a b => lt a b = true) → Parts cm l (posOf cm l)
  | [], _ => ⟨by simp [posOf], fun a h => by simp at h⟩
  | x :: r, hp => by
    obtain ⟨h1, h2⟩ := List.pairwise_cons.1 hp
    have ih := parts_of cm hm r h2
    by_cases hx : cm x < 0
    · have e : posOf cm (x :: r) = posOf cm r + 1 := by unfold posOf; rw [List.takeWhile_cons]; simp [hx]
      rw [e]
      refine ⟨by have := ih.1; simp; omega, fun a ha => ?_⟩
      cases a with
      | zero => simp [hx]
      | succ a => simp at ha; have := ih.2 a ha; simp [this]
    · have e : posOf cm (x :: r) = 0 := by unfold posOf; rw [List.takeWhile_cons]; simp [hx]
      rw [e]
      refine ⟨by simp, fun a ha => ?_⟩
      cases a with
      | zero => simp [hx]
      | succ a =>
        simp at ha
        have hb := h1 r[a] (List.getElem_mem ha)
        simp
        by_cases hc : cm r[a] < 0
        · exact absurd (hm _ _ hb hc) hx
        · omega
/-- What stands ahead of the place, and behind it. -/
theorem parts_take {α : Type} {cm : α → Int} {l : List α} {p : Nat} (h : Parts cm l p) : (∀ a ∈ l.take p, cm a < 0) ∧ (∀ a ∈ l.drop p, ¬ cm a < 0) := by
  constructor
  · intro a ha
    obtain ⟨i, hi, rfl⟩ := List.getElem_of_mem ha
    simp at hi
    rw [List.getElem_take]
    exact (h.2 i (by omega)).2 (by omega)
  · intro a ha
    obtain ⟨i, hi, rfl⟩ := List.getElem_of_mem ha
    simp at hi
    rw [List.getElem_drop]
    intro hc
    have := (h.2 (p + i) (by omega)).1 hc
    omega
theorem hit_some {α : Type} {cm : α → Int} {l : List α} {p : Nat} (h : hitB cm l p = true) : ∃ hp : p < l.length, cm l[p] = 0 := by
  unfold hitB at h
  split at h
  · rename_i x hx
    obtain ⟨hp, rfl⟩ := List.getElem?_eq_some_iff.1 hx
    exact ⟨hp, by simpa using h⟩
  · cases h
theorem hit_none {α : Type} {cm : α → Int} {l : List α} {p : Nat} (h : hitB cm l p = false) (hp : p < l.length) : cm l[p] ≠ 0 := by
  unfold hitB at h
  rw [List.getElem?_eq_getElem hp] at h
  simpa using h
/-- Where it was not found, all that stands behind the place is above. -/
theorem parts_above {α : Type} {lt : α → α → Bool} {cm : α → Int} {l : List α} {p : Nat} (hm : ∀ a b, lt a b = true → 0 < cm a → 0 < cm b) (hs : l.Pairwise (fun a b => lt a b = true)) (h : Parts cm l p) (hh : hitB cm l p = false) : ∀ a ∈ l.drop p, 0 < cm a := by
  intro a ha
  have hp : p < l.length := by
    by_cases hp : p < l.length
    · exact hp
    · rw [List.drop_of_length_le (by omega)] at ha; cases ha
  have h0 : 0 < cm l[p] := by
    have h1 := hit_none hh hp
    have h2 := (h.2 p hp)
    have h3 : ¬ cm l[p] < 0 := fun e => by have := h2.1 e; omega
    omega
  rw [List.drop_eq_getElem_cons hp] at ha
  rcases List.mem_cons.1 ha with rfl | ha
  · exact h0
  · have hd := hs.sublist (List.drop_sublist p l)
    rw [List.drop_eq_getElem_cons hp] at hd
    exact hm _ _ ((List.pairwise_cons.1 hd).1 a ha) h0
theorem pair_insert {α : Type} {R : α → α → Prop} {l : List α} {p : Nat} {x : α} (hs : l.Pairwise R) (h1 : ∀ a ∈ l.take p, R a x) (h2 : ∀ b ∈ l.drop p, R x b) : (l.take p ++ x :: l.drop p).Pairwise R := by
  have hs' := hs
  rw [← List.take_append_drop p l, List.pairwise_append] at hs'
  rw [List.pairwise_append]
  refine ⟨hs'.1, List.pairwise_cons.2 ⟨h2, hs'.2.1⟩, fun a ha b hb => ?_⟩
  rcases List.mem_cons.1 hb with rfl | hb
  · exact h1 a ha
  · exact hs'.2.2 a ha b hb
theorem pair_delete {α : Type} {R : α → α → Prop} {l : List α} (p : Nat) (hs : l.Pairwise R) : (l.take p ++ l.drop (p + 1)).Pairwise R := by
  refine hs.sublist ?_
  have : l = l.take p ++ l.drop p := (List.take_append_drop p l).symm
  conv => rhs; rw [this]
  exact List.Sublist.append (List.Sublist.refl _) (by rw [← List.drop_drop]; exact List.drop_sublist 1 _)
theorem mem_insert {α : Type} {l : List α} {p : Nat} {x y : α} (h : y ∈ l.take p ++ x :: l.drop p) : y = x ∨ y ∈ l := by
  rcases List.mem_append.1 h with h | h
  · exact .inr (List.mem_of_mem_take h)
  · rcases List.mem_cons.1 h with h | h
    · exact .inl h
    · exact .inr (List.mem_of_mem_drop h)
theorem mem_delete {α : Type} {l : List α} {p : Nat} {y : α} (h : y ∈ l.take p ++ l.drop (p + 1)) : y ∈ l := by
  rcases List.mem_append.1 h with h | h
  · exact List.mem_of_mem_take h
  · exact List.mem_of_mem_drop h
theorem pair_set {α β : Type} {R : β → β → Prop} (f : α → β) {l : List α} {p : Nat} {x : α} (hs : (l.map f).Pairwise R) (hp : p < l.length) (hx : f x = f l[p]) : ((l.set p x).map f).Pairwise R := by
  have : (l.set p x).map f = l.map f := by
    apply List.ext_getElem (by simp)
    intro i h1 h2
    simp only [List.getElem_map, List.getElem_set]
    split
    · rename_i e; subst e; exact hx
    · rfl
  rw [this]; exact hs
end Go.Proofs.YtfnephnecighaaaGreat

/- What is taken from a value's own lists: a member. -/
namespace Go.Proofs.YtfnephnecighaaaGreat
open Go.RowKit
set_option linter.unusedVariables false

set_option maxHeartbeats 1000000 in
theorem withoutScore_at (B i : Nat) (s : Value) (l : List (ByteArray × Int)) (w : World) (ho : w.ownsRow B 69 2 s l.length (l.flatMap encS)) (hi : i < l.length) (hn : l.length ≤ 1048576) :
    Calls Tryz.prog 143 #[s, .int .i64 (i : Int)] w fun e w' => ∃ r, e = .returned r ∧ w'.ownsRow B 69 2 r (l.length - 1) ((l.take i ++ l.drop (i + 1)).flatMap encS) ∧ w.grownBy w' s.ownBlock ∧ r.ownBlock = s.ownBlock := by
  have hd := deleteS_any B i s l w ho hi hn
  obtain ⟨a, c, rfl⟩ := ownsRow_shape ho
  have hw : IntKind.i64.wrap ((i : Int) + 1) = (i : Int) + 1 := by rw [IntKind.wrap_i64]; omega
  have h0 : ¬ ((i : Int) < 0) := by omega
  clear ho
  go_enter Tryz.func143, Tryz.ntmps143
  go_wp2_with fail
  refine hd.mono ?_
  rintro e w' ⟨r, rfl, h1, h2, h3⟩
  obtain ⟨a2, c2, rfl⟩ := ownsRow_shape h1
  have H : Hid (w'.ownsRow B 69 2 (.slice a2 (l.length - 1) c2) (l.length - 1) ((l.take i ++ l.drop (i + 1)).flatMap encS) ∧ w.grownBy w' (Value.slice a l.length c).ownBlock ∧ (Value.slice a2 (l.length - 1) c2).ownBlock = (Value.slice a l.length c).ownBlock) := ⟨h1, h2, h3⟩
  clear h1 h2 h3 hd
  go_wp2_with fail
  go_ret
  exact ⟨_, rfl, H.out⟩

def isMember (t : ByteArray) (q : ByteArray × Int) : Bool := q.1.toList == t.toList
set_option maxHeartbeats 1000000 in
theorem member_pred (c : Cmd) (b : Nat) (w : World) (hb : w.heap[b]? = some (cmdC c)) : PredOf Tryz.prog valS (isMember c.txt) 140 #[.pointer (some ⟨b, 0, none⟩)] w := by
  intro x W hB
  have hbl := (Array.getElem?_eq_some_iff.1 hb).1
  have hW := (hB.block b hbl).trans hb
  have hz := hB.size
  obtain ⟨c0, f0⟩ := block_cells hW
  have hne : b ≠ W.heap.size := by omega
  have hlt : b < W.heap.size := by omega
  clear hb hW
  go_enter Tryz.func140, Tryz.ntmps140
  go_wp2_with fail
  all_goals (go_ret; refine ⟨ret_bool ?_, by first | exact balloc _ _ | exact Below.refl _ _⟩; simp_all [isMember])
theorem member_enter : ∀ args w, (callFunc 140 args).run Tryz.prog w = .ok (.enter 140 args) w := enters_of Tryz.func140 (by kernel_rfl) rfl
set_option maxHeartbeats 8000000 in
theorem rank_del (x : Val) (c : Cmd) (p : Nat) (hk : c.k = 15) (hm : x.scores.length ≤ 1048576) (hi : x.pairs = []) (hs : x.items = []) (hpl : p < x.scores.length) (hh : idxI (isMember c.txt) x.scores = (p : Int)) :
    Does 99 x c { x with scores := x.scores.take p ++ x.scores.drop (p + 1) } { n := 1 } := by
  intro B N W ps is ss hBN hN ho op oi os
  obtain rfl := ho.p.2 hi
  obtain rfl := ho.i.2 hs
  have hps := ho.s.1
  obtain ⟨pa, pc, rfl⟩ := ownsRow_shape hps
  have n4 : (c.k == 14) = false := by simp [hk]
  have n5 : (c.k == 15) = true := by simp [hk]
  have hb0 : Below W.heap.size W ((((W.alloc (valO x.kind x.text x.count (.slice none 0 0) (.slice none 0 0) (.slice pa x.scores.length pc))).alloc (cmdC c)).alloc (valO 0 ⟨#[]⟩ 0 (.slice none 0 0) (.slice none 0 0) (.slice none 0 0))).alloc (repO 0 ⟨#[]⟩ 0 (.slice none 0 0))) := (((balloc W _).alloc (by simp) _).alloc (by simp; omega) _).alloc (by simp; omega) _
  obtain ⟨n0, n1, n2, n3, -, hz0⟩ := four_at W (valO x.kind x.text x.count (.slice none 0 0) (.slice none 0 0) (.slice pa x.scores.length pc)) (cmdC c) (valO 0 ⟨#[]⟩ 0 (.slice none 0 0) (.slice none 0 0) (.slice none 0 0)) (repO 0 ⟨#[]⟩ 0 (.slice none 0 0))
  have hBS := indexFuncS 140 #[.pointer (some ⟨W.heap.size + 1, 0, none⟩)] (isMember c.txt) member_enter (.slice pa x.scores.length pc) x.scores _ ((RowAt.ofOwn lenS hps (by omega)).below hb0) (member_pred c _ _ n1)
  rw [hh] at hBS
  clear hh hk
  have hp0 : (0 : Int) ≤ (p : Int) := by omega
  go_enter Tryz.func99, Tryz.ntmps99
  go_wp2_with fail
  refine hBS.mono ?_
  rintro e w1 ⟨rfl, hb1⟩
  have hB1 := bstep hb0 hb1
  have sz1 : W.heap.size + 4 ≤ w1.heap.size := by rw [← hz0]; exact hb1.size
  have m0 := (hb1.block W.heap.size (by omega)).trans n0
  have m1 := (hb1.block (W.heap.size + 1) (by omega)).trans n1
  have m2 := (hb1.block (W.heap.size + 1 + 1) (by omega)).trans n2
  have m3 := (hb1.block (W.heap.size + 1 + 1 + 1) (by omega)).trans n3
  clear n0 n1 n2 n3 hb1 hBS hz0 hb0
  obtain ⟨c0, f0⟩ := block_cells m0
  obtain ⟨c1, f1⟩ := block_cells m1
  have hw : IntKind.i64.wrap ((p : Int) + 1) = (p : Int) + 1 := by rw [IntKind.wrap_i64]; omega
  go_wp2_with fail
  refine (withoutScore_at B p _ x.scores w1 (ho.s.kept hB1).1 hpl hm).mono ?_
  rintro e w2 ⟨r, rfl, ho2, hg2, hrb⟩
  obtain ⟨a2, c2, rfl⟩ := ownsRow_shape ho2
  have hnb : ∀ k, W.heap.size ≤ k → some k ≠ (Value.slice pa x.scores.length pc).ownBlock := fun k hk e => by have := os _ e.symm; omega
  have hK : Keeps B N W w2 := (Keeps.ofBelow hB1).trans (Keeps.grown hg2 (fun k hk => ⟨((ho.s.kept hB1).1.lt k hk).1, os k hk⟩))
  have sz2 := hg2.size
  have k0 := (hg2.block W.heap.size (by omega) (hnb _ (by omega))).trans m0
  have k2 := (hg2.block (W.heap.size + 1 + 1) (by omega) (hnb _ (by omega))).trans m2
  have k3 := (hg2.block (W.heap.size + 1 + 1 + 1) (by omega) (hnb _ (by omega))).trans m3
  have e0 := own_ne ho2 k0 (by decide)
  have e2 := own_ne ho2 k2 (by decide)
  have e3 := own_ne ho2 k3 (by decide)
  have hlen : (x.scores.take p ++ x.scores.drop (p + 1)).length = x.scores.length - 1 := by simp; omega
  have HO : Hid (w2.ownsRow B 69 2 (.slice a2 (x.scores.length - 1) c2) (x.scores.take p ++ x.scores.drop (p + 1)).length ((x.scores.take p ++ x.scores.drop (p + 1)).flatMap encS)) := (by rw [hlen]; exact ho2 : w2.ownsRow B 69 2 (.slice a2 (x.scores.length - 1) c2) (x.scores.take p ++ x.scores.drop (p + 1)).length ((x.scores.take p ++ x.scores.drop (p + 1)).flatMap encS))
  have HE : Hid ((Value.slice a2 (x.scores.length - 1) c2).ownBlock ≠ some W.heap.size ∧ (Value.slice a2 (x.scores.length - 1) c2).ownBlock ≠ some (W.heap.size + 1 + 1) ∧ (Value.slice a2 (x.scores.length - 1) c2).ownBlock ≠ some (W.heap.size + 1 + 1 + 1)) := ⟨e0, e2, e3⟩
  have HK : Hid (Keeps B N W w2) := hK
  have HIN : Hid (In B N W.heap.size (.slice a2 (x.scores.length - 1) c2)) := (fun k hk => ⟨(ho2.lt k hk).1, .inl (os k (hrb ▸ hk))⟩ : In B N W.heap.size (.slice a2 (x.scores.length - 1) c2))
  have HL : Hid ((x.scores.take p ++ x.scores.drop (p + 1)).length ≤ 140737488355328) := (by rw [hlen]; omega : (x.scores.take p ++ x.scores.drop (p + 1)).length ≤ 140737488355328)
  clear m0 m1 m2 m3 c0 f0 c1 f1 hg2 hnb hK e0 e2 e3 ho2 hlen hps hrb
  obtain ⟨c0, f0⟩ := block_cells k0
  obtain ⟨c2', f2⟩ := block_cells k2
  obtain ⟨c3, f3⟩ := block_cells k3
  clear k0 k2 k3
  have q0 : W.heap.size < w2.heap.size := by omega
  go_wp2_with fail
  go_region_with (go_at_call 133; refine (number_any _ _).mono ?_; rintro e w3 ⟨rfl, rfl⟩)
  all_goals
    go_wp2_with fail
    refine bodyPost_ret (v := .tuple #[valV x.kind x.text x.count (.slice none 0 0) (.slice none 0 0) (.slice a2 (x.scores.length - 1) c2), repV 0 ⟨#[]⟩ 1 (.slice none 0 0)]) (by simp [results, Tryz.results99, go_sem, c2', c3]) rfl ⟨_, _, rfl, ⟨_, _, _, rfl, ⟨(by show RowAt 2 encP _ (.slice none 0 0) x.pairs; rw [hi]; exact RowAt.nil _ _ _), (by show RowAt 1 encI _ (.slice none 0 0) x.items; rw [hs]; exact RowAt.nil _ _ _), RowAt.ofOwn lenS (base := B) (e := 69) ?_ HL.out⟩, In.nil _ _ _, In.nil _ _ _, ?_⟩, ⟨_, rfl, RowAt.nil _ _ _, In.nil _ _ _⟩, ?_⟩
    · refine own_drew ?_
      (iterate 11 (refine own_set ?_ (by first | exact HE.out.1 | exact HE.out.2.1 | exact HE.out.2.2) _))
      exact HO.out
    · exact HIN.out
    · refine Keeps.drew ?_
      (iterate 11 (refine Keeps.setCell ?_ (by first | omega | (simp <;> omega)) _))
      exact HK.out
end Go.Proofs.YtfnephnecighaaaGreat
