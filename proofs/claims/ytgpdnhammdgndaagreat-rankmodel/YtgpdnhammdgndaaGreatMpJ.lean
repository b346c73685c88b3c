/- Texts, scores and their order; places in rising lists; what is put in and taken out leaves them rising: plain lists alone. -/
import Derived.Test.YtgpdnhammdgndaaGreatPfJ
import Derived.Test.YtgpdnhammdgndaaGreatPaJ
import Derived.Deep.RegionHeld3
namespace Go.Proofs.YtgpdnhammdgndaaGreat
open Go.RowKit
set_option linter.unusedVariables false

theorem bytes_ext {a b : ByteArray} (h : a.toList = b.toList) : a = b := by
  rw [ByteArray.toList_eq, ByteArray.toList_eq] at h
  cases a; cases b
  simp at h
  simp [h]
theorem ltS_iff (a b : ByteArray) : ltS a b = true ↔ a.toList < b.toList := by rw [ltS, bytesLess_eq]; simp
theorem ltS_trans {a b c : ByteArray} (h : ltS a b = true) (h' : ltS b c = true) : ltS a c = true := by
  rw [ltS_iff] at *; exact List.lt_trans h h'
theorem ltS_irrefl (a : ByteArray) : ltS a a = false := by
  cases h : ltS a a with
  | false => rfl
  | true => rw [ltS_iff] at h; exact absurd h (List.lt_irrefl _)
theorem ltS_asymm {a b : ByteArray} (h : ltS a b = true) : ltS b a = false := by
  cases h' : ltS b a with
  | false => rfl
  | true => have := ltS_trans h h'; rw [ltS_irrefl] at this; cases this
theorem ltS_tri {a b : ByteArray} (h : ltS a b = false) (h' : ltS b a = false) : a = b := by
  apply bytes_ext
  have h1 : ¬ a.toList < b.toList := fun e => by rw [(ltS_iff a b).2 e] at h; cases h
  have h2 : ¬ b.toList < a.toList := fun e => by rw [(ltS_iff b a).2 e] at h'; cases h'
  exact List.le_antisymm (List.not_lt.1 h2) (List.not_lt.1 h1)
theorem cmpS_cases (a b : ByteArray) : (cmpS a b = -1 ∧ ltS a b = true) ∨ (cmpS a b = 0 ∧ a = b) ∨ (cmpS a b = 1 ∧ ltS b a = true) := by
  unfold cmpS
  by_cases h : ltS a b = true
  · exact .inl ⟨by simp [h], h⟩
  · by_cases e : (a.toList == b.toList) = true
    · exact .inr (.inl ⟨by simp [h, e], bytes_ext (by simpa using e)⟩)
    · refine .inr (.inr ⟨by simp [h, e], ?_⟩)
      cases h' : ltS b a with
      | true => rfl
      | false => exact absurd (congrArg (fun x => x.toList == b.toList) (ltS_tri (by simpa using h) h')) (by simp at e ⊢; exact e)
theorem cmpS_lt (a b : ByteArray) : cmpS a b < 0 ↔ ltS a b = true := by
  rcases cmpS_cases a b with ⟨h, e⟩ | ⟨h, e⟩ | ⟨h, e⟩
  · simp [h, e]
  · subst e; simp [h, ltS_irrefl]
  · simp [h, ltS_asymm e]
theorem cmpS_eq (a b : ByteArray) : cmpS a b = 0 ↔ a = b := by
  rcases cmpS_cases a b with ⟨h, e⟩ | ⟨h, e⟩ | ⟨h, e⟩
  · simp [h]; rintro rfl; rw [ltS_irrefl] at e; cases e
  · subst e; simp [h]
  · simp [h]; rintro rfl; rw [ltS_irrefl] at e; cases e
theorem cmpS_gt (a b : ByteArray) : 0 < cmpS a b ↔ ltS b a = true := by
  rcases cmpS_cases a b with ⟨h, e⟩ | ⟨h, e⟩ | ⟨h, e⟩
  · simp [h, ltS_asymm e]
  · subst e; simp [h, ltS_irrefl]
  · simp [h, e]

/-- Scores: less, by numbers and then by members. -/
theorem ltSc_iff (a b : ByteArray × Int) : ltSc a b = true ↔ (a.2 < b.2 ∨ (a.2 = b.2 ∧ ltS a.1 b.1 = true)) := by
  unfold ltSc cmpSc cmpI
  by_cases h : a.2 = b.2
  · simp [h, cmpS_lt]
  · rw [if_neg h]
    by_cases h1 : a.2 < b.2
    · simp [h1]
    · have : b.2 < a.2 := by omega
      simp [h1, this, h]
theorem ltSc_trans {a b c : ByteArray × Int} (h : ltSc a b = true) (h' : ltSc b c = true) : ltSc a c = true := by
  rw [ltSc_iff] at *
  rcases h with h | ⟨h, e⟩ <;> rcases h' with h' | ⟨h', e'⟩
  · left; omega
  · left; omega
  · left; omega
  · exact .inr ⟨by omega, ltS_trans e e'⟩
theorem ltSc_irrefl (a : ByteArray × Int) : ltSc a a = false := by
  cases h : ltSc a a with
  | false => rfl
  | true => rw [ltSc_iff] at h; rcases h with h | ⟨-, h⟩; omega; rw [ltS_irrefl] at h; cases h
theorem ltSc_tri {a b : ByteArray × Int} (h : ltSc a b = false) (h' : ltSc b a = false) : a = b := by
  have h1 : ¬ (a.2 < b.2 ∨ (a.2 = b.2 ∧ ltS a.1 b.1 = true)) := fun e => by rw [(ltSc_iff a b).2 e] at h; cases h
  have h2 : ¬ (b.2 < a.2 ∨ (b.2 = a.2 ∧ ltS b.1 a.1 = true)) := fun e => by rw [(ltSc_iff b a).2 e] at h'; cases h'
  have e2 : a.2 = b.2 := by omega
  have e1 : a.1 = b.1 := ltS_tri (by simpa [e2] using h1) (by simpa [e2] using h2)
  cases a; cases b; simp_all
theorem cmpSc_neg (a b : ByteArray × Int) : cmpSc a b < 0 ↔ ltSc a b = true := by simp [ltSc]

theorem rises_pair {α : Type} {lt : α → α → Bool} (ht : ∀ a b c, lt a b = true → lt b c = true → lt a c = true) : ∀ l : List α, risesB lt l = true ↔ l.Pairwise (fun a b => lt a b = true)
  | [] => by simp [risesB]
  | [a] => by simp [risesB]
  | a :: b :: r => by
    rw [risesB, Bool.and_eq_true, rises_pair ht (b :: r), List.pairwise_cons (a := a)]
    constructor
    · rintro ⟨h1, h2⟩
      refine ⟨fun c hc => ?_, h2⟩
      rcases List.mem_cons.1 hc with rfl | hc
      · exact h1
      · exact ht _ _ _ h1 ((List.pairwise_cons.1 h2).1 c hc)
    · rintro ⟨h1, h2⟩
      exact ⟨h1 b (by simp), h2⟩

def posOf {α : Type} (cm : α → Int) (l : List α) : Nat := (l.takeWhile (fun a => decide (cm a < 0))).length
theorem posOf_le {α : Type} (cm : α → Int) : ∀ l : List α, posOf cm l ≤ l.length
  | [] => by simp [posOf]
  | a :: r => by
    have := posOf_le cm r
    unfold posOf at *
    rw [List.takeWhile_cons]
    split <;> simp <;> omega
theorem parts_of {α : Type} {lt : α → α → Bool} (cm : α → Int) (hm : ∀ a b, lt a b = true → cm b < 0 → cm a < 0) : ∀ l : List α, l.Pairwise (fun a b => lt a b = true) → Parts cm l (posOf cm l)
  | [], _ => ⟨by simp [posOf], fun a h => by simp at h⟩
  | x :: r, hp => by
    obtain ⟨h1, h2⟩ := List.pairwise_cons.1 hp
    have ih := parts_of cm hm r h2
    by_cases hx : cm x < 0
    · have e : posOf cm (x :: r) = posOf cm r + 1 := by unfold posOf; rw [List.takeWhile_cons]; simp [hx]
      rw [e]
      refine ⟨by have := ih.1; simp; omega, fun a ha => ?_⟩
      cases a with
      | zero => simp [hx]
      | succ a => simp at ha; have := ih.2 a ha; simp [this]
    · have e : posOf cm (x :: r) = 0 := by unfold posOf; rw [List.takeWhile_cons]; simp [hx]
      rw [e]
      refine ⟨by simp, fun a ha => ?_⟩
      cases a with
      | zero => simp [hx]
      | succ a =>
        simp at ha
        have hb := h1 r[a] (List.getElem_mem ha)
        simp
        by_cases hc : cm r[a] < 0
        · exact absurd (hm _ _ hb hc) hx
        · omega
/-- What stands ahead of the place, and behind it. -/
theorem parts_take {α : Type} {cm : α → Int} {l : List α} {p : Nat} (h : Parts cm l p) : (∀ a ∈ l.take p, cm a < 0) ∧ (∀ a ∈ l.drop p, ¬ cm a < 0) := by
  constructor
  · intro a ha
    obtain ⟨i, hi, rfl⟩ := List.getElem_of_mem ha
    simp at hi
    rw [List.getElem_take]
    exact (h.2 i (by omega)).2 (by omega)
  · intro a ha
    obtain ⟨i, hi, rfl⟩ := List.getElem_of_mem ha
    simp at hi
    rw [List.getElem_drop]
    intro hc
    have := (h.2 (p + i) (by omega)).1 hc
    omega
theorem hit_some {α : Type} {cm : α → Int} {l : List α} {p : Nat} (h : hitB cm l p = true) : ∃ hp : p < l.length, cm l[p] = 0 := by
  unfold hitB at h
  split at h
  · rename_i x hx
    obtain ⟨hp, rfl⟩ := List.getElem?_eq_some_iff.1 hx
    exact ⟨hp, by simpa using h⟩
  · cases h
theorem hit_none {α : Type} {cm : α → Int} {l : List α} {p : Nat} (h : hitB cm l p = false) (hp : p < l.length) : cm l[p] ≠ 0 := by
  unfold hitB at h
  rw [List.getElem?_eq_getElem hp] at h
  simpa using h
/-- Where it was not found, all that stands behind the place is above. -/
theorem parts_above {α : Type} {lt : α → α → Bool} {cm : α → Int} {l : List α} {p : Nat} (hm : ∀ a b, lt a b = true → 0 < cm a → 0 < cm b) (hs : l.Pairwise (fun a b => lt a b = true)) (h : Parts cm l p) (hh : hitB cm l p = false) : ∀ a ∈ l.drop p, 0 < cm a := by
  intro a ha
  have hp : p < l.length := by
    by_cases hp : p < l.length
    · exact hp
    · rw [List.drop_of_length_le (by omega)] at ha; cases ha
  have h0 : 0 < cm l[p] := by
    have h1 := hit_none hh hp
    have h2 := (h.2 p hp)
    have h3 : ¬ cm l[p] < 0 := fun e => by have := h2.1 e; omega
    omega
  rw [List.drop_eq_getElem_cons hp] at ha
  rcases List.mem_cons.1 ha with rfl | ha
  · exact h0
  · have hd := hs.sublist (List.drop_sublist p l)
    rw [List.drop_eq_getElem_cons hp] at hd
    exact hm _ _ ((List.pairwise_cons.1 hd).1 a ha) h0
theorem pair_insert {α : Type} {R : α → α → Prop} {l : List α} {p : Nat} {x : α} (hs : l.Pairwise R) (h1 : ∀ a ∈ l.take p, R a x) (h2 : ∀ b ∈ l.drop p, R x b) : (l.take p ++ x :: l.drop p).Pairwise R := by
  have hs' := hs
  rw [← List.take_append_drop p l, List.pairwise_append] at hs'
  rw [List.pairwise_append]
  refine ⟨hs'.1, List.pairwise_cons.2 ⟨h2, hs'.2.1⟩, fun a ha b hb => ?_⟩
  rcases List.mem_cons.1 hb with rfl | hb
  · exact h1 a ha
  · exact hs'.2.2 a ha b hb
theorem pair_delete {α : Type} {R : α → α → Prop} {l : List α} (p : Nat) (hs : l.Pairwise R) : (l.take p ++ l.drop (p + 1)).Pairwise R := by
  refine hs.sublist ?_
  have : l = l.take p ++ l.drop p := (List.take_append_drop p l).symm
  conv => rhs; rw [this]
  exact List.Sublist.append (List.Sublist.refl _) (by rw [← List.drop_drop]; exact List.drop_sublist 1 _)
theorem mem_insert {α : Type} {l : List α} {p : Nat} {x y : α} (h : y ∈ l.take p ++ x :: l.drop p) : y = x ∨ y ∈ l := by
  rcases List.mem_append.1 h with h | h
  · exact .inr (List.mem_of_mem_take h)
  · rcases List.mem_cons.1 h with h | h
    · exact .inl h
    · exact .inr (List.mem_of_mem_drop h)
theorem mem_delete {α : Type} {l : List α} {p : Nat} {y : α} (h : y ∈ l.take p ++ l.drop (p + 1)) : y ∈ l := by
  rcases List.mem_append.1 h with h | h
  · exact List.mem_of_mem_take h
  · exact List.mem_of_mem_drop h
theorem pair_set {α β : Type} {R : β → β → Prop} (f : α → β) {l : List α} {p : Nat} {x : α} (hs : (l.map f).Pairwise R) (hp : p < l.length) (hx : f x = f l[p]) : ((l.set p x).map f).Pairwise R := by
  have : (l.set p x).map f = l.map f := by
    apply List.ext_getElem (by simp)
    intro i h1 h2
    simp only [List.getElem_map, List.getElem_set]
    split
    · rename_i e; subst e; exact hx
    · rfl
  rw [this]; exact hs
end Go.Proofs.YtgpdnhammdgndaaGreat

/- What is taken from a value's own lists: a member. -/
namespace Go.Proofs.YtgpdnhammdgndaaGreat
open Go.RowKit
set_option linter.unusedVariables false

set_option maxHeartbeats 1000000 in
theorem withoutScore_at (B i : Nat) (s : Value) (l : List (ByteArray × Int)) (w : World) (ho : w.ownsRow B 53 2 s l.length (l.flatMap encS)) (hi : i < l.length) (hn : l.length ≤ 1048576) :
    Calls Tryz.prog 107 #[s, .int .i64 (i : Int)] w fun e w' => ∃ r, e = .returned r ∧ w'.ownsRow B 53 2 r (l.length - 1) ((l.take i ++ l.drop (i + 1)).flatMap encS) ∧ w.grownBy w' s.ownBlock ∧ r.ownBlock = s.ownBlock := by
  have hd := deleteS_any B i s l w ho hi hn
  obtain ⟨a, c, rfl⟩ := ownsRow_shape ho
  have hw : IntKind.i64.wrap ((i : Int) + 1) = (i : Int) + 1 := by rw [IntKind.wrap_i64]; omega
  have h0 : ¬ ((i : Int) < 0) := by omega
  clear ho
  go_enter Tryz.func107, Tryz.ntmps107
  go_wp2_with fail
  refine hd.mono ?_
  rintro e w' ⟨r, rfl, h1, h2, h3⟩
  obtain ⟨a2, c2, rfl⟩ := ownsRow_shape h1
  have H : Hid (w'.ownsRow B 53 2 (.slice a2 (l.length - 1) c2) (l.length - 1) ((l.take i ++ l.drop (i + 1)).flatMap encS) ∧ w.grownBy w' (Value.slice a l.length c).ownBlock ∧ (Value.slice a2 (l.length - 1) c2).ownBlock = (Value.slice a l.length c).ownBlock) := ⟨h1, h2, h3⟩
  clear h1 h2 h3 hd
  go_wp2_with fail
  go_ret
  exact ⟨_, rfl, H.out⟩

def isMember (t : ByteArray) (q : ByteArray × Int) : Bool := q.1.toList == t.toList
set_option maxHeartbeats 1000000 in
theorem member_pred (c : Cmd) (b : Nat) (w : World) (hb : w.heap[b]? = some (cmdC c)) : PredOf Tryz.prog valS (isMember c.txt) 104 #[.pointer (some ⟨b, 0, none⟩)] w := by
  intro x W hB
  have hbl := (Array.getElem?_eq_some_iff.1 hb).1
  have hW := (hB.block b hbl).trans hb
  have hz := hB.size
  obtain ⟨c0, f0⟩ := block_cells hW
  have hne : b ≠ W.heap.size := by omega
  have hlt : b < W.heap.size := by omega
  clear hb hW
  go_enter Tryz.func104, Tryz.ntmps104
  go_wp2_with fail
  all_goals (go_ret; refine ⟨ret_bool ?_, by first | exact balloc _ _ | exact Below.refl _ _⟩; simp_all [isMember])
theorem member_enter : ∀ args w, (callFunc 104 args).run Tryz.prog w = .ok (.enter 104 args) w := enters_of Tryz.func104 (by kernel_rfl) rfl
set_option maxHeartbeats 8000000 in
theorem rank_del (x : Val) (c : Cmd) (p : Nat) (hk : c.k = 15) (hm : x.scores.length ≤ 1048576) (hi : x.pairs = []) (hs : x.items = []) (hpl : p < x.scores.length) (hh : idxI (isMember c.txt) x.scores = (p : Int)) :
    Does 69 x c { x with scores := x.scores.take p ++ x.scores.drop (p + 1) } { n := 1 } := by
  intro B N W ps is ss hBN hN ho op oi os
  obtain rfl := ho.p.2 hi
  obtain rfl := ho.i.2 hs
  have hps := ho.s.1
  obtain ⟨pa, pc, rfl⟩ := ownsRow_shape hps
  have n4 : (c.k == 14) = false := by simp [hk]
  have n5 : (c.k == 15) = true := by simp [hk]
  have hb0 : Below W.heap.size W ((((W.alloc (valO x.kind x.text x.count (.slice none 0 0) (.slice none 0 0) (.slice pa x.scores.length pc))).alloc (cmdC c)).alloc (valO 0 ⟨#[]⟩ 0 (.slice none 0 0) (.slice none 0 0) (.slice none 0 0))).alloc (repO 0 ⟨#[]⟩ 0 (.slice none 0 0))) := (((balloc W _).alloc (by simp) _).alloc (by simp; omega) _).alloc (by simp; omega) _
  obtain ⟨n0, n1, n2, n3, -, hz0⟩ := four_at W (valO x.kind x.text x.count (.slice none 0 0) (.slice none 0 0) (.slice pa x.scores.length pc)) (cmdC c) (valO 0 ⟨#[]⟩ 0 (.slice none 0 0) (.slice none 0 0) (.slice none 0 0)) (repO 0 ⟨#[]⟩ 0 (.slice none 0 0))
  have hBS := indexFuncS 104 #[.pointer (some ⟨W.heap.size + 1, 0, none⟩)] (isMember c.txt) member_enter (.slice pa x.scores.length pc) x.scores _ ((RowAt.ofOwn lenS hps (by omega)).below hb0) (member_pred c _ _ n1)
  rw [hh] at hBS
  clear hh hk
  have hp0 : (0 : Int) ≤ (p : Int) := by omega
  go_enter Tryz.func69, Tryz.ntmps69
  go_wp2_with fail
  refine hBS.mono ?_
  rintro e w1 ⟨rfl, hb1⟩
  have hB1 := bstep hb0 hb1
  have sz1 : W.heap.size + 4 ≤ w1.heap.size := by rw [← hz0]; exact hb1.size
  have m0 := (hb1.block W.heap.size (by omega)).trans n0
  have m1 := (hb1.block (W.heap.size + 1) (by omega)).trans n1
  have m2 := (hb1.block (W.heap.size + 1 + 1) (by omega)).trans n2
  have m3 := (hb1.block (W.heap.size + 1 + 1 + 1) (by omega)).trans n3
  clear n0 n1 n2 n3 hb1 hBS hz0 hb0
  obtain ⟨c0, f0⟩ := block_cells m0
  obtain ⟨c1, f1⟩ := block_cells m1
  have hw : IntKind.i64.wrap ((p : Int) + 1) = (p : Int) + 1 := by rw [IntKind.wrap_i64]; omega
  go_wp2_with fail
  refine (withoutScore_at B p _ x.scores w1 (ho.s.kept hB1).1 hpl hm).mono ?_
  rintro e w2 ⟨r, rfl, ho2, hg2, hrb⟩
  obtain ⟨a2, c2, rfl⟩ := ownsRow_shape ho2
  have hnb : ∀ k, W.heap.size ≤ k → some k ≠ (Value.slice pa x.scores.length pc).ownBlock := fun k hk e => by have := os _ e.symm; omega
  have hK : Keeps B N W w2 := (Keeps.ofBelow hB1).trans (Keeps.grown hg2 (fun k hk => ⟨((ho.s.kept hB1).1.lt k hk).1, os k hk⟩))
  have sz2 := hg2.size
  have k0 := (hg2.block W.heap.size (by omega) (hnb _ (by omega))).trans m0
  have k2 := (hg2.block (W.heap.size + 1 + 1) (by omega) (hnb _ (by omega))).trans m2
  have k3 := (hg2.block (W.heap.size + 1 + 1 + 1) (by omega) (hnb _ (by omega))).trans m3
  have e0 := own_ne ho2 k0 (by decide)
  have e2 := own_ne ho2 k2 (by decide)
  have e3 := own_ne ho2 k3 (by decide)
  have hlen : (x.scores.take p ++ x.scores.drop (p + 1)).length = x.scores.length - 1 := by simp; omega
  have HO : Hid (w2.ownsRow B 53 2 (.slice a2 (x.scores.length - 1) c2) (x.scores.take p ++ x.scores.drop (p + 1)).length ((x.scores.take p ++ x.scores.drop (p + 1)).flatMap encS)) := (by rw [hlen]; exact ho2 : w2.ownsRow B 53 2 (.slice a2 (x.scores.length - 1) c2) (x.scores.take p ++ x.scores.drop (p + 1)).length ((x.scores.take p ++ x.scores.drop (p + 1)).flatMap encS))
  have HE : Hid ((Value.slice a2 (x.scores.length - 1) c2).ownBlock ≠ some W.heap.size ∧ (Value.slice a2 (x.scores.length - 1) c2).ownBlock ≠ some (W.heap.size + 1 + 1) ∧ (Value.slice a2 (x.scores.length - 1) c2).ownBlock ≠ some (W.heap.size + 1 + 1 + 1)) := ⟨e0, e2, e3⟩
  have HK : Hid (Keeps B N W w2) := hK
  have HIN : Hid (In B N W.heap.size (.slice a2 (x.scores.length - 1) c2)) := (fun k hk => ⟨(ho2.lt k hk).1, .inl (os k (hrb ▸ hk))⟩ : In B N W.heap.size (.slice a2 (x.scores.length - 1) c2))
  have HL : Hid ((x.scores.take p ++ x.scores.drop (p + 1)).length ≤ 140737488355328) := (by rw [hlen]; omega : (x.scores.take p ++ x.scores.drop (p + 1)).length ≤ 140737488355328)
  clear m0 m1 m2 m3 c0 f0 c1 f1 hg2 hnb hK e0 e2 e3 ho2 hlen hps hrb
  obtain ⟨c0, f0⟩ := block_cells k0
  obtain ⟨c2', f2⟩ := block_cells k2
  obtain ⟨c3, f3⟩ := block_cells k3
  clear k0 k2 k3
  have q0 : W.heap.size < w2.heap.size := by omega
  go_wp2_with fail
  go_region_with (go_at_call 97; refine (number_any _ _).mono ?_; rintro e w3 ⟨rfl, rfl⟩)
  all_goals
    go_wp2_with fail
    refine bodyPost_ret (v := .tuple #[valV x.kind x.text x.count (.slice none 0 0) (.slice none 0 0) (.slice a2 (x.scores.length - 1) c2), repV 0 ⟨#[]⟩ 1 (.slice none 0 0)]) (by simp [results, Tryz.results69, go_sem, c2', c3]) rfl ⟨_, _, rfl, ⟨_, _, _, rfl, ⟨(by show RowAt 2 encP _ (.slice none 0 0) x.pairs; rw [hi]; exact RowAt.nil _ _ _), (by show RowAt 1 encI _ (.slice none 0 0) x.items; rw [hs]; exact RowAt.nil _ _ _), RowAt.ofOwn lenS (base := B) (e := 53) ?_ HL.out⟩, In.nil _ _ _, In.nil _ _ _, ?_⟩, ⟨_, rfl, RowAt.nil _ _ _, In.nil _ _ _⟩, ?_⟩
    · refine own_drew ?_
      (iterate 11 (refine own_set ?_ (by first | exact HE.out.1 | exact HE.out.2.1 | exact HE.out.2.2) _))
      exact HO.out
    · exact HIN.out
    · refine Keeps.drew ?_
      (iterate 11 (refine Keeps.setCell ?_ (by first | omega | (simp <;> omega)) _))
      exact HK.out
end Go.Proofs.YtgpdnhammdgndaaGreat
