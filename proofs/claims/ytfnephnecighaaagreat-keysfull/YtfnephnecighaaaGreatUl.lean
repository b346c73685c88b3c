/- Regions that draw, whose last stores are of cells that they read: loads are taken first all the same, as nothing of the region can come up before them that turns what they read. -/
import Derived.Test.YtfnephnecighaaaGreatCbJ
import Derived.Deep.RegionHeld3
import Derived.Deep.RegionWith
namespace Go.Proofs.YtfnephnecighaaaGreat
open Go.RowKit
set_option linter.unusedVariables false

section
variable {P : Program} {ops : Array Oper} {Q : Exit → Act → World → Prop} {n : Nat} {S : World → Prop}

/-- One of the operations from number n on has come up. -/
def spoilt (n : Nat) (l : Array Bool) : Prop := ∃ j, n ≤ j ∧ l.getD j false = true
theorem getD_false {l : Array Bool} {j k : Nat} (h : (l.setIfInBounds j true).getD k false = true) : k = j ∨ l.getD k false = true := by
  by_cases e : j = k
  · exact .inl e.symm
  · rw [getD_set_ne false e] at h; exact .inr h
theorem spoilt_set {l : Array Bool} {i : Nat} (h : spoilt n (l.setIfInBounds i true)) (hi : i < n) : spoilt n l := by
  obtain ⟨j, hj, h⟩ := h
  rcases getD_false h with rfl | h
  · omega
  · exact ⟨j, hj, h⟩
/-- Whatever order is picked; S stands until one of the operations from number n on has come up. -/
def anyBut (P : Program) (ops : Array Oper) (Q : Exit → Act → World → Prop) (n : Nat) (S : World → Prop) : Nat → Array Bool → Act → World → Prop
  | 0, l, a, w => Region.ready .any ops l = [] ∧ Q .normal a w
  | k + 1, l, a, w => (Region.ready .any ops l = [] → Q .normal a w) ∧ ∀ i ∈ Region.ready .any ops l, wpOp P ops Q i (fun b v => (spoilt n (l.setIfInBounds i true) ∨ S v) ∧ anyBut P ops Q n S k (l.setIfInBounds i true) b v) a w
theorem any_of_but : ∀ (k : Nat) (l : Array Bool) (a : Act) (w : World), anyBut P ops Q n S k l a w → wpAny P .any ops Q k l a w
  | 0, _, _, _, h => h
  | k + 1, _, _, _, h => ⟨h.1, fun i hi => wpOp_mono (fun b v hb => any_of_but k _ b v hb.2) (h.2 i hi)⟩

/-- What may have come up as long as number i has not: no more than `reach`. -/
def waitsB (ops : Array Oper) (i n : Nat) (reach l : Array Bool) : Bool :=
  (List.range reach.size).all (fun j => decide (j < n) || !(reach.getD j false)) &&
  (List.range ops.size).all (fun j => j == i || reach.getD j false || !(((ops[j]?).map (·.after.all fun e => !Region.binds .any e || reach.getD e.on false)).getD false)) &&
  (List.range l.size).all (fun j => !(l.getD j false) || reach.getD j false)
def reachOf (ops : Array Oper) (i : Nat) (l : Array Bool) : Array Bool :=
  (List.range ops.size).foldl (fun r j => if (j != i && ((ops[j]?).map (·.after.all fun e => !Region.binds .any e || r.getD e.on false)).getD false) = true then r.setIfInBounds j true else r) l
theorem getD_lt {l : Array Bool} {j : Nat} (h : l.getD j false = true) : j < l.size := by
  by_cases hs : j < l.size
  · exact hs
  · simp [Array.getElem?_eq_none (Nat.le_of_not_lt hs)] at h

theorem not_after {i j : Nat} {oj : Oper} {l : Array Bool} (hr : i ∈ Region.ready .any ops l) (hall : ∀ e ∈ oj.after, Region.binds .any e = true → l.getD e.on false = true) : ∀ e ∈ oj.after, Region.binds .any e = true → e.on ≠ i := by
  intro e he hb heq
  have h1 := hall e he hb
  have h0 := (mem_ready.1 hr).1
  rw [heq] at h1
  have hs := getD_lt h1
  simp [hs] at h0 h1
  rw [h0] at h1; cases h1
theorem free_set {i j : Nat} {oi : Oper} {l : Array Bool} (hun : l.getD j true = false) (hfree : ∀ j oj, ops[j]? = some oj → j ≠ i → l.getD j true = false → (∀ e ∈ oj.after, Region.binds .any e = true → e.on ≠ i) → oi.apart ops oj = true) :
    ∀ m om, ops[m]? = some om → m ≠ i → (l.setIfInBounds j true).getD m true = false → (∀ e ∈ om.after, Region.binds .any e = true → e.on ≠ i) → oi.apart ops om = true := fun m om hm hmi hu hw => by
  refine hfree m om hm hmi ?_ hw
  rcases Decidable.em (j = m) with rfl | hjm
  · exact hun
  · rw [getD_set_ne true hjm] at hu; exact hu

theorem but_first {i : Nat} {oi : Oper} {v : Value} {reach : Array Bool} (hi : ops[i]? = some oi) (hsel : ∀ (j : Nat) (o : Oper) cs b, ops[j]? = some o → o.op ≠ .select cs b) (hQ : ∀ c a w, Q (.panic c) (a.put oi.dst v) w → Q (.panic c) a w)
    (hn : ∀ j, n ≤ j → reach.getD j false = false) (hcl : ∀ j oj, ops[j]? = some oj → j ≠ i → (∀ e ∈ oj.after, Region.binds .any e = true → reach.getD e.on false = true) → reach.getD j false = true) :
    ∀ (k : Nat) (l : Array Bool) (a : Act) (w : World), (∀ j oj, ops[j]? = some oj → j ≠ i → l.getD j true = false → (∀ e ∈ oj.after, Region.binds .any e = true → e.on ≠ i) → oi.apart ops oj = true) →
      (∀ j, l.getD j false = true → reach.getD j false = true) → i < n → i ∈ Region.ready .any ops l → YieldsIf P ops S oi v a → S w → anyBut P ops Q n S k (l.setIfInBounds i true) (a.put oi.dst v) w → anyBut P ops Q n S (k + 1) l a w := by
  intro k
  induction k with
  | zero =>
    intro l a w _ _ _ hr hy hS H
    refine ⟨fun h => by (rw [h] at hr; cases hr), fun j hj => ?_⟩
    rcases Decidable.em (j = i) with rfl | hne
    · exact hy.wpOp hi hS ⟨.inr hS, H⟩
    · have hm := ready_mono hj hne
      rw [H.1] at hm; cases hm
  | succ k ih =>
    intro l a w hfree hl hin hr hy hS H
    refine ⟨fun h => by (rw [h] at hr; cases hr), fun j hj => ?_⟩
    rcases Decidable.em (j = i) with rfl | hne
    · exact hy.wpOp hi hS ⟨.inr hS, H⟩
    obtain ⟨hun, oj, hoj, hall⟩ := mem_ready.1 hj
    have hrj : reach.getD j false = true := hcl j oj hoj hne fun e he hb => hl _ (hall e he hb)
    have hno := not_after (j := j) hr hall
    have h2 := wpOp_putIf hoj (hfree j oj hoj hne hun hno) (fun cs b => hsel i oi cs b hi) (fun cs b => hsel j oj cs b hoj) hQ hy (H.2 j (ready_mono hj hne))
    refine wpOp_mono (fun b u h3 => ?_) h2
    have hsub : ∀ m, (l.setIfInBounds j true).getD m false = true → reach.getD m false = true := fun m hm => by
      rcases getD_false hm with rfl | h
      · exact hrj
      · exact hl m h
    have hSu : S u := by
      refine h3.2.1.resolve_left fun hsp => ?_
      rw [Array.setIfInBounds_comm _ _ (Ne.symm hne)] at hsp
      obtain ⟨m, hm, hml⟩ := spoilt_set hsp hin
      have := hsub m hml
      rw [hn m hm] at this; cases this
    refine ⟨.inr hSu, ih (l.setIfInBounds j true) b u (free_set hun hfree) hsub hin (ready_mono hr (Ne.symm hne)) h3.1 hSu ?_⟩
    rw [Array.setIfInBounds_comm _ _ hne]; exact h3.2.2
/-- The same of what yields in whatever world: it may be taken first even where what comes up ahead of it turns the world. -/
theorem but_firstW {i : Nat} {oi : Oper} {v : Value} (hi : ops[i]? = some oi) (hsel : ∀ (j : Nat) (o : Oper) cs b, ops[j]? = some o → o.op ≠ .select cs b) (hQ : ∀ c a w, Q (.panic c) (a.put oi.dst v) w → Q (.panic c) a w) :
    ∀ (k : Nat) (l : Array Bool) (a : Act) (w : World), (∀ j oj, ops[j]? = some oj → j ≠ i → l.getD j true = false → (∀ e ∈ oj.after, Region.binds .any e = true → e.on ≠ i) → oi.apart ops oj = true) →
      i < n → i ∈ Region.ready .any ops l → YieldsIf P ops (fun _ => True) oi v a → (spoilt n l ∨ S w) → anyBut P ops Q n S k (l.setIfInBounds i true) (a.put oi.dst v) w → anyBut P ops Q n S (k + 1) l a w := by
  intro k
  have hup : ∀ {l : Array Bool} {m : Nat}, spoilt n l → spoilt n (l.setIfInBounds m true) := fun {l m} ⟨j, hj, h⟩ => by
    refine ⟨j, hj, ?_⟩
    rcases Decidable.em (m = j) with rfl | hne
    · simp [getD_lt h]
    · rw [getD_set_ne false hne]; exact h
  induction k with
  | zero =>
    intro l a w _ _ hr hy hS H
    refine ⟨fun h => by (rw [h] at hr; cases hr), fun j hj => ?_⟩
    rcases Decidable.em (j = i) with rfl | hne
    · exact hy.wpOp hi trivial ⟨hS.imp hup id, H⟩
    · have hm := ready_mono hj hne
      rw [H.1] at hm; cases hm
  | succ k ih =>
    intro l a w hfree hin hr hy hS H
    refine ⟨fun h => by (rw [h] at hr; cases hr), fun j hj => ?_⟩
    rcases Decidable.em (j = i) with rfl | hne
    · exact hy.wpOp hi trivial ⟨hS.imp hup id, H⟩
    obtain ⟨hun, oj, hoj, hall⟩ := mem_ready.1 hj
    have hno := not_after (j := j) hr hall
    have h2 := wpOp_putIf hoj (hfree j oj hoj hne hun hno) (fun cs b => hsel i oi cs b hi) (fun cs b => hsel j oj cs b hoj) hQ hy (H.2 j (ready_mono hj hne))
    refine wpOp_mono (fun b u h3 => ?_) h2
    have hSu : spoilt n (l.setIfInBounds j true) ∨ S u := by
      refine h3.2.1.imp (fun hsp => ?_) id
      rw [Array.setIfInBounds_comm _ _ (Ne.symm hne)] at hsp
      exact spoilt_set hsp hin
    refine ⟨hSu, ih (l.setIfInBounds j true) b u (free_set hun hfree) hin (ready_mono hr (Ne.symm hne)) h3.1 hSu ?_⟩
    rw [Array.setIfInBounds_comm _ _ hne]; exact h3.2.2

theorem but_take {i : Nat} {oi : Oper} {v : Value} {k : Nat} {l : Array Bool} {a : Act} {w : World} (hi : ops.toList[i]? = some oi) (hs : Region.noSelect ops = true) (hf : Region.free .any ops l i = true) (hr : (Region.ready .any ops l).contains i = true) (hw : waitsB ops i n (reachOf ops i l) l = true) (hin : i < n)
    (hQ : ∀ c a w, Q (.panic c) (a.put oi.dst v) w → Q (.panic c) a w) (hy : YieldsIf P ops S oi v a) (hS : S w) (h : anyBut P ops Q n S k (l.setIfInBounds i true) (a.put oi.dst v) w) : anyBut P ops Q n S (k + 1) l a w := by
  rw [Array.getElem?_toList] at hi
  unfold waitsB at hw
  generalize reachOf ops i l = reach at hw
  rw [Bool.and_eq_true, Bool.and_eq_true, List.all_eq_true, List.all_eq_true, List.all_eq_true] at hw
  obtain ⟨⟨h1, h2⟩, h3⟩ := hw
  refine but_first (reach := reach) hi (Region.noSelect_spec hs) hQ (fun j hj => ?_) (fun j oj hoj hji hall => ?_) k l a w (Region.free_spec hi hf) (fun j hj => ?_) hin (by simpa using hr) hy hS h
  · cases hh : reach.getD j false with
    | false => rfl
    | true =>
      have := h1 j (List.mem_range.2 (getD_lt hh))
      rw [hh] at this
      simp at this
      omega
  · have hjs : j < ops.size := (Array.getElem?_eq_some_iff.1 hoj).1
    have := h2 j (List.mem_range.2 hjs)
    have hx : (((ops[j]?).map (·.after.all fun e => !Region.binds .any e || reach.getD e.on false)).getD false) = true := by
      rw [hoj]
      simp only [Option.map_some, Option.getD_some, Array.all_eq_true_iff_forall_mem]
      intro e he
      cases hb : Region.binds .any e
      · rfl
      · simpa using hall e he hb
    rw [hx] at this
    simpa [hji] using this
  · have := h3 j (List.mem_range.2 (getD_lt hj))
    rw [hj] at this
    simpa using this
theorem but_takeW {i : Nat} {oi : Oper} {v : Value} {k : Nat} {l : Array Bool} {a : Act} {w : World} (hi : ops.toList[i]? = some oi) (hs : Region.noSelect ops = true) (hf : Region.free .any ops l i = true) (hr : (Region.ready .any ops l).contains i = true) (hin : i < n)
    (hQ : ∀ c a w, Q (.panic c) (a.put oi.dst v) w → Q (.panic c) a w) (hy : YieldsIf P ops (fun _ => True) oi v a) (hS : S w) (h : anyBut P ops Q n S k (l.setIfInBounds i true) (a.put oi.dst v) w) : anyBut P ops Q n S (k + 1) l a w := by
  rw [Array.getElem?_toList] at hi
  exact but_firstW hi (Region.noSelect_spec hs) hQ k l a w (Region.free_spec hi hf) hin (by simpa using hr) hy (.inr hS) h

/-- What follows an operation that is carried out. -/
def Goes (P : Program) (ops : Array Oper) (Q : Exit → Act → World → Prop) (n : Nat) (S : World → Prop) (k : Nat) (l : Array Bool) (K : Act → World → Prop) : Prop :=
  (∀ b v, S v → (S v → anyBut P ops Q n S k l b v) → K b v) ∧ (spoilt n l → ∀ b v, anyBut P ops Q n S k l b v → K b v)
theorem but_op {i : Nat} {oi : Oper} {k : Nat} {l : Array Bool} {a : Act} {w : World} (hi : ops.toList[i]? = some oi)
    (h : ∀ K : Act → World → Prop, Hid (Goes P ops Q n S k (l.setIfInBounds i true) K) → if Region.wanted oi (yielded ops a.tmps) = true then Oper.wp P oi a w K Q else K (a.put oi.dst undef) w) :
    wpOp P ops Q i (fun b v => (spoilt n (l.setIfInBounds i true) ∨ S v) ∧ anyBut P ops Q n S k (l.setIfInBounds i true) b v) a w := by
  rw [Array.getElem?_toList] at hi
  have h1 := h (fun b v => (spoilt n (l.setIfInBounds i true) ∨ S v) ∧ anyBut P ops Q n S k (l.setIfInBounds i true) b v) ⟨fun b v hS hg => ⟨.inr hS, hg hS⟩, fun hs b v hg => ⟨.inl hs, hg⟩⟩
  unfold wpOp
  simp only [hi]
  split
  · rename_i hw; rw [if_pos hw] at h1; exact .inl h1
  · rename_i hw; rw [if_neg hw] at h1; exact h1
/-- What alone may come up comes up. -/
theorem but_step {i : Nat} {oi : Oper} {k : Nat} {l : Array Bool} {a : Act} {w : World} (hr : Region.ready .any ops l = [i]) (hi : ops.toList[i]? = some oi)
    (h : ∀ K : Act → World → Prop, Hid (Goes P ops Q n S k (l.setIfInBounds i true) K) → if Region.wanted oi (yielded ops a.tmps) = true then Oper.wp P oi a w K Q else K (a.put oi.dst undef) w) : anyBut P ops Q n S (k + 1) l a w := by
  refine ⟨fun h0 => (by rw [hr] at h0; cases h0), fun j hj => ?_⟩
  rw [hr, List.mem_singleton] at hj
  subst hj
  exact but_op hi h
/-- One of two may come up. -/
theorem but_two {i j : Nat} {oi oj : Oper} {k : Nat} {l : Array Bool} {a : Act} {w : World} (hr : Region.ready .any ops l = [i, j]) (hi : ops.toList[i]? = some oi) (hj : ops.toList[j]? = some oj)
    (h : ∀ K : Act → World → Prop, Hid (Goes P ops Q n S k (l.setIfInBounds i true) K) → if Region.wanted oi (yielded ops a.tmps) = true then Oper.wp P oi a w K Q else K (a.put oi.dst undef) w)
    (h' : ∀ K : Act → World → Prop, Hid (Goes P ops Q n S k (l.setIfInBounds j true) K) → if Region.wanted oj (yielded ops a.tmps) = true then Oper.wp P oj a w K Q else K (a.put oj.dst undef) w) : anyBut P ops Q n S (k + 1) l a w := by
  refine ⟨fun h0 => (by rw [hr] at h0; cases h0), fun m hm => ?_⟩
  rw [hr, List.mem_cons, List.mem_singleton] at hm
  rcases hm with rfl | rfl
  · exact but_op hi h
  · exact but_op hj h'
theorem but_done {k : Nat} {l : Array Bool} {a : Act} {w : World} (hr : Region.ready .any ops l = []) (h : Q .normal a w) : anyBut P ops Q n S k l a w := by
  cases k with
  | zero => exact ⟨hr, h⟩
  | succ k => exact ⟨fun _ => h, fun i hi => by rw [hr] at hi; cases hi⟩
theorem region_but {id : Nat} {a : Act} {w : World} (n m : Nat) (S : World → Prop) (hm : P.follows .mixedOrders = true) (hz : ops.size = m) (hS : S w.drew) (h : S w.drew → anyBut P ops Q n S m (Array.replicate m false) a w.drew) : (Code.region id ops true).wp P Q a w := by
  subst hz
  exact wp_region_any hm (any_of_but _ _ _ _ (h hS))
end
end Go.Proofs.YtfnephnecighaaaGreat
