/- slices of entries (Sl at eight cells). -/
import Derived.Test.YtfnephnecighaaaGreatSkJ
import Derived.Test.YtfnephnecighaaaGreatBsJ
import Derived.Test.YtfnephnecighaaaGreatSdJ
import Derived.Test.YtfnephnecighaaaGreatVcp
import Derived.Test.YtfnephnecighaaaGreatVhJ
namespace Go.Proofs.YtfnephnecighaaaGreat
open Go.RowKit
set_option linter.unusedVariables false

theorem one_flatE (l : List (Ent)) : ∀ v ∈ l.flatMap encE, v.oneCell' = true := by
  intro v hv
  obtain ⟨x, -, hx⟩ := List.mem_flatMap.1 hv
  exact oneE x v hx
theorem row_ofE {w : World} {vb : Nat} {x : Ent} (hv : w.heap[vb]? = some (.cells (encE x).toArray 57 (0, 0))) : RowAt 8 encE w (.slice (some ⟨vb, 0, none⟩) 1 1) [x] := by
  refine ⟨by simp, _, 1, rfl, by simp, by omega, .inr ⟨vb, 0, rfl, (Array.getElem?_eq_some_iff.1 hv).1, ?_⟩⟩
  intro i hi c hc
  obtain rfl : i = 0 := by simpa using hi
  rw [(block_cells hv).1]
  simp

theorem insertE_any (B i : Nat) (s : Value) (l : List (Ent)) (x : Ent) (vb : Nat) (w : World) (ho : w.ownsRow B 57 8 s l.length (l.flatMap encE)) (hB : B ≤ w.heap.size) (hi : i ≤ l.length) (hn : l.length ≤ 1048575)
    (hv : w.heap[vb]? = some (.cells (encE x).toArray 57 (0, 0))) (hvb : ∀ k, s.ownBlock = some k → vb ≠ k) :
    Calls Tryz.prog 146 #[s, .int .i64 (i : Int), .slice (some ⟨vb, 0, none⟩) 1 1] w fun e w' => ∃ r, e = .returned r ∧ w'.ownsRow B 57 8 r (l.length + 1) ((l.take i ++ x :: l.drop i).flatMap encE) ∧ w.grownBy w' s.ownBlock ∧ ∀ k, r.ownBlock = some k → s.ownBlock = some k ∨ w.heap.size ≤ k := by
  by_cases hend : i = l.length
  · have hlist : (l.take i ++ x :: l.drop i).flatMap encE = l.flatMap encE ++ encE x := by rw [hend]; simp
    rw [hlist]
    by_cases h0 : 0 < l.length
    · obtain ⟨g, cap, S, rfl, hg, hb, hc, hm, hs⟩ := own_open ho h0
      rw [hend]
      refine (insert_endE B g l.length cap _ x _ w ho hc hm hB (by omega) (row_ofE hv)).mono ?_
      rintro e w' ⟨r, rfl, h1, h2, h3⟩
      exact ⟨r, rfl, h1, h2, fun k hk => at_either h3 hk⟩
    · obtain rfl : l = [] := List.eq_nil_of_length_eq_zero (by omega)
      rcases ho.2 with ⟨rfl, -⟩ | ⟨g, cap, cur, rfl, hg, hb, hc, hm, hsz, -⟩
      · rw [hend]
        refine (insertE_nil _ x w (row_ofE hv)).mono ?_
        rintro e w' ⟨r, rfl, ho', hb'⟩
        exact ⟨r, rfl, by simpa using ownsRow_base ho'.1 hB, grown_below hb', fun k hk => .inr (ho'.1.lt k hk).1⟩
      · rw [hend]
        refine (insert_endE B g 0 cap _ x _ w ho (by omega) hm hB (by omega) (row_ofE hv)).mono ?_
        rintro e w' ⟨r, rfl, h1, h2, h3⟩
        exact ⟨r, rfl, h1, h2, fun k hk => at_either h3 hk⟩
  · have hlt : i < l.length := by omega
    obtain ⟨g, cap, S, rfl, hg, hb, hc, hm, hs⟩ := own_open ho (by omega)
    have hA : ((l.take i).flatMap encE).length = i * 8 := by rw [flat_length lenE, List.length_take, Nat.min_eq_left hi]
    have hC : ((l.drop i).flatMap encE).length = (l.length - i) * 8 := by rw [flat_length lenE, List.length_drop]
    rw [flat_split encE l i, List.append_assoc] at hb hs
    have hlist : (l.take i ++ x :: l.drop i).flatMap encE = (l.take i).flatMap encE ++ (encE x ++ (l.drop i).flatMap encE) := by simp
    have hlen : ((l.take i ++ x :: l.drop i).flatMap encE).length = (l.length + 1) * 8 := by rw [flat_length lenE]; simp; omega
    have e1 : l.length = i + (l.length - i) := by omega
    have hne : vb ≠ g := hvb g rfl
    have hmx := Nat.le_trans hm maxLen_le
    have hl : (encE x).length = 8 := lenE x
    by_cases hroom : l.length + 1 ≤ cap
    · have := insert_roomE g vb i (l.length - i) cap _ _ S (encE x) w (by omega) hA hC hl hne hb hv (by omega) hs hmx (by omega) (one_flatE _) (oneE x)
      rw [← e1] at this
      refine this.mono ?_
      rintro e w' ⟨rfl, hb', hj⟩
      refine ⟨_, rfl, own_mk hlen hg (S := S.drop 8) ?_ hroom hm ?_, grown_just hj, fun k hk => .inl hk⟩
      · rw [hlist]; simpa only [List.append_assoc] using hb'
      · rw [hlist]; simp only [List.length_append, List.length_drop] at hs ⊢; omega
    · have hcap : cap = l.length := by omega
      subst hcap
      obtain rfl : S = [] := by
        apply List.eq_nil_of_length_eq_zero
        simp only [List.length_append] at hs
        omega
      rw [List.append_nil] at hb
      have := insert_growE g vb i (l.length - i) _ _ (encE x) w (by omega) hA hC hl hb hv (by omega) (one_flatE _) (oneE x)
      rw [← e1] at this
      refine this.mono ?_
      rintro e w' ⟨c2, S2, rfl, h1, h2, h3, hb', hbel⟩
      refine ⟨_, rfl, own_mk hlen hB (S := S2) ?_ h1 h2 ?_, grown_below hbel, fun k hk => .inr (by cases hk; exact Nat.le_refl _)⟩
      · rw [hlist]; simpa only [List.append_assoc] using hb'
      · rw [List.length_append, hlen, h3]
        have : c2 = l.length + 1 + (c2 - (l.length + 1)) := by omega
        generalize c2 - (l.length + 1) = d at this ⊢
        subst this
        omega

theorem deleteE_any (B i : Nat) (s : Value) (l : List (Ent)) (w : World) (ho : w.ownsRow B 57 8 s l.length (l.flatMap encE)) (hi : i < l.length) (hn : l.length ≤ 1048576) :
    Calls Tryz.prog 144 #[s, .int .i64 (i : Int), .int .i64 ((i : Int) + 1)] w fun e w' => ∃ r, e = .returned r ∧ w'.ownsRow B 57 8 r (l.length - 1) ((l.take i ++ l.drop (i + 1)).flatMap encE) ∧ w.grownBy w' s.ownBlock ∧ r.ownBlock = s.ownBlock := by
  obtain ⟨g, cap, S, rfl, hg, hb, hc, hm, hs⟩ := own_open ho (by omega)
  have hA : ((l.take i).flatMap encE).length = i * 8 := by rw [flat_length lenE, List.length_take, Nat.min_eq_left (by omega)]
  have hC : ((l.drop (i + 1)).flatMap encE).length = (l.length - (i + 1)) * 8 := by rw [flat_length lenE, List.length_drop]
  have hsp : l.flatMap encE = (l.take i).flatMap encE ++ (encE l[i] ++ (l.drop (i + 1)).flatMap encE) := by
    rw [flat_split encE l i, List.drop_eq_getElem_cons hi, List.flatMap_cons]
  rw [hsp, List.append_assoc, List.append_assoc] at hb hs
  have hlist : (l.take i ++ l.drop (i + 1)).flatMap encE = (l.take i).flatMap encE ++ (l.drop (i + 1)).flatMap encE := by simp
  have hlen : ((l.take i ++ l.drop (i + 1)).flatMap encE).length = (l.length - 1) * 8 := by rw [flat_length lenE]; simp; omega
  have hl : (encE l[i]).length = 8 := lenE _
  have := delete_coreE g i (l.length - (i + 1)) cap _ _ _ S w hA hl hC hb (by omega) (Nat.le_trans hm maxLen_le) (by omega) (one_flatE _)
  rw [show i + 1 + (l.length - (i + 1)) = l.length by omega, show i + (l.length - (i + 1)) = l.length - 1 by omega] at this
  refine this.mono ?_
  rintro e w' ⟨rfl, hb', hj⟩
  refine ⟨_, rfl, own_mk hlen hg (S := [Value.string ByteArray.empty, Value.int .i64 0, Value.string ByteArray.empty, Value.int .i64 0, Value.slice none 0 0, Value.slice none 0 0, Value.slice none 0 0, Value.int .i64 0] ++ S) ?_ (by omega) hm ?_, grown_just hj, rfl⟩
  · rw [hlist]; simpa only [List.append_assoc] using hb'
  · rw [hlist]; simp only [List.length_append, hl, hA, hC, List.length_cons, List.length_nil] at hs ⊢; omega
end Go.Proofs.YtfnephnecighaaaGreat

/- A store's copy: what a round of fresh.Store leaves. -/
namespace Go.Proofs.YtfnephnecighaaaGreat
open Go.RowKit
set_option linter.unusedVariables false
set_option maxRecDepth 100000

/-- Six cells stored one behind the other. -/
def sixC (w : World) (g o : Nat) (v1 v2 v3 v4 v5 v6 : Value) : World := (((((w.setCell ⟨g, o + 1, none⟩ v1).setCell ⟨g, o + 2, none⟩ v2).setCell ⟨g, o + 3, none⟩ v3).setCell ⟨g, o + 4, none⟩ v4).setCell ⟨g, o + 5, none⟩ v5).setCell ⟨g, o + 6, none⟩ v6
theorem six_block {w : World} {g : Nat} {L : List Value} {e : TypeId} (h : w.heap[g]? = some (.cells L.toArray e (0, 0))) (o : Nat) (v1 v2 v3 v4 v5 v6 : Value) :
    (sixC w g o v1 v2 v3 v4 v5 v6).heap[g]? = some (.cells ((((((L.set (o + 1) v1).set (o + 2) v2).set (o + 3) v3).set (o + 4) v4).set (o + 5) v5).set (o + 6) v6).toArray e (0, 0)) := by
  unfold sixC
  rw [Go.heap_setCell_same _ g (o + 6) _ e v6 (Go.heap_setCell_same _ g (o + 5) _ e v5 (Go.heap_setCell_same _ g (o + 4) _ e v4 (Go.heap_setCell_same _ g (o + 3) _ e v3 (Go.heap_setCell_same _ g (o + 2) _ e v2 (Go.heap_setCell_same _ g (o + 1) _ e v1 h)))))]
  simp
theorem six_other {w : World} {g o k : Nat} {v1 v2 v3 v4 v5 v6 : Value} (hk : k ≠ g) : (sixC w g o v1 v2 v3 v4 v5 v6).heap[k]? = w.heap[k]? := by
  unfold sixC
  exact (Below.heap_setCell _ _ _ _ hk).trans ((Below.heap_setCell _ _ _ _ hk).trans ((Below.heap_setCell _ _ _ _ hk).trans ((Below.heap_setCell _ _ _ _ hk).trans ((Below.heap_setCell _ _ _ _ hk).trans (Below.heap_setCell _ _ _ _ hk)))))
theorem six_size {w : World} {g o : Nat} {v1 v2 v3 v4 v5 v6 : Value} : (sixC w g o v1 v2 v3 v4 v5 v6).heap.size = w.heap.size := by simp [sixC, World.setCell]
theorem six_below {B : Nat} {w w1 : World} {g o : Nat} {v1 v2 v3 v4 v5 v6 : Value} (h : Below B w w1) (hg : B ≤ g) : Below B w (sixC w1 g o v1 v2 v3 v4 v5 v6) := by
  unfold sixC
  exact (((((h.setCell hg _).setCell hg _).setCell hg _).setCell hg _).setCell hg _).setCell hg _
/-- An entry's value is put in its place in a row. -/
theorem flat_val (e : Ent) : ∀ (l : List Ent) (i : Nat) (S : List Value) (h : i < l.length), e.kv.key = l[i].kv.key → e.kv.til = l[i].kv.til →
    ((((((((l.flatMap encE) ++ S).set (i * 8 + 1) (.int .i64 e.kv.x.kind)).set (i * 8 + 2) (.string e.kv.x.text)).set (i * 8 + 3) (.int .i64 e.kv.x.count)).set (i * 8 + 4) e.ps).set (i * 8 + 5) e.is).set (i * 8 + 6) e.ss) = (l.set i e).flatMap encE ++ S
  | [], i, S, h, _, _ => by simp at h
  | x :: r, 0, S, h, h1, h2 => by
    simp only [List.getElem_cons_zero] at h1 h2
    simp [encE, h1, h2]
  | x :: r, i + 1, S, h, h1, h2 => by
    have ih := flat_val e r i S (by simpa using h) (by simpa using h1) (by simpa using h2)
    have hx : encE x = [.string x.kv.key, .int .i64 x.kv.x.kind, .string x.kv.x.text, .int .i64 x.kv.x.count, x.ps, x.is, x.ss, .int .i64 x.kv.til] := rfl
    rw [List.flatMap_cons, List.set_cons_succ, List.flatMap_cons, List.append_assoc, List.append_assoc, ← ih, hx]
    have k : ∀ c, (i + 1) * 8 + c = (i * 8 + c) + 8 := fun c => by omega
    simp only [k]
    simp only [List.cons_append, List.nil_append, List.set_cons_succ]
end Go.Proofs.YtfnephnecighaaaGreat

/- slices.DeleteFunc over a row of entries: the cells, plain lists. -/
namespace Go.Proofs.YtfnephnecighaaaGreat
open Go.RowKit
set_option linter.unusedVariables false
set_option maxRecDepth 100000

def eightC (w : World) (g o : Nat) (v0 v1 v2 v3 v4 v5 v6 v7 : Value) : World := (((((((w.setCell ⟨g, o, none⟩ v0).setCell ⟨g, o + 1, none⟩ v1).setCell ⟨g, o + 2, none⟩ v2).setCell ⟨g, o + 3, none⟩ v3).setCell ⟨g, o + 4, none⟩ v4).setCell ⟨g, o + 5, none⟩ v5).setCell ⟨g, o + 6, none⟩ v6).setCell ⟨g, o + 7, none⟩ v7
theorem eightC_block {w : World} {g : Nat} {L : List Value} {e : TypeId} (h : w.heap[g]? = some (.cells L.toArray e (0, 0))) (o : Nat) (v0 v1 v2 v3 v4 v5 v6 v7 : Value) :
    (eightC w g o v0 v1 v2 v3 v4 v5 v6 v7).heap[g]? = some (.cells ((((((((L.set o v0).set (o + 1) v1).set (o + 2) v2).set (o + 3) v3).set (o + 4) v4).set (o + 5) v5).set (o + 6) v6).set (o + 7) v7).toArray e (0, 0)) := by
  unfold eightC
  rw [Go.heap_setCell_same _ g (o + 7) _ e v7 (Go.heap_setCell_same _ g (o + 6) _ e v6 (Go.heap_setCell_same _ g (o + 5) _ e v5 (Go.heap_setCell_same _ g (o + 4) _ e v4 (Go.heap_setCell_same _ g (o + 3) _ e v3 (Go.heap_setCell_same _ g (o + 2) _ e v2 (Go.heap_setCell_same _ g (o + 1) _ e v1 (Go.heap_setCell_same _ g o _ e v0 h)))))))]
  simp
theorem eightC_other {w : World} {g o k : Nat} {v0 v1 v2 v3 v4 v5 v6 v7 : Value} (hk : k ≠ g) : (eightC w g o v0 v1 v2 v3 v4 v5 v6 v7).heap[k]? = w.heap[k]? := by
  unfold eightC
  exact (Below.heap_setCell _ _ _ _ hk).trans ((Below.heap_setCell _ _ _ _ hk).trans ((Below.heap_setCell _ _ _ _ hk).trans ((Below.heap_setCell _ _ _ _ hk).trans ((Below.heap_setCell _ _ _ _ hk).trans ((Below.heap_setCell _ _ _ _ hk).trans ((Below.heap_setCell _ _ _ _ hk).trans (Below.heap_setCell _ _ _ _ hk)))))))
theorem eightC_size {w : World} {g o : Nat} {v0 v1 v2 v3 v4 v5 v6 v7 : Value} : (eightC w g o v0 v1 v2 v3 v4 v5 v6 v7).heap.size = w.heap.size := by simp [eightC, World.setCell]
theorem eightC_below {B : Nat} {w w1 : World} {g o : Nat} {v0 v1 v2 v3 v4 v5 v6 v7 : Value} (h : Below B w w1) (hg : B ≤ g) : Below B w (eightC w1 g o v0 v1 v2 v3 v4 v5 v6 v7) := by
  unfold eightC
  exact (((((((h.setCell hg _).setCell hg _).setCell hg _).setCell hg _).setCell hg _).setCell hg _).setCell hg _).setCell hg _
theorem flat_ent (e : Ent) : ∀ (l : List Ent) (i : Nat) (S : List Value) (h : i < l.length),
    ((((((((((l.flatMap encE) ++ S).set (i * 8) (.string e.kv.key)).set (i * 8 + 1) (.int .i64 e.kv.x.kind)).set (i * 8 + 2) (.string e.kv.x.text)).set (i * 8 + 3) (.int .i64 e.kv.x.count)).set (i * 8 + 4) e.ps).set (i * 8 + 5) e.is).set (i * 8 + 6) e.ss).set (i * 8 + 7) (.int .i64 e.kv.til)) = (l.set i e).flatMap encE ++ S
  | [], i, S, h => by simp at h
  | x :: r, 0, S, h => by simp [encE]
  | x :: r, i + 1, S, h => by
    have ih := flat_ent e r i S (by simpa using h)
    have hx : encE x = [.string x.kv.key, .int .i64 x.kv.x.kind, .string x.kv.x.text, .int .i64 x.kv.x.count, x.ps, x.is, x.ss, .int .i64 x.kv.til] := rfl
    rw [List.flatMap_cons, List.set_cons_succ, List.flatMap_cons, List.append_assoc, List.append_assoc, ← ih, hx]
    have k : ∀ c, (i + 1) * 8 + c = (i * 8 + c) + 8 := fun c => by omega
    have k0 : (i + 1) * 8 = i * 8 + 8 := by omega
    rw [k0]
    have k1 : ∀ c, i * 8 + 8 + c = (i * 8 + c) + 8 := fun c => by omega
    simp only [k1]
    simp only [List.cons_append, List.nil_append, List.set_cons_succ]

/-- Nothing but one row has turned, and what is new. -/
structure Apart (B g : Nat) (w W : World) : Prop where
  below : Below B w W
  size : w.heap.size ≤ W.heap.size
  other : ∀ b, b < w.heap.size → b ≠ g → W.heap[b]? = w.heap[b]?
theorem Apart.refl (B g : Nat) (w : World) : Apart B g w w := ⟨Below.refl _ _, Nat.le_refl _, fun _ _ _ => rfl⟩
theorem Apart.step {B g : Nat} {w W W' : World} (h : Apart B g w W) (hB : B ≤ W.heap.size) (hb : Below W.heap.size W W') : Apart B g w W' :=
  ⟨h.below.trans (hb.mono hB), Nat.le_trans h.size hb.size, fun b hl hne => (hb.block b (Nat.lt_of_lt_of_le hl h.size)).trans (h.other b hl hne)⟩
theorem Apart.eight {B g o : Nat} {w W : World} {v0 v1 v2 v3 v4 v5 v6 v7 : Value} (h : Apart B g w W) (hg : B ≤ g) : Apart B g w (eightC W g o v0 v1 v2 v3 v4 v5 v6 v7) :=
  ⟨eightC_below h.below hg, by rw [eightC_size]; exact h.size, fun b hl hne => (eightC_other hne).trans (h.other b hl hne)⟩

theorem zero_ones : ∀ n, ∀ v ∈ (Builtin.zeroCells (zeroE).cells n).toList, v.oneCell' = true := by
  intro n v hv
  have h8 : ∀ k, k < 8 → ((zeroE).cells[k]!).oneCell' = true := by
    have : (List.range 8).all (fun k => ((zeroE).cells[k]!).oneCell') = true := by kernel_rfl
    intro k hk
    exact List.all_eq_true.1 this k (List.mem_range.2 hk)
  unfold Builtin.zeroCells at hv
  simp only [Array.toList_map, List.mem_map] at hv
  obtain ⟨i, -, rfl⟩ := hv
  exact h8 _ (Nat.mod_lt _ (by decide))
theorem zero_len (n : Nat) : (Builtin.zeroCells (zeroE).cells n).toList.length = n * 8 := by
  unfold Builtin.zeroCells
  simp [show (zeroE).cells.size = 8 from rfl]

theorem take_set_self {α : Type} (l : List α) (i : Nat) (a : α) : (l.set i a).take i = l.take i := by
  rw [List.take_set, List.set_eq_of_length_le (List.length_take_le _ _)]
theorem laid_len (L : List Value) (o : Nat) (Z : List Value) (h : o + Z.length ≤ L.length) : (laid L o Z).length = L.length := by
  unfold laid; simp; omega
/-- The elements that stay. -/
theorem filter_snoc {α : Type} (p : α → Bool) (l : List α) (j : Nat) (h : j < l.length) : (l.take (j + 1)).filter p = (l.take j).filter p ++ (if p l[j] = true then [l[j]] else []) := by
  rw [List.take_succ_eq_append_getElem h, List.filter_append]
  congr 1
  by_cases hp : p l[j] = true
  · simp [hp]
  · simp [hp]
end Go.Proofs.YtfnephnecighaaaGreat
