/- slices of entries (Sl at eight cells). -/
import Derived.Test.YtfnephnecighaaaGreatSkJ
import Derived.Test.YtfnephnecighaaaGreatBsJ
import Derived.Test.YtfnephnecighaaaGreatSdJ
namespace Go.Proofs.YtfnephnecighaaaGreat
open Go.RowKit
set_option linter.unusedVariables false

theorem one_flatE (l : List (Ent)) : ∀ v ∈ l.flatMap encE, v.oneCell' = true := by
  intro v hv
  obtain ⟨x, -, hx⟩ := List.mem_flatMap.1 hv
  exact oneE x v hx
theorem row_ofE {w : World} {vb : Nat} {x : Ent} (hv : w.heap[vb]? = some (.cells (encE x).toArray 57 (0, 0))) : RowAt 8 encE w (.slice (some ⟨vb, 0, none⟩) 1 1) [x] := by
  refine ⟨by simp, _, 1, rfl, by simp, by omega, .inr ⟨vb, 0, rfl, (Array.getElem?_eq_some_iff.1 hv).1, ?_⟩⟩
  intro i hi c hc
  obtain rfl : i = 0 := by simpa using hi
  rw [(block_cells hv).1]
  simp

theorem insertE_any (B i : Nat) (s : Value) (l : List (Ent)) (x : Ent) (vb : Nat) (w : World) (ho : w.ownsRow B 57 8 s l.length (l.flatMap encE)) (hB : B ≤ w.heap.size) (hi : i ≤ l.length) (hn : l.length ≤ 1048575)
    (hv : w.heap[vb]? = some (.cells (encE x).toArray 57 (0, 0))) (hvb : ∀ k, s.ownBlock = some k → vb ≠ k) :
    Calls Tryz.prog 146 #[s, .int .i64 (i : Int), .slice (some ⟨vb, 0, none⟩) 1 1] w fun e w' => ∃ r, e = .returned r ∧ w'.ownsRow B 57 8 r (l.length + 1) ((l.take i ++ x :: l.drop i).flatMap encE) ∧ w.grownBy w' s.ownBlock ∧ ∀ k, r.ownBlock = some k → s.ownBlock = some k ∨ w.heap.size ≤ k := by
  by_cases hend : i = l.length
  · have hlist : (l.take i ++ x :: l.drop i).flatMap encE = l.flatMap encE ++ encE x := by rw [hend]; simp
    rw [hlist]
    by_cases h0 : 0 < l.length
    · obtain ⟨g, cap, S, rfl, hg, hb, hc, hm, hs⟩ := own_open ho h0
      rw [hend]
      refine (insert_endE B g l.length cap _ x _ w ho hc hm hB (by omega) (row_ofE hv)).mono ?_
      rintro e w' ⟨r, rfl, h1, h2, h3⟩
      exact ⟨r, rfl, h1, h2, fun k hk => at_either h3 hk⟩
    · obtain rfl : l = [] := List.eq_nil_of_length_eq_zero (by omega)
      rcases ho.2 with ⟨rfl, -⟩ | ⟨g, cap, cur, rfl, hg, hb, hc, hm, hsz, -⟩
      · rw [hend]
        refine (insertE_nil _ x w (row_ofE hv)).mono ?_
        rintro e w' ⟨r, rfl, ho', hb'⟩
        exact ⟨r, rfl, by simpa using ownsRow_base ho'.1 hB, grown_below hb', fun k hk => .inr (ho'.1.lt k hk).1⟩
      · rw [hend]
        refine (insert_endE B g 0 cap _ x _ w ho (by omega) hm hB (by omega) (row_ofE hv)).mono ?_
        rintro e w' ⟨r, rfl, h1, h2, h3⟩
        exact ⟨r, rfl, h1, h2, fun k hk => at_either h3 hk⟩
  · have hlt : i < l.length := by omega
    obtain ⟨g, cap, S, rfl, hg, hb, hc, hm, hs⟩ := own_open ho (by omega)
    have hA : ((l.take i).flatMap encE).length = i * 8 := by rw [flat_length lenE, List.length_take, Nat.min_eq_left hi]
    have hC : ((l.drop i).flatMap encE).length = (l.length - i) * 8 := by rw [flat_length lenE, List.length_drop]
    rw [flat_split encE l i, List.append_assoc] at hb hs
    have hlist : (l.take i ++ x :: l.drop i).flatMap encE = (l.take i).flatMap encE ++ (encE x ++ (l.drop i).flatMap encE) := by simp
    have hlen : ((l.take i ++ x :: l.drop i).flatMap encE).length = (l.length + 1) * 8 := by rw [flat_length lenE]; simp; omega
    have e1 : l.length = i + (l.length - i) := by omega
    have hne : vb ≠ g := hvb g rfl
    have hmx := Nat.le_trans hm maxLen_le
    have hl : (encE x).length = 8 := lenE x
    by_cases hroom : l.length + 1 ≤ cap
    · have := insert_roomE g vb i (l.length - i) cap _ _ S (encE x) w (by omega) hA hC hl hne hb hv (by omega) hs hmx (by omega) (one_flatE _) (oneE x)
      rw [← e1] at this
      refine this.mono ?_
      rintro e w' ⟨rfl, hb', hj⟩
      refine ⟨_, rfl, own_mk hlen hg (S := S.drop 8) ?_ hroom hm ?_, grown_just hj, fun k hk => .inl hk⟩
      · rw [hlist]; simpa only [List.append_assoc] using hb'
      · rw [hlist]; simp only [List.length_append, List.length_drop] at hs ⊢; omega
    · have hcap : cap = l.length := by omega
      subst hcap
      obtain rfl : S = [] := by
        apply List.eq_nil_of_length_eq_zero
        simp only [List.length_append] at hs
        omega
      rw [List.append_nil] at hb
      have := insert_growE g vb i (l.length - i) _ _ (encE x) w (by omega) hA hC hl hb hv (by omega) (one_flatE _) (oneE x)
      rw [← e1] at this
      refine this.mono ?_
      rintro e w' ⟨c2, S2, rfl, h1, h2, h3, hb', hbel⟩
      refine ⟨_, rfl, own_mk hlen hB (S := S2) ?_ h1 h2 ?_, grown_below hbel, fun k hk => .inr (by cases hk; exact Nat.le_refl _)⟩
      · rw [hlist]; simpa only [List.append_assoc] using hb'
      · rw [List.length_append, hlen, h3]
        have : c2 = l.length + 1 + (c2 - (l.length + 1)) := by omega
        generalize c2 - (l.length + 1) = d at this ⊢
        subst this
        omega

theorem deleteE_any (B i : Nat) (s : Value) (l : List (Ent)) (w : World) (ho : w.ownsRow B 57 8 s l.length (l.flatMap encE)) (hi : i < l.length) (hn : l.length ≤ 1048576) :
    Calls Tryz.prog 144 #[s, .int .i64 (i : Int), .int .i64 ((i : Int) + 1)] w fun e w' => ∃ r, e = .returned r ∧ w'.ownsRow B 57 8 r (l.length - 1) ((l.take i ++ l.drop (i + 1)).flatMap encE) ∧ w.grownBy w' s.ownBlock ∧ r.ownBlock = s.ownBlock := by
  obtain ⟨g, cap, S, rfl, hg, hb, hc, hm, hs⟩ := own_open ho (by omega)
  have hA : ((l.take i).flatMap encE).length = i * 8 := by rw [flat_length lenE, List.length_take, Nat.min_eq_left (by omega)]
  have hC : ((l.drop (i + 1)).flatMap encE).length = (l.length - (i + 1)) * 8 := by rw [flat_length lenE, List.length_drop]
  have hsp : l.flatMap encE = (l.take i).flatMap encE ++ (encE l[i] ++ (l.drop (i + 1)).flatMap encE) := by
    rw [flat_split encE l i, List.drop_eq_getElem_cons hi, List.flatMap_cons]
  rw [hsp, List.append_assoc, List.append_assoc] at hb hs
  have hlist : (l.take i ++ l.drop (i + 1)).flatMap encE = (l.take i).flatMap encE ++ (l.drop (i + 1)).flatMap encE := by simp
  have hlen : ((l.take i ++ l.drop (i + 1)).flatMap encE).length = (l.length - 1) * 8 := by rw [flat_length lenE]; simp; omega
  have hl : (encE l[i]).length = 8 := lenE _
  have := delete_coreE g i (l.length - (i + 1)) cap _ _ _ S w hA hl hC hb (by omega) (Nat.le_trans hm maxLen_le) (by omega) (one_flatE _)
  rw [show i + 1 + (l.length - (i + 1)) = l.length by omega, show i + (l.length - (i + 1)) = l.length - 1 by omega] at this
  refine this.mono ?_
  rintro e w' ⟨rfl, hb', hj⟩
  refine ⟨_, rfl, own_mk hlen hg (S := [Value.string ByteArray.empty, Value.int .i64 0, Value.string ByteArray.empty, Value.int .i64 0, Value.slice none 0 0, Value.slice none 0 0, Value.slice none 0 0, Value.int .i64 0] ++ S) ?_ (by omega) hm ?_, grown_just hj, rfl⟩
  · rw [hlist]; simpa only [List.append_assoc] using hb'
  · rw [hlist]; simp only [List.length_append, hl, hA, hC, List.length_cons, List.length_nil] at hs ⊢; omega
end Go.Proofs.YtfnephnecighaaaGreat
