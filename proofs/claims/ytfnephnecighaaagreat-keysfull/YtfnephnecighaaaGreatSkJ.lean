/- slices.Insert and slices.Delete of one element, over lists that lie in rows of the call's own. -/
import Derived.Test.YtfnephnecighaaaGreatSiJ
import Derived.Maps.AppendAt
import Derived.Test.YtfnephnecighaaaGreatWgJ
import Derived.Test.YtfnephnecighaaaGreatSj8
namespace Go.Proofs.YtfnephnecighaaaGreat
open Go.RowKit
set_option linter.unusedVariables false

theorem wpList_append_row_at {P : Program} (w : World) {ops : Array Oper} {rest : List Oper} {o : Oper} {a : Act} {Q : Exit → Act → World → Prop} (hgd : o.guard = none) (s x : Operand) (t : TypeId)
    (ho : o.op = .call { callee := .builtin .append, args := #[s, x], argTypes := #[t, t] })
    (base : Nat) (e : TypeId) (z : Value) (size bytes : Nat) (ht : P.underlying t = some (.slice e)) (hinfo : (P.info? e).map (fun i => (i.zero, i.size, i.bytes)) = some (some z, size, bytes))
    (hzs : z.cells.size = size) (hsz : 0 < size) {α : Type} (enc : α → List Value) (hk : ∀ x, (enc x).length = size) (hone : ∀ x, ∀ u ∈ enc x, u.oneCell' = true)
    (v : Value) (n : Nat) (xs : List Value) (hs : a.eval s = v) (hown : w.ownsRow base e size v n xs)
    (sv : Value) (l : List α) (hx : a.eval x = sv) (hrow : RowAt size enc w sv l)
    (h63 : n + l.length ≤ maxLen) (hbytes : (n + l.length) * bytes ≤ 140737488355328) (hbase : base ≤ w.heap.size)
    (h : ∀ v' w', w'.ownsRow base e size v' (n + l.length) (xs ++ l.flatMap enc) → w.grownBy w' v.ownBlock → (v'.ownBlock = v.ownBlock ∨ v'.ownBlock = some w.heap.size) → wpList P ops Q rest (a.put o.dst v') w') : wpList P ops Q (o :: rest) a w := by
  obtain ⟨i, hi, hz, h1, h2⟩ := info_parts hinfo
  obtain ⟨hl, ad, cap, hsv, h3, h4, h5⟩ := hrow
  rcases h5 with ⟨rfl, rfl, rfl⟩ | ⟨b, off, rfl, hb, hc⟩
  · refine wpList_plain hgd fun K hK' => ?_
    have hrun := run_append_owned_none (P := P) w base t o.type e i size ht hi v n xs hown
    subst hsv
    simp only [List.length_nil] at hx
    unfold Oper.wp execOp
    simp only [ho, resolve, invoke, builtin, Sem.run_bind, Sem.run_pure, Result.andThen_ok, List.map_toArray, List.map_cons, List.map_nil, hs, hx, hrun]
    exact hK' _ _ (h v w (by simpa using hown) (World.grownBy.refl w _) (.inl rfl))
  · subst hsv
    refine wpList_append_own_at w hgd s x t ho base e i z size bytes ht hi hz h1 h2 hzs hsz v n xs hs hown ⟨b, off, none⟩ l.length cap (l.flatMap enc) hx (flat_length hk l) (RowAt.news hk hsz hc) ?_ h63 hbytes hbase (fun v' w' k1 k2 _ k4 => h v' w' k1 k2 k4)
    intro u hu
    obtain ⟨y, _, hy⟩ := List.mem_flatMap.1 hu
    exact hone y u hy

set_option maxRecDepth 100000 in
set_option maxHeartbeats 2000000 in
theorem insert_endP (B g n cap : Nat) (xs : List Value) (x : ByteArray × ByteArray) (s : Value) (w : World) (ho : w.ownsRow B 67 2 (.slice (some ⟨g, 0, none⟩) n cap) n xs) (hc : n ≤ cap) (hmax : cap ≤ maxLen) (hB : B ≤ w.heap.size) (hn : n ≤ 1048576) (h : RowAt 2 encP w s [x]) :
    Calls Tryz.prog 152 #[.slice (some ⟨g, 0, none⟩) n cap, .int .i64 (n : Int), s] w fun e w' => ∃ r, e = .returned r ∧ w'.ownsRow B 67 2 r (n + 1) (xs ++ encP x) ∧ w.grownBy w' (some g) ∧ (r.ownBlock = some g ∨ r.ownBlock = some w.heap.size) := by
  have hh := h
  obtain ⟨hl, a, cp, rfl, h1, h2, h3⟩ := hh
  rcases h3 with ⟨-, hnil, -⟩ | ⟨b, off, rfl, hbk, hcc⟩
  · simp at hnil
  clear hcc
  have H : Hid (RowAt 2 encP w (.slice (some ⟨b, off, none⟩) 1 cp) [x]) := h
  have HO : Hid (w.ownsRow B 67 2 (.slice (some ⟨g, 0, none⟩) n cap) n xs) := ho
  clear h ho
  have q1 : (0 : Int) ≤ (n : Int) := by omega
  have q2 : n ≤ n := Nat.le_refl _
  unfold maxLen at hmax
  by_cases hcn : n = cap
  · subst hcn
    go_enter Tryz.func152, Tryz.ntmps152
    go_wp2_with (at_builtin; refine wpList_append_row_at _ rfl _ _ 22 rfl B 67 (.agg #[.string ByteArray.empty, .string ByteArray.empty]) 2 32 Tryz.underlying22 info_pair rfl (by decide) encP lenP oneP (.slice (some ⟨g, 0, none⟩) n _) n xs ?_ HO.out _ [x] ?_ H.out ?_ ?_ ?_ ?_)
    · rfl
    · rfl
    · unfold maxLen; simp; omega
    · simp; omega
    · exact hB
    intro v1 w1 hown1 hg1 hat
    have HGR : Hid (w.grownBy w1 (some g)) := hg1
    have ho1 : w1.ownsRow B 67 2 v1 (n + 1) (xs ++ encP x) := by simpa using hown1
    obtain ⟨a1, c1, rfl⟩ := ownsRow_shape ho1
    have HAT : Hid ((Value.slice a1 (n + 1) c1).ownBlock = some g ∨ (Value.slice a1 (n + 1) c1).ownBlock = some w.heap.size) := hat
    clear hg1 hown1 hat
    go_wp2_with fail
    go_ret
    exact ⟨_, rfl, ho1, HGR.out, HAT.out⟩
  · have q3 : ¬ (cap = n) := fun h => hcn h.symm
    go_enter Tryz.func152, Tryz.ntmps152
    go_wp2_with (at_builtin; refine wpList_append_row_at _ rfl _ _ 22 rfl B 67 (.agg #[.string ByteArray.empty, .string ByteArray.empty]) 2 32 Tryz.underlying22 info_pair rfl (by decide) encP lenP oneP (.slice (some ⟨g, 0, none⟩) n _) n xs ?_ HO.out _ [x] ?_ H.out ?_ ?_ ?_ ?_)
    · rfl
    · rfl
    · unfold maxLen; simp; omega
    · simp; omega
    · exact hB
    intro v1 w1 hown1 hg1 hat
    have HGR : Hid (w.grownBy w1 (some g)) := hg1
    have ho1 : w1.ownsRow B 67 2 v1 (n + 1) (xs ++ encP x) := by simpa using hown1
    obtain ⟨a1, c1, rfl⟩ := ownsRow_shape ho1
    have HAT : Hid ((Value.slice a1 (n + 1) c1).ownBlock = some g ∨ (Value.slice a1 (n + 1) c1).ownBlock = some w.heap.size) := hat
    clear hg1 hown1 hat
    go_wp2_with fail
    go_ret
    exact ⟨_, rfl, ho1, HGR.out, HAT.out⟩
set_option maxRecDepth 100000 in
set_option maxHeartbeats 2000000 in
theorem insert_endI (B g n cap : Nat) (xs : List Value) (x : ByteArray) (s : Value) (w : World) (ho : w.ownsRow B 9 1 (.slice (some ⟨g, 0, none⟩) n cap) n xs) (hc : n ≤ cap) (hmax : cap ≤ maxLen) (hB : B ≤ w.heap.size) (hn : n ≤ 1048576) (h : RowAt 1 encI w s [x]) :
    Calls Tryz.prog 153 #[.slice (some ⟨g, 0, none⟩) n cap, .int .i64 (n : Int), s] w fun e w' => ∃ r, e = .returned r ∧ w'.ownsRow B 9 1 r (n + 1) (xs ++ encI x) ∧ w.grownBy w' (some g) ∧ (r.ownBlock = some g ∨ r.ownBlock = some w.heap.size) := by
  have hh := h
  obtain ⟨hl, a, cp, rfl, h1, h2, h3⟩ := hh
  rcases h3 with ⟨-, hnil, -⟩ | ⟨b, off, rfl, hbk, hcc⟩
  · simp at hnil
  clear hcc
  have H : Hid (RowAt 1 encI w (.slice (some ⟨b, off, none⟩) 1 cp) [x]) := h
  have HO : Hid (w.ownsRow B 9 1 (.slice (some ⟨g, 0, none⟩) n cap) n xs) := ho
  clear h ho
  have q1 : (0 : Int) ≤ (n : Int) := by omega
  have q2 : n ≤ n := Nat.le_refl _
  unfold maxLen at hmax
  by_cases hcn : n = cap
  · subst hcn
    go_enter Tryz.func153, Tryz.ntmps153
    go_wp2_with (at_builtin; refine wpList_append_row_at _ rfl _ _ 23 rfl B 9 (.string ByteArray.empty) 1 16 Tryz.underlying23 info_string rfl (by decide) encI lenI oneI (.slice (some ⟨g, 0, none⟩) n _) n xs ?_ HO.out _ [x] ?_ H.out ?_ ?_ ?_ ?_)
    · rfl
    · rfl
    · unfold maxLen; simp; omega
    · simp; omega
    · exact hB
    intro v1 w1 hown1 hg1 hat
    have HGR : Hid (w.grownBy w1 (some g)) := hg1
    have ho1 : w1.ownsRow B 9 1 v1 (n + 1) (xs ++ encI x) := by simpa using hown1
    obtain ⟨a1, c1, rfl⟩ := ownsRow_shape ho1
    have HAT : Hid ((Value.slice a1 (n + 1) c1).ownBlock = some g ∨ (Value.slice a1 (n + 1) c1).ownBlock = some w.heap.size) := hat
    clear hg1 hown1 hat
    go_wp2_with fail
    go_ret
    exact ⟨_, rfl, ho1, HGR.out, HAT.out⟩
  · have q3 : ¬ (cap = n) := fun h => hcn h.symm
    go_enter Tryz.func153, Tryz.ntmps153
    go_wp2_with (at_builtin; refine wpList_append_row_at _ rfl _ _ 23 rfl B 9 (.string ByteArray.empty) 1 16 Tryz.underlying23 info_string rfl (by decide) encI lenI oneI (.slice (some ⟨g, 0, none⟩) n _) n xs ?_ HO.out _ [x] ?_ H.out ?_ ?_ ?_ ?_)
    · rfl
    · rfl
    · unfold maxLen; simp; omega
    · simp; omega
    · exact hB
    intro v1 w1 hown1 hg1 hat
    have HGR : Hid (w.grownBy w1 (some g)) := hg1
    have ho1 : w1.ownsRow B 9 1 v1 (n + 1) (xs ++ encI x) := by simpa using hown1
    obtain ⟨a1, c1, rfl⟩ := ownsRow_shape ho1
    have HAT : Hid ((Value.slice a1 (n + 1) c1).ownBlock = some g ∨ (Value.slice a1 (n + 1) c1).ownBlock = some w.heap.size) := hat
    clear hg1 hown1 hat
    go_wp2_with fail
    go_ret
    exact ⟨_, rfl, ho1, HGR.out, HAT.out⟩
set_option maxRecDepth 100000 in
set_option maxHeartbeats 2000000 in
theorem insert_endS (B g n cap : Nat) (xs : List Value) (x : ByteArray × Int) (s : Value) (w : World) (ho : w.ownsRow B 69 2 (.slice (some ⟨g, 0, none⟩) n cap) n xs) (hc : n ≤ cap) (hmax : cap ≤ maxLen) (hB : B ≤ w.heap.size) (hn : n ≤ 1048576) (h : RowAt 2 encS w s [x]) :
    Calls Tryz.prog 157 #[.slice (some ⟨g, 0, none⟩) n cap, .int .i64 (n : Int), s] w fun e w' => ∃ r, e = .returned r ∧ w'.ownsRow B 69 2 r (n + 1) (xs ++ encS x) ∧ w.grownBy w' (some g) ∧ (r.ownBlock = some g ∨ r.ownBlock = some w.heap.size) := by
  have hh := h
  obtain ⟨hl, a, cp, rfl, h1, h2, h3⟩ := hh
  rcases h3 with ⟨-, hnil, -⟩ | ⟨b, off, rfl, hbk, hcc⟩
  · simp at hnil
  clear hcc
  have H : Hid (RowAt 2 encS w (.slice (some ⟨b, off, none⟩) 1 cp) [x]) := h
  have HO : Hid (w.ownsRow B 69 2 (.slice (some ⟨g, 0, none⟩) n cap) n xs) := ho
  clear h ho
  have q1 : (0 : Int) ≤ (n : Int) := by omega
  have q2 : n ≤ n := Nat.le_refl _
  unfold maxLen at hmax
  by_cases hcn : n = cap
  · subst hcn
    go_enter Tryz.func157, Tryz.ntmps157
    go_wp2_with (at_builtin; refine wpList_append_row_at _ rfl _ _ 24 rfl B 69 (.agg #[.string ByteArray.empty, .int .i64 0]) 2 24 Tryz.underlying24 info_score rfl (by decide) encS lenS oneS (.slice (some ⟨g, 0, none⟩) n _) n xs ?_ HO.out _ [x] ?_ H.out ?_ ?_ ?_ ?_)
    · rfl
    · rfl
    · unfold maxLen; simp; omega
    · simp; omega
    · exact hB
    intro v1 w1 hown1 hg1 hat
    have HGR : Hid (w.grownBy w1 (some g)) := hg1
    have ho1 : w1.ownsRow B 69 2 v1 (n + 1) (xs ++ encS x) := by simpa using hown1
    obtain ⟨a1, c1, rfl⟩ := ownsRow_shape ho1
    have HAT : Hid ((Value.slice a1 (n + 1) c1).ownBlock = some g ∨ (Value.slice a1 (n + 1) c1).ownBlock = some w.heap.size) := hat
    clear hg1 hown1 hat
    go_wp2_with fail
    go_ret
    exact ⟨_, rfl, ho1, HGR.out, HAT.out⟩
  · have q3 : ¬ (cap = n) := fun h => hcn h.symm
    go_enter Tryz.func157, Tryz.ntmps157
    go_wp2_with (at_builtin; refine wpList_append_row_at _ rfl _ _ 24 rfl B 69 (.agg #[.string ByteArray.empty, .int .i64 0]) 2 24 Tryz.underlying24 info_score rfl (by decide) encS lenS oneS (.slice (some ⟨g, 0, none⟩) n _) n xs ?_ HO.out _ [x] ?_ H.out ?_ ?_ ?_ ?_)
    · rfl
    · rfl
    · unfold maxLen; simp; omega
    · simp; omega
    · exact hB
    intro v1 w1 hown1 hg1 hat
    have HGR : Hid (w.grownBy w1 (some g)) := hg1
    have ho1 : w1.ownsRow B 69 2 v1 (n + 1) (xs ++ encS x) := by simpa using hown1
    obtain ⟨a1, c1, rfl⟩ := ownsRow_shape ho1
    have HAT : Hid ((Value.slice a1 (n + 1) c1).ownBlock = some g ∨ (Value.slice a1 (n + 1) c1).ownBlock = some w.heap.size) := hat
    clear hg1 hown1 hat
    go_wp2_with fail
    go_ret
    exact ⟨_, rfl, ho1, HGR.out, HAT.out⟩
end Go.Proofs.YtfnephnecighaaaGreat

/- slices.Insert and slices.Delete of one element, over lists that lie in rows of the call's own: at every place. -/
namespace Go.Proofs.YtfnephnecighaaaGreat
open Go.RowKit
set_option linter.unusedVariables false

theorem own_mk {w : World} {B g n cap k : Nat} {e : TypeId} {xs S : List Value} (hx : xs.length = n * k) (hg : B ≤ g) (hb : w.heap[g]? = some (.cells (xs ++ S).toArray e (0, 0))) (hc : n ≤ cap) (hm : cap ≤ maxLen) (hs : (xs ++ S).length = cap * k) :
    w.ownsRow B e k (.slice (some ⟨g, 0, none⟩) n cap) n xs :=
  ⟨hx, .inr ⟨g, cap, _, rfl, hg, hb, hc, hm, by simpa using hs, by rw [← hx]; simp⟩⟩
/-- A row of the call's own, opened: its block, its cells, what is spare. -/
theorem own_open {w : World} {B k : Nat} {e : TypeId} {s : Value} {n : Nat} {xs : List Value} (h : w.ownsRow B e k s n xs) (hn : 0 < n) : ∃ g cap S, s = .slice (some ⟨g, 0, none⟩) n cap ∧ B ≤ g ∧ w.heap[g]? = some (.cells (xs ++ S).toArray e (0, 0)) ∧ n ≤ cap ∧ cap ≤ maxLen ∧ (xs ++ S).length = cap * k := by
  rcases h.2 with ⟨-, h0⟩ | ⟨g, cap, cur, h1, h2, h3, h4, h5, h6, h7⟩
  · omega
  · refine ⟨g, cap, cur.toList.drop (n * k), h1, h2, ?_, h4, h5, ?_⟩
    · rw [← h7, List.take_append_drop]; simpa using h3
    · rw [← h7, List.take_append_drop]; simpa using h6
theorem flat_split {α : Type} (enc : α → List Value) (l : List α) (i : Nat) : l.flatMap enc = (l.take i).flatMap enc ++ (l.drop i).flatMap enc := by
  rw [← List.flatMap_append, List.take_append_drop]
theorem grown_just {g : Nat} {w w' : World} (h : JustRow g w w') : w.grownBy w' (some g) :=
  ⟨h.1.1, h.1.2.1, h.1.2.2, by rw [h.2.1]; exact Nat.le_refl _, fun k hk hne => h.2.2 k (fun e => hne (by rw [e]))⟩
theorem grown_below {w w' : World} {o : Option Nat} (h : Below w.heap.size w w') : w.grownBy w' o := ⟨h.os, h.tape, h.output, h.size, fun k hk _ => h.block k hk⟩
theorem at_either {o : Option Nat} {g n k : Nat} (h : o = some g ∨ o = some n) (hk : o = some k) : some g = some k ∨ n ≤ k := by
  rcases h with h | h
  · exact .inl (h.symm.trans hk)
  · rw [h] at hk
    cases hk
    exact .inr (Nat.le_refl _)
theorem maxLen_le : maxLen ≤ 9223372036854775807 := by unfold maxLen; omega

theorem one_flatP (l : List (ByteArray × ByteArray)) : ∀ v ∈ l.flatMap encP, v.oneCell' = true := by
  intro v hv
  obtain ⟨x, -, hx⟩ := List.mem_flatMap.1 hv
  exact oneP x v hx
theorem row_ofP {w : World} {vb : Nat} {x : ByteArray × ByteArray} (hv : w.heap[vb]? = some (.cells (encP x).toArray 67 (0, 0))) : RowAt 2 encP w (.slice (some ⟨vb, 0, none⟩) 1 1) [x] := by
  refine ⟨by simp, _, 1, rfl, by simp, by omega, .inr ⟨vb, 0, rfl, (Array.getElem?_eq_some_iff.1 hv).1, ?_⟩⟩
  intro i hi c hc
  obtain rfl : i = 0 := by simpa using hi
  rw [(block_cells hv).1]
  simp

theorem insertP_any (B i : Nat) (s : Value) (l : List (ByteArray × ByteArray)) (x : ByteArray × ByteArray) (vb : Nat) (w : World) (ho : w.ownsRow B 67 2 s l.length (l.flatMap encP)) (hB : B ≤ w.heap.size) (hi : i ≤ l.length) (hn : l.length ≤ 1048575)
    (hv : w.heap[vb]? = some (.cells (encP x).toArray 67 (0, 0))) (hvb : ∀ k, s.ownBlock = some k → vb ≠ k) :
    Calls Tryz.prog 152 #[s, .int .i64 (i : Int), .slice (some ⟨vb, 0, none⟩) 1 1] w fun e w' => ∃ r, e = .returned r ∧ w'.ownsRow B 67 2 r (l.length + 1) ((l.take i ++ x :: l.drop i).flatMap encP) ∧ w.grownBy w' s.ownBlock ∧ ∀ k, r.ownBlock = some k → s.ownBlock = some k ∨ w.heap.size ≤ k := by
  by_cases hend : i = l.length
  · have hlist : (l.take i ++ x :: l.drop i).flatMap encP = l.flatMap encP ++ encP x := by rw [hend]; simp
    rw [hlist]
    by_cases h0 : 0 < l.length
    · obtain ⟨g, cap, S, rfl, hg, hb, hc, hm, hs⟩ := own_open ho h0
      rw [hend]
      refine (insert_endP B g l.length cap _ x _ w ho hc hm hB (by omega) (row_ofP hv)).mono ?_
      rintro e w' ⟨r, rfl, h1, h2, h3⟩
      exact ⟨r, rfl, h1, h2, fun k hk => at_either h3 hk⟩
    · obtain rfl : l = [] := List.eq_nil_of_length_eq_zero (by omega)
      rcases ho.2 with ⟨rfl, -⟩ | ⟨g, cap, cur, rfl, hg, hb, hc, hm, hsz, -⟩
      · rw [hend]
        refine (insertP_nil _ x w (row_ofP hv)).mono ?_
        rintro e w' ⟨r, rfl, ho', hb'⟩
        exact ⟨r, rfl, by simpa using ownsRow_base ho'.1 hB, grown_below hb', fun k hk => .inr (ho'.1.lt k hk).1⟩
      · rw [hend]
        refine (insert_endP B g 0 cap _ x _ w ho (by omega) hm hB (by omega) (row_ofP hv)).mono ?_
        rintro e w' ⟨r, rfl, h1, h2, h3⟩
        exact ⟨r, rfl, h1, h2, fun k hk => at_either h3 hk⟩
  · have hlt : i < l.length := by omega
    obtain ⟨g, cap, S, rfl, hg, hb, hc, hm, hs⟩ := own_open ho (by omega)
    have hA : ((l.take i).flatMap encP).length = i * 2 := by rw [flat_length lenP, List.length_take, Nat.min_eq_left hi]
    have hC : ((l.drop i).flatMap encP).length = (l.length - i) * 2 := by rw [flat_length lenP, List.length_drop]
    rw [flat_split encP l i, List.append_assoc] at hb hs
    have hlist : (l.take i ++ x :: l.drop i).flatMap encP = (l.take i).flatMap encP ++ (encP x ++ (l.drop i).flatMap encP) := by simp
    have hlen : ((l.take i ++ x :: l.drop i).flatMap encP).length = (l.length + 1) * 2 := by rw [flat_length lenP]; simp; omega
    have e1 : l.length = i + (l.length - i) := by omega
    have hne : vb ≠ g := hvb g rfl
    have hmx := Nat.le_trans hm maxLen_le
    have hl : (encP x).length = 2 := lenP x
    by_cases hroom : l.length + 1 ≤ cap
    · have := insert_roomP g vb i (l.length - i) cap _ _ S (encP x) w (by omega) hA hC hl hne hb hv (by omega) hs hmx (by omega) (one_flatP _) (oneP x)
      rw [← e1] at this
      refine this.mono ?_
      rintro e w' ⟨rfl, hb', hj⟩
      refine ⟨_, rfl, own_mk hlen hg (S := S.drop 2) ?_ hroom hm ?_, grown_just hj, fun k hk => .inl hk⟩
      · rw [hlist]; simpa only [List.append_assoc] using hb'
      · rw [hlist]; simp only [List.length_append, List.length_drop] at hs ⊢; omega
    · have hcap : cap = l.length := by omega
      subst hcap
      obtain rfl : S = [] := by
        apply List.eq_nil_of_length_eq_zero
        simp only [List.length_append] at hs
        omega
      rw [List.append_nil] at hb
      have := insert_growP g vb i (l.length - i) _ _ (encP x) w (by omega) hA hC hl hb hv (by omega) (one_flatP _) (oneP x)
      rw [← e1] at this
      refine this.mono ?_
      rintro e w' ⟨c2, S2, rfl, h1, h2, h3, hb', hbel⟩
      refine ⟨_, rfl, own_mk hlen hB (S := S2) ?_ h1 h2 ?_, grown_below hbel, fun k hk => .inr (by cases hk; exact Nat.le_refl _)⟩
      · rw [hlist]; simpa only [List.append_assoc] using hb'
      · rw [List.length_append, hlen, h3]
        have : c2 = l.length + 1 + (c2 - (l.length + 1)) := by omega
        generalize c2 - (l.length + 1) = d at this ⊢
        subst this
        omega

theorem deleteP_any (B i : Nat) (s : Value) (l : List (ByteArray × ByteArray)) (w : World) (ho : w.ownsRow B 67 2 s l.length (l.flatMap encP)) (hi : i < l.length) (hn : l.length ≤ 1048576) :
    Calls Tryz.prog 132 #[s, .int .i64 (i : Int), .int .i64 ((i : Int) + 1)] w fun e w' => ∃ r, e = .returned r ∧ w'.ownsRow B 67 2 r (l.length - 1) ((l.take i ++ l.drop (i + 1)).flatMap encP) ∧ w.grownBy w' s.ownBlock ∧ r.ownBlock = s.ownBlock := by
  obtain ⟨g, cap, S, rfl, hg, hb, hc, hm, hs⟩ := own_open ho (by omega)
  have hA : ((l.take i).flatMap encP).length = i * 2 := by rw [flat_length lenP, List.length_take, Nat.min_eq_left (by omega)]
  have hC : ((l.drop (i + 1)).flatMap encP).length = (l.length - (i + 1)) * 2 := by rw [flat_length lenP, List.length_drop]
  have hsp : l.flatMap encP = (l.take i).flatMap encP ++ (encP l[i] ++ (l.drop (i + 1)).flatMap encP) := by
    rw [flat_split encP l i, List.drop_eq_getElem_cons hi, List.flatMap_cons]
  rw [hsp, List.append_assoc, List.append_assoc] at hb hs
  have hlist : (l.take i ++ l.drop (i + 1)).flatMap encP = (l.take i).flatMap encP ++ (l.drop (i + 1)).flatMap encP := by simp
  have hlen : ((l.take i ++ l.drop (i + 1)).flatMap encP).length = (l.length - 1) * 2 := by rw [flat_length lenP]; simp; omega
  have hl : (encP l[i]).length = 2 := lenP _
  have := delete_coreP g i (l.length - (i + 1)) cap _ _ _ S w hA hl hC hb (by omega) (Nat.le_trans hm maxLen_le) (by omega) (one_flatP _)
  rw [show i + 1 + (l.length - (i + 1)) = l.length by omega, show i + (l.length - (i + 1)) = l.length - 1 by omega] at this
  refine this.mono ?_
  rintro e w' ⟨rfl, hb', hj⟩
  refine ⟨_, rfl, own_mk hlen hg (S := [Value.string ByteArray.empty, Value.string ByteArray.empty] ++ S) ?_ (by omega) hm ?_, grown_just hj, rfl⟩
  · rw [hlist]; simpa only [List.append_assoc] using hb'
  · rw [hlist]; simp only [List.length_append, hl, hA, hC, List.length_cons, List.length_nil] at hs ⊢; omega
theorem one_flatI (l : List (ByteArray)) : ∀ v ∈ l.flatMap encI, v.oneCell' = true := by
  intro v hv
  obtain ⟨x, -, hx⟩ := List.mem_flatMap.1 hv
  exact oneI x v hx
theorem row_ofI {w : World} {vb : Nat} {x : ByteArray} (hv : w.heap[vb]? = some (.cells (encI x).toArray 9 (0, 0))) : RowAt 1 encI w (.slice (some ⟨vb, 0, none⟩) 1 1) [x] := by
  refine ⟨by simp, _, 1, rfl, by simp, by omega, .inr ⟨vb, 0, rfl, (Array.getElem?_eq_some_iff.1 hv).1, ?_⟩⟩
  intro i hi c hc
  obtain rfl : i = 0 := by simpa using hi
  rw [(block_cells hv).1]
  simp

theorem insertI_any (B i : Nat) (s : Value) (l : List (ByteArray)) (x : ByteArray) (vb : Nat) (w : World) (ho : w.ownsRow B 9 1 s l.length (l.flatMap encI)) (hB : B ≤ w.heap.size) (hi : i ≤ l.length) (hn : l.length ≤ 1048575)
    (hv : w.heap[vb]? = some (.cells (encI x).toArray 9 (0, 0))) (hvb : ∀ k, s.ownBlock = some k → vb ≠ k) :
    Calls Tryz.prog 153 #[s, .int .i64 (i : Int), .slice (some ⟨vb, 0, none⟩) 1 1] w fun e w' => ∃ r, e = .returned r ∧ w'.ownsRow B 9 1 r (l.length + 1) ((l.take i ++ x :: l.drop i).flatMap encI) ∧ w.grownBy w' s.ownBlock ∧ ∀ k, r.ownBlock = some k → s.ownBlock = some k ∨ w.heap.size ≤ k := by
  by_cases hend : i = l.length
  · have hlist : (l.take i ++ x :: l.drop i).flatMap encI = l.flatMap encI ++ encI x := by rw [hend]; simp
    rw [hlist]
    by_cases h0 : 0 < l.length
    · obtain ⟨g, cap, S, rfl, hg, hb, hc, hm, hs⟩ := own_open ho h0
      rw [hend]
      refine (insert_endI B g l.length cap _ x _ w ho hc hm hB (by omega) (row_ofI hv)).mono ?_
      rintro e w' ⟨r, rfl, h1, h2, h3⟩
      exact ⟨r, rfl, h1, h2, fun k hk => at_either h3 hk⟩
    · obtain rfl : l = [] := List.eq_nil_of_length_eq_zero (by omega)
      rcases ho.2 with ⟨rfl, -⟩ | ⟨g, cap, cur, rfl, hg, hb, hc, hm, hsz, -⟩
      · rw [hend]
        refine (insertI_nil _ x w (row_ofI hv)).mono ?_
        rintro e w' ⟨r, rfl, ho', hb'⟩
        exact ⟨r, rfl, by simpa using ownsRow_base ho'.1 hB, grown_below hb', fun k hk => .inr (ho'.1.lt k hk).1⟩
      · rw [hend]
        refine (insert_endI B g 0 cap _ x _ w ho (by omega) hm hB (by omega) (row_ofI hv)).mono ?_
        rintro e w' ⟨r, rfl, h1, h2, h3⟩
        exact ⟨r, rfl, h1, h2, fun k hk => at_either h3 hk⟩
  · have hlt : i < l.length := by omega
    obtain ⟨g, cap, S, rfl, hg, hb, hc, hm, hs⟩ := own_open ho (by omega)
    have hA : ((l.take i).flatMap encI).length = i * 1 := by rw [flat_length lenI, List.length_take, Nat.min_eq_left hi]
    have hC : ((l.drop i).flatMap encI).length = (l.length - i) * 1 := by rw [flat_length lenI, List.length_drop]
    rw [flat_split encI l i, List.append_assoc] at hb hs
    have hlist : (l.take i ++ x :: l.drop i).flatMap encI = (l.take i).flatMap encI ++ (encI x ++ (l.drop i).flatMap encI) := by simp
    have hlen : ((l.take i ++ x :: l.drop i).flatMap encI).length = (l.length + 1) * 1 := by rw [flat_length lenI]; simp; omega
    have e1 : l.length = i + (l.length - i) := by omega
    have hne : vb ≠ g := hvb g rfl
    have hmx := Nat.le_trans hm maxLen_le
    have hl : (encI x).length = 1 := lenI x
    by_cases hroom : l.length + 1 ≤ cap
    · have := insert_roomI g vb i (l.length - i) cap _ _ S (encI x) w (by omega) hA hC hl hne hb hv (by omega) hs hmx (by omega) (one_flatI _) (oneI x)
      rw [← e1] at this
      refine this.mono ?_
      rintro e w' ⟨rfl, hb', hj⟩
      refine ⟨_, rfl, own_mk hlen hg (S := S.drop 1) ?_ hroom hm ?_, grown_just hj, fun k hk => .inl hk⟩
      · rw [hlist]; simpa only [List.append_assoc] using hb'
      · rw [hlist]; simp only [List.length_append, List.length_drop] at hs ⊢; omega
    · have hcap : cap = l.length := by omega
      subst hcap
      obtain rfl : S = [] := by
        apply List.eq_nil_of_length_eq_zero
        simp only [List.length_append] at hs
        omega
      rw [List.append_nil] at hb
      have := insert_growI g vb i (l.length - i) _ _ (encI x) w (by omega) hA hC hl hb hv (by omega) (one_flatI _) (oneI x)
      rw [← e1] at this
      refine this.mono ?_
      rintro e w' ⟨c2, S2, rfl, h1, h2, h3, hb', hbel⟩
      refine ⟨_, rfl, own_mk hlen hB (S := S2) ?_ h1 h2 ?_, grown_below hbel, fun k hk => .inr (by cases hk; exact Nat.le_refl _)⟩
      · rw [hlist]; simpa only [List.append_assoc] using hb'
      · rw [List.length_append, hlen, h3]
        have : c2 = l.length + 1 + (c2 - (l.length + 1)) := by omega
        generalize c2 - (l.length + 1) = d at this ⊢
        subst this
        omega

theorem deleteI_any (B i : Nat) (s : Value) (l : List (ByteArray)) (w : World) (ho : w.ownsRow B 9 1 s l.length (l.flatMap encI)) (hi : i < l.length) (hn : l.length ≤ 1048576) :
    Calls Tryz.prog 138 #[s, .int .i64 (i : Int), .int .i64 ((i : Int) + 1)] w fun e w' => ∃ r, e = .returned r ∧ w'.ownsRow B 9 1 r (l.length - 1) ((l.take i ++ l.drop (i + 1)).flatMap encI) ∧ w.grownBy w' s.ownBlock ∧ r.ownBlock = s.ownBlock := by
  obtain ⟨g, cap, S, rfl, hg, hb, hc, hm, hs⟩ := own_open ho (by omega)
  have hA : ((l.take i).flatMap encI).length = i * 1 := by rw [flat_length lenI, List.length_take, Nat.min_eq_left (by omega)]
  have hC : ((l.drop (i + 1)).flatMap encI).length = (l.length - (i + 1)) * 1 := by rw [flat_length lenI, List.length_drop]
  have hsp : l.flatMap encI = (l.take i).flatMap encI ++ (encI l[i] ++ (l.drop (i + 1)).flatMap encI) := by
    rw [flat_split encI l i, List.drop_eq_getElem_cons hi, List.flatMap_cons]
  rw [hsp, List.append_assoc, List.append_assoc] at hb hs
  have hlist : (l.take i ++ l.drop (i + 1)).flatMap encI = (l.take i).flatMap encI ++ (l.drop (i + 1)).flatMap encI := by simp
  have hlen : ((l.take i ++ l.drop (i + 1)).flatMap encI).length = (l.length - 1) * 1 := by rw [flat_length lenI]; simp; omega
  have hl : (encI l[i]).length = 1 := lenI _
  have := delete_coreI g i (l.length - (i + 1)) cap _ _ _ S w hA hl hC hb (by omega) (Nat.le_trans hm maxLen_le) (by omega) (one_flatI _)
  rw [show i + 1 + (l.length - (i + 1)) = l.length by omega, show i + (l.length - (i + 1)) = l.length - 1 by omega] at this
  refine this.mono ?_
  rintro e w' ⟨rfl, hb', hj⟩
  refine ⟨_, rfl, own_mk hlen hg (S := [Value.string ByteArray.empty] ++ S) ?_ (by omega) hm ?_, grown_just hj, rfl⟩
  · rw [hlist]; simpa only [List.append_assoc] using hb'
  · rw [hlist]; simp only [List.length_append, hl, hA, hC, List.length_cons, List.length_nil] at hs ⊢; omega
theorem one_flatS (l : List (ByteArray × Int)) : ∀ v ∈ l.flatMap encS, v.oneCell' = true := by
  intro v hv
  obtain ⟨x, -, hx⟩ := List.mem_flatMap.1 hv
  exact oneS x v hx
theorem row_ofS {w : World} {vb : Nat} {x : ByteArray × Int} (hv : w.heap[vb]? = some (.cells (encS x).toArray 69 (0, 0))) : RowAt 2 encS w (.slice (some ⟨vb, 0, none⟩) 1 1) [x] := by
  refine ⟨by simp, _, 1, rfl, by simp, by omega, .inr ⟨vb, 0, rfl, (Array.getElem?_eq_some_iff.1 hv).1, ?_⟩⟩
  intro i hi c hc
  obtain rfl : i = 0 := by simpa using hi
  rw [(block_cells hv).1]
  simp

theorem insertS_any (B i : Nat) (s : Value) (l : List (ByteArray × Int)) (x : ByteArray × Int) (vb : Nat) (w : World) (ho : w.ownsRow B 69 2 s l.length (l.flatMap encS)) (hB : B ≤ w.heap.size) (hi : i ≤ l.length) (hn : l.length ≤ 1048575)
    (hv : w.heap[vb]? = some (.cells (encS x).toArray 69 (0, 0))) (hvb : ∀ k, s.ownBlock = some k → vb ≠ k) :
    Calls Tryz.prog 157 #[s, .int .i64 (i : Int), .slice (some ⟨vb, 0, none⟩) 1 1] w fun e w' => ∃ r, e = .returned r ∧ w'.ownsRow B 69 2 r (l.length + 1) ((l.take i ++ x :: l.drop i).flatMap encS) ∧ w.grownBy w' s.ownBlock ∧ ∀ k, r.ownBlock = some k → s.ownBlock = some k ∨ w.heap.size ≤ k := by
  by_cases hend : i = l.length
  · have hlist : (l.take i ++ x :: l.drop i).flatMap encS = l.flatMap encS ++ encS x := by rw [hend]; simp
    rw [hlist]
    by_cases h0 : 0 < l.length
    · obtain ⟨g, cap, S, rfl, hg, hb, hc, hm, hs⟩ := own_open ho h0
      rw [hend]
      refine (insert_endS B g l.length cap _ x _ w ho hc hm hB (by omega) (row_ofS hv)).mono ?_
      rintro e w' ⟨r, rfl, h1, h2, h3⟩
      exact ⟨r, rfl, h1, h2, fun k hk => at_either h3 hk⟩
    · obtain rfl : l = [] := List.eq_nil_of_length_eq_zero (by omega)
      rcases ho.2 with ⟨rfl, -⟩ | ⟨g, cap, cur, rfl, hg, hb, hc, hm, hsz, -⟩
      · rw [hend]
        refine (insertS_nil _ x w (row_ofS hv)).mono ?_
        rintro e w' ⟨r, rfl, ho', hb'⟩
        exact ⟨r, rfl, by simpa using ownsRow_base ho'.1 hB, grown_below hb', fun k hk => .inr (ho'.1.lt k hk).1⟩
      · rw [hend]
        refine (insert_endS B g 0 cap _ x _ w ho (by omega) hm hB (by omega) (row_ofS hv)).mono ?_
        rintro e w' ⟨r, rfl, h1, h2, h3⟩
        exact ⟨r, rfl, h1, h2, fun k hk => at_either h3 hk⟩
  · have hlt : i < l.length := by omega
    obtain ⟨g, cap, S, rfl, hg, hb, hc, hm, hs⟩ := own_open ho (by omega)
    have hA : ((l.take i).flatMap encS).length = i * 2 := by rw [flat_length lenS, List.length_take, Nat.min_eq_left hi]
    have hC : ((l.drop i).flatMap encS).length = (l.length - i) * 2 := by rw [flat_length lenS, List.length_drop]
    rw [flat_split encS l i, List.append_assoc] at hb hs
    have hlist : (l.take i ++ x :: l.drop i).flatMap encS = (l.take i).flatMap encS ++ (encS x ++ (l.drop i).flatMap encS) := by simp
    have hlen : ((l.take i ++ x :: l.drop i).flatMap encS).length = (l.length + 1) * 2 := by rw [flat_length lenS]; simp; omega
    have e1 : l.length = i + (l.length - i) := by omega
    have hne : vb ≠ g := hvb g rfl
    have hmx := Nat.le_trans hm maxLen_le
    have hl : (encS x).length = 2 := lenS x
    by_cases hroom : l.length + 1 ≤ cap
    · have := insert_roomS g vb i (l.length - i) cap _ _ S (encS x) w (by omega) hA hC hl hne hb hv (by omega) hs hmx (by omega) (one_flatS _) (oneS x)
      rw [← e1] at this
      refine this.mono ?_
      rintro e w' ⟨rfl, hb', hj⟩
      refine ⟨_, rfl, own_mk hlen hg (S := S.drop 2) ?_ hroom hm ?_, grown_just hj, fun k hk => .inl hk⟩
      · rw [hlist]; simpa only [List.append_assoc] using hb'
      · rw [hlist]; simp only [List.length_append, List.length_drop] at hs ⊢; omega
    · have hcap : cap = l.length := by omega
      subst hcap
      obtain rfl : S = [] := by
        apply List.eq_nil_of_length_eq_zero
        simp only [List.length_append] at hs
        omega
      rw [List.append_nil] at hb
      have := insert_growS g vb i (l.length - i) _ _ (encS x) w (by omega) hA hC hl hb hv (by omega) (one_flatS _) (oneS x)
      rw [← e1] at this
      refine this.mono ?_
      rintro e w' ⟨c2, S2, rfl, h1, h2, h3, hb', hbel⟩
      refine ⟨_, rfl, own_mk hlen hB (S := S2) ?_ h1 h2 ?_, grown_below hbel, fun k hk => .inr (by cases hk; exact Nat.le_refl _)⟩
      · rw [hlist]; simpa only [List.append_assoc] using hb'
      · rw [List.length_append, hlen, h3]
        have : c2 = l.length + 1 + (c2 - (l.length + 1)) := by omega
        generalize c2 - (l.length + 1) = d at this ⊢
        subst this
        omega

theorem deleteS_any (B i : Nat) (s : Value) (l : List (ByteArray × Int)) (w : World) (ho : w.ownsRow B 69 2 s l.length (l.flatMap encS)) (hi : i < l.length) (hn : l.length ≤ 1048576) :
    Calls Tryz.prog 158 #[s, .int .i64 (i : Int), .int .i64 ((i : Int) + 1)] w fun e w' => ∃ r, e = .returned r ∧ w'.ownsRow B 69 2 r (l.length - 1) ((l.take i ++ l.drop (i + 1)).flatMap encS) ∧ w.grownBy w' s.ownBlock ∧ r.ownBlock = s.ownBlock := by
  obtain ⟨g, cap, S, rfl, hg, hb, hc, hm, hs⟩ := own_open ho (by omega)
  have hA : ((l.take i).flatMap encS).length = i * 2 := by rw [flat_length lenS, List.length_take, Nat.min_eq_left (by omega)]
  have hC : ((l.drop (i + 1)).flatMap encS).length = (l.length - (i + 1)) * 2 := by rw [flat_length lenS, List.length_drop]
  have hsp : l.flatMap encS = (l.take i).flatMap encS ++ (encS l[i] ++ (l.drop (i + 1)).flatMap encS) := by
    rw [flat_split encS l i, List.drop_eq_getElem_cons hi, List.flatMap_cons]
  rw [hsp, List.append_assoc, List.append_assoc] at hb hs
  have hlist : (l.take i ++ l.drop (i + 1)).flatMap encS = (l.take i).flatMap encS ++ (l.drop (i + 1)).flatMap encS := by simp
  have hlen : ((l.take i ++ l.drop (i + 1)).flatMap encS).length = (l.length - 1) * 2 := by rw [flat_length lenS]; simp; omega
  have hl : (encS l[i]).length = 2 := lenS _
  have := delete_coreS g i (l.length - (i + 1)) cap _ _ _ S w hA hl hC hb (by omega) (Nat.le_trans hm maxLen_le) (by omega) (one_flatS _)
  rw [show i + 1 + (l.length - (i + 1)) = l.length by omega, show i + (l.length - (i + 1)) = l.length - 1 by omega] at this
  refine this.mono ?_
  rintro e w' ⟨rfl, hb', hj⟩
  refine ⟨_, rfl, own_mk hlen hg (S := [Value.string ByteArray.empty, Value.int .i64 0] ++ S) ?_ (by omega) hm ?_, grown_just hj, rfl⟩
  · rw [hlist]; simpa only [List.append_assoc] using hb'
  · rw [hlist]; simp only [List.length_append, hl, hA, hC, List.length_cons, List.length_nil] at hs ⊢; omega
end Go.Proofs.YtfnephnecighaaaGreat

/- slices of entries (Sk at eight cells). -/
namespace Go.Proofs.YtfnephnecighaaaGreat
open Go.RowKit
set_option linter.unusedVariables false

set_option maxRecDepth 100000 in
set_option maxHeartbeats 2000000 in
theorem insert_endE (B g n cap : Nat) (xs : List Value) (x : Ent) (s : Value) (w : World) (ho : w.ownsRow B 57 8 (.slice (some ⟨g, 0, none⟩) n cap) n xs) (hc : n ≤ cap) (hmax : cap ≤ maxLen) (hB : B ≤ w.heap.size) (hn : n ≤ 1048576) (h : RowAt 8 encE w s [x]) :
    Calls Tryz.prog 146 #[.slice (some ⟨g, 0, none⟩) n cap, .int .i64 (n : Int), s] w fun e w' => ∃ r, e = .returned r ∧ w'.ownsRow B 57 8 r (n + 1) (xs ++ encE x) ∧ w.grownBy w' (some g) ∧ (r.ownBlock = some g ∨ r.ownBlock = some w.heap.size) := by
  have hh := h
  obtain ⟨hl, a, cp, rfl, h1, h2, h3⟩ := hh
  rcases h3 with ⟨-, hnil, -⟩ | ⟨b, off, rfl, hbk, hcc⟩
  · simp at hnil
  clear hcc
  have H : Hid (RowAt 8 encE w (.slice (some ⟨b, off, none⟩) 1 cp) [x]) := h
  have HO : Hid (w.ownsRow B 57 8 (.slice (some ⟨g, 0, none⟩) n cap) n xs) := ho
  clear h ho
  have q1 : (0 : Int) ≤ (n : Int) := by omega
  have q2 : n ≤ n := Nat.le_refl _
  unfold maxLen at hmax
  by_cases hcn : n = cap
  · subst hcn
    go_enter Tryz.func146, Tryz.ntmps146
    go_wp2_with (at_builtin; refine wpList_append_row_at _ rfl _ _ 38 rfl B 57 (.agg #[.string ByteArray.empty, .int .i64 0, .string ByteArray.empty, .int .i64 0, .slice none 0 0, .slice none 0 0, .slice none 0 0, .int .i64 0]) 8 128 Tryz.underlying38 info_entry rfl (by decide) encE lenE oneE (.slice (some ⟨g, 0, none⟩) n _) n xs ?_ HO.out _ [x] ?_ H.out ?_ ?_ ?_ ?_)
    · rfl
    · rfl
    · unfold maxLen; simp; omega
    · simp; omega
    · exact hB
    intro v1 w1 hown1 hg1 hat
    have HGR : Hid (w.grownBy w1 (some g)) := hg1
    have ho1 : w1.ownsRow B 57 8 v1 (n + 1) (xs ++ encE x) := by simpa using hown1
    obtain ⟨a1, c1, rfl⟩ := ownsRow_shape ho1
    have HAT : Hid ((Value.slice a1 (n + 1) c1).ownBlock = some g ∨ (Value.slice a1 (n + 1) c1).ownBlock = some w.heap.size) := hat
    clear hg1 hown1 hat
    go_wp2_with fail
    go_ret
    exact ⟨_, rfl, ho1, HGR.out, HAT.out⟩
  · have q3 : ¬ (cap = n) := fun h => hcn h.symm
    go_enter Tryz.func146, Tryz.ntmps146
    go_wp2_with (at_builtin; refine wpList_append_row_at _ rfl _ _ 38 rfl B 57 (.agg #[.string ByteArray.empty, .int .i64 0, .string ByteArray.empty, .int .i64 0, .slice none 0 0, .slice none 0 0, .slice none 0 0, .int .i64 0]) 8 128 Tryz.underlying38 info_entry rfl (by decide) encE lenE oneE (.slice (some ⟨g, 0, none⟩) n _) n xs ?_ HO.out _ [x] ?_ H.out ?_ ?_ ?_ ?_)
    · rfl
    · rfl
    · unfold maxLen; simp; omega
    · simp; omega
    · exact hB
    intro v1 w1 hown1 hg1 hat
    have HGR : Hid (w.grownBy w1 (some g)) := hg1
    have ho1 : w1.ownsRow B 57 8 v1 (n + 1) (xs ++ encE x) := by simpa using hown1
    obtain ⟨a1, c1, rfl⟩ := ownsRow_shape ho1
    have HAT : Hid ((Value.slice a1 (n + 1) c1).ownBlock = some g ∨ (Value.slice a1 (n + 1) c1).ownBlock = some w.heap.size) := hat
    clear hg1 hown1 hat
    go_wp2_with fail
    go_ret
    exact ⟨_, rfl, ho1, HGR.out, HAT.out⟩
end Go.Proofs.YtfnephnecighaaaGreat
