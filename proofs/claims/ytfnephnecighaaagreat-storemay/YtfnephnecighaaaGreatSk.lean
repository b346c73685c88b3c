/- slices.Insert and slices.Delete of one element, over lists that lie in rows of the call's own. -/
import Derived.Test.YtfnephnecighaaaGreatSj
import Derived.Maps.AppendAt
namespace Go.Proofs.YtfnephnecighaaaGreat
open Go.RowKit
set_option linter.unusedVariables false

theorem wpList_append_row_at {P : Program} (w : World) {ops : Array Oper} {rest : List Oper} {o : Oper} {a : Act} {Q : Exit → Act → World → Prop} (hgd : o.guard = none) (s x : Operand) (t : TypeId)
    (ho : o.op = .call { callee := .builtin .append, args := #[s, x], argTypes := #[t, t] })
    (base : Nat) (e : TypeId) (z : Value) (size bytes : Nat) (ht : P.underlying t = some (.slice e)) (hinfo : (P.info? e).map (fun i => (i.zero, i.size, i.bytes)) = some (some z, size, bytes))
    (hzs : z.cells.size = size) (hsz : 0 < size) {α : Type} (enc : α → List Value) (hk : ∀ x, (enc x).length = size) (hone : ∀ x, ∀ u ∈ enc x, u.oneCell' = true)
    (v : Value) (n : Nat) (xs : List Value) (hs : a.eval s = v) (hown : w.ownsRow base e size v n xs)
    (sv : Value) (l : List α) (hx : a.eval x = sv) (hrow : RowAt size enc w sv l)
    (h63 : n + l.length ≤ maxLen) (hbytes : (n + l.length) * bytes ≤ 140737488355328) (hbase : base ≤ w.heap.size)
    (h : ∀ v' w', w'.ownsRow base e size v' (n + l.length) (xs ++ l.flatMap enc) → w.grownBy w' v.ownBlock → (v'.ownBlock = v.ownBlock ∨ v'.ownBlock = some w.heap.size) → wpList P ops Q rest (a.put o.dst v') w') : wpList P ops Q (o :: rest) a w := by
  obtain ⟨i, hi, hz, h1, h2⟩ := info_parts hinfo
  obtain ⟨hl, ad, cap, hsv, h3, h4, h5⟩ := hrow
  rcases h5 with ⟨rfl, rfl, rfl⟩ | ⟨b, off, rfl, hb, hc⟩
  · refine wpList_plain hgd fun K hK' => ?_
    have hrun := run_append_owned_none (P := P) w base t o.type e i size ht hi v n xs hown
    subst hsv
    simp only [List.length_nil] at hx
    unfold Oper.wp execOp
    simp only [ho, resolve, invoke, builtin, Sem.run_bind, Sem.run_pure, Result.andThen_ok, List.map_toArray, List.map_cons, List.map_nil, hs, hx, hrun]
    exact hK' _ _ (h v w (by simpa using hown) (World.grownBy.refl w _) (.inl rfl))
  · subst hsv
    refine wpList_append_own_at w hgd s x t ho base e i z size bytes ht hi hz h1 h2 hzs hsz v n xs hs hown ⟨b, off, none⟩ l.length cap (l.flatMap enc) hx (flat_length hk l) (RowAt.news hk hsz hc) ?_ h63 hbytes hbase (fun v' w' k1 k2 _ k4 => h v' w' k1 k2 k4)
    intro u hu
    obtain ⟨y, _, hy⟩ := List.mem_flatMap.1 hu
    exact hone y u hy

set_option maxRecDepth 100000 in
set_option maxHeartbeats 2000000 in
theorem insert_endP (B g n cap : Nat) (xs : List Value) (x : ByteArray × ByteArray) (s : Value) (w : World) (ho : w.ownsRow B 67 2 (.slice (some ⟨g, 0, none⟩) n cap) n xs) (hc : n ≤ cap) (hmax : cap ≤ maxLen) (hB : B ≤ w.heap.size) (hn : n ≤ 1048576) (h : RowAt 2 encP w s [x]) :
    Calls Tryz.prog 152 #[.slice (some ⟨g, 0, none⟩) n cap, .int .i64 (n : Int), s] w fun e w' => ∃ r, e = .returned r ∧ w'.ownsRow B 67 2 r (n + 1) (xs ++ encP x) ∧ w.grownBy w' (some g) ∧ (r.ownBlock = some g ∨ r.ownBlock = some w.heap.size) := by
  have hh := h
  obtain ⟨hl, a, cp, rfl, h1, h2, h3⟩ := hh
  rcases h3 with ⟨-, hnil, -⟩ | ⟨b, off, rfl, hbk, hcc⟩
  · simp at hnil
  clear hcc
  have H : Hid (RowAt 2 encP w (.slice (some ⟨b, off, none⟩) 1 cp) [x]) := h
  have HO : Hid (w.ownsRow B 67 2 (.slice (some ⟨g, 0, none⟩) n cap) n xs) := ho
  clear h ho
  have q1 : (0 : Int) ≤ (n : Int) := by omega
  have q2 : n ≤ n := Nat.le_refl _
  unfold maxLen at hmax
  by_cases hcn : n = cap
  · subst hcn
    go_enter Tryz.func152, Tryz.ntmps152
    go_wp2_with (at_builtin; refine wpList_append_row_at _ rfl _ _ 22 rfl B 67 (.agg #[.string ByteArray.empty, .string ByteArray.empty]) 2 32 Tryz.underlying22 info_pair rfl (by decide) encP lenP oneP (.slice (some ⟨g, 0, none⟩) n _) n xs ?_ HO.out _ [x] ?_ H.out ?_ ?_ ?_ ?_)
    · rfl
    · rfl
    · unfold maxLen; simp; omega
    · simp; omega
    · exact hB
    intro v1 w1 hown1 hg1 hat
    have HGR : Hid (w.grownBy w1 (some g)) := hg1
    have ho1 : w1.ownsRow B 67 2 v1 (n + 1) (xs ++ encP x) := by simpa using hown1
    obtain ⟨a1, c1, rfl⟩ := ownsRow_shape ho1
    have HAT : Hid ((Value.slice a1 (n + 1) c1).ownBlock = some g ∨ (Value.slice a1 (n + 1) c1).ownBlock = some w.heap.size) := hat
    clear hg1 hown1 hat
    go_wp2_with fail
    go_ret
    exact ⟨_, rfl, ho1, HGR.out, HAT.out⟩
  · have q3 : ¬ (cap = n) := fun h => hcn h.symm
    go_enter Tryz.func152, Tryz.ntmps152
    go_wp2_with (at_builtin; refine wpList_append_row_at _ rfl _ _ 22 rfl B 67 (.agg #[.string ByteArray.empty, .string ByteArray.empty]) 2 32 Tryz.underlying22 info_pair rfl (by decide) encP lenP oneP (.slice (some ⟨g, 0, none⟩) n _) n xs ?_ HO.out _ [x] ?_ H.out ?_ ?_ ?_ ?_)
    · rfl
    · rfl
    · unfold maxLen; simp; omega
    · simp; omega
    · exact hB
    intro v1 w1 hown1 hg1 hat
    have HGR : Hid (w.grownBy w1 (some g)) := hg1
    have ho1 : w1.ownsRow B 67 2 v1 (n + 1) (xs ++ encP x) := by simpa using hown1
    obtain ⟨a1, c1, rfl⟩ := ownsRow_shape ho1
    have HAT : Hid ((Value.slice a1 (n + 1) c1).ownBlock = some g ∨ (Value.slice a1 (n + 1) c1).ownBlock = some w.heap.size) := hat
    clear hg1 hown1 hat
    go_wp2_with fail
    go_ret
    exact ⟨_, rfl, ho1, HGR.out, HAT.out⟩
set_option maxRecDepth 100000 in
set_option maxHeartbeats 2000000 in
theorem insert_endI (B g n cap : Nat) (xs : List Value) (x : ByteArray) (s : Value) (w : World) (ho : w.ownsRow B 9 1 (.slice (some ⟨g, 0, none⟩) n cap) n xs) (hc : n ≤ cap) (hmax : cap ≤ maxLen) (hB : B ≤ w.heap.size) (hn : n ≤ 1048576) (h : RowAt 1 encI w s [x]) :
    Calls Tryz.prog 153 #[.slice (some ⟨g, 0, none⟩) n cap, .int .i64 (n : Int), s] w fun e w' => ∃ r, e = .returned r ∧ w'.ownsRow B 9 1 r (n + 1) (xs ++ encI x) ∧ w.grownBy w' (some g) ∧ (r.ownBlock = some g ∨ r.ownBlock = some w.heap.size) := by
  have hh := h
  obtain ⟨hl, a, cp, rfl, h1, h2, h3⟩ := hh
  rcases h3 with ⟨-, hnil, -⟩ | ⟨b, off, rfl, hbk, hcc⟩
  · simp at hnil
  clear hcc
  have H : Hid (RowAt 1 encI w (.slice (some ⟨b, off, none⟩) 1 cp) [x]) := h
  have HO : Hid (w.ownsRow B 9 1 (.slice (some ⟨g, 0, none⟩) n cap) n xs) := ho
  clear h ho
  have q1 : (0 : Int) ≤ (n : Int) := by omega
  have q2 : n ≤ n := Nat.le_refl _
  unfold maxLen at hmax
  by_cases hcn : n = cap
  · subst hcn
    go_enter Tryz.func153, Tryz.ntmps153
    go_wp2_with (at_builtin; refine wpList_append_row_at _ rfl _ _ 23 rfl B 9 (.string ByteArray.empty) 1 16 Tryz.underlying23 info_string rfl (by decide) encI lenI oneI (.slice (some ⟨g, 0, none⟩) n _) n xs ?_ HO.out _ [x] ?_ H.out ?_ ?_ ?_ ?_)
    · rfl
    · rfl
    · unfold maxLen; simp; omega
    · simp; omega
    · exact hB
    intro v1 w1 hown1 hg1 hat
    have HGR : Hid (w.grownBy w1 (some g)) := hg1
    have ho1 : w1.ownsRow B 9 1 v1 (n + 1) (xs ++ encI x) := by simpa using hown1
    obtain ⟨a1, c1, rfl⟩ := ownsRow_shape ho1
    have HAT : Hid ((Value.slice a1 (n + 1) c1).ownBlock = some g ∨ (Value.slice a1 (n + 1) c1).ownBlock = some w.heap.size) := hat
    clear hg1 hown1 hat
    go_wp2_with fail
    go_ret
    exact ⟨_, rfl, ho1, HGR.out, HAT.out⟩
  · have q3 : ¬ (cap = n) := fun h => hcn h.symm
    go_enter Tryz.func153, Tryz.ntmps153
    go_wp2_with (at_builtin; refine wpList_append_row_at _ rfl _ _ 23 rfl B 9 (.string ByteArray.empty) 1 16 Tryz.underlying23 info_string rfl (by decide) encI lenI oneI (.slice (some ⟨g, 0, none⟩) n _) n xs ?_ HO.out _ [x] ?_ H.out ?_ ?_ ?_ ?_)
    · rfl
    · rfl
    · unfold maxLen; simp; omega
    · simp; omega
    · exact hB
    intro v1 w1 hown1 hg1 hat
    have HGR : Hid (w.grownBy w1 (some g)) := hg1
    have ho1 : w1.ownsRow B 9 1 v1 (n + 1) (xs ++ encI x) := by simpa using hown1
    obtain ⟨a1, c1, rfl⟩ := ownsRow_shape ho1
    have HAT : Hid ((Value.slice a1 (n + 1) c1).ownBlock = some g ∨ (Value.slice a1 (n + 1) c1).ownBlock = some w.heap.size) := hat
    clear hg1 hown1 hat
    go_wp2_with fail
    go_ret
    exact ⟨_, rfl, ho1, HGR.out, HAT.out⟩
set_option maxRecDepth 100000 in
set_option maxHeartbeats 2000000 in
theorem insert_endS (B g n cap : Nat) (xs : List Value) (x : ByteArray × Int) (s : Value) (w : World) (ho : w.ownsRow B 69 2 (.slice (some ⟨g, 0, none⟩) n cap) n xs) (hc : n ≤ cap) (hmax : cap ≤ maxLen) (hB : B ≤ w.heap.size) (hn : n ≤ 1048576) (h : RowAt 2 encS w s [x]) :
    Calls Tryz.prog 157 #[.slice (some ⟨g, 0, none⟩) n cap, .int .i64 (n : Int), s] w fun e w' => ∃ r, e = .returned r ∧ w'.ownsRow B 69 2 r (n + 1) (xs ++ encS x) ∧ w.grownBy w' (some g) ∧ (r.ownBlock = some g ∨ r.ownBlock = some w.heap.size) := by
  have hh := h
  obtain ⟨hl, a, cp, rfl, h1, h2, h3⟩ := hh
  rcases h3 with ⟨-, hnil, -⟩ | ⟨b, off, rfl, hbk, hcc⟩
  · simp at hnil
  clear hcc
  have H : Hid (RowAt 2 encS w (.slice (some ⟨b, off, none⟩) 1 cp) [x]) := h
  have HO : Hid (w.ownsRow B 69 2 (.slice (some ⟨g, 0, none⟩) n cap) n xs) := ho
  clear h ho
  have q1 : (0 : Int) ≤ (n : Int) := by omega
  have q2 : n ≤ n := Nat.le_refl _
  unfold maxLen at hmax
  by_cases hcn : n = cap
  · subst hcn
    go_enter Tryz.func157, Tryz.ntmps157
    go_wp2_with (at_builtin; refine wpList_append_row_at _ rfl _ _ 24 rfl B 69 (.agg #[.string ByteArray.empty, .int .i64 0]) 2 24 Tryz.underlying24 info_score rfl (by decide) encS lenS oneS (.slice (some ⟨g, 0, none⟩) n _) n xs ?_ HO.out _ [x] ?_ H.out ?_ ?_ ?_ ?_)
    · rfl
    · rfl
    · unfold maxLen; simp; omega
    · simp; omega
    · exact hB
    intro v1 w1 hown1 hg1 hat
    have HGR : Hid (w.grownBy w1 (some g)) := hg1
    have ho1 : w1.ownsRow B 69 2 v1 (n + 1) (xs ++ encS x) := by simpa using hown1
    obtain ⟨a1, c1, rfl⟩ := ownsRow_shape ho1
    have HAT : Hid ((Value.slice a1 (n + 1) c1).ownBlock = some g ∨ (Value.slice a1 (n + 1) c1).ownBlock = some w.heap.size) := hat
    clear hg1 hown1 hat
    go_wp2_with fail
    go_ret
    exact ⟨_, rfl, ho1, HGR.out, HAT.out⟩
  · have q3 : ¬ (cap = n) := fun h => hcn h.symm
    go_enter Tryz.func157, Tryz.ntmps157
    go_wp2_with (at_builtin; refine wpList_append_row_at _ rfl _ _ 24 rfl B 69 (.agg #[.string ByteArray.empty, .int .i64 0]) 2 24 Tryz.underlying24 info_score rfl (by decide) encS lenS oneS (.slice (some ⟨g, 0, none⟩) n _) n xs ?_ HO.out _ [x] ?_ H.out ?_ ?_ ?_ ?_)
    · rfl
    · rfl
    · unfold maxLen; simp; omega
    · simp; omega
    · exact hB
    intro v1 w1 hown1 hg1 hat
    have HGR : Hid (w.grownBy w1 (some g)) := hg1
    have ho1 : w1.ownsRow B 69 2 v1 (n + 1) (xs ++ encS x) := by simpa using hown1
    obtain ⟨a1, c1, rfl⟩ := ownsRow_shape ho1
    have HAT : Hid ((Value.slice a1 (n + 1) c1).ownBlock = some g ∨ (Value.slice a1 (n + 1) c1).ownBlock = some w.heap.size) := hat
    clear hg1 hown1 hat
    go_wp2_with fail
    go_ret
    exact ⟨_, rfl, ho1, HGR.out, HAT.out⟩
end Go.Proofs.YtfnephnecighaaaGreat
