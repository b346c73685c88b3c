/- slices.Insert and slices.Delete of one element, over lists that lie in rows of the call's own. -/
import Derived.Test.YtmhodckcacppfaaGreatSj
namespace Go.Proofs.YtmhodckcacppfaaGreat
open Go.RowKit
set_option linter.unusedVariables false

set_option maxRecDepth 100000 in
set_option maxHeartbeats 2000000 in
theorem insert_endP (B g n cap : Nat) (xs : List Value) (x : ByteArray × ByteArray) (s : Value) (w : World) (ho : w.ownsRow B 53 2 (.slice (some ⟨g, 0, none⟩) n cap) n xs) (hc : n ≤ cap) (hmax : cap ≤ maxLen) (hB : B ≤ w.heap.size) (hn : n ≤ 1048576) (h : RowAt 2 encP w s [x]) :
    Calls Tryz.prog 140 #[.slice (some ⟨g, 0, none⟩) n cap, .int .i64 (n : Int), s] w fun e w' => ∃ r, e = .returned r ∧ w'.ownsRow B 53 2 r (n + 1) (xs ++ encP x) ∧ w.grownBy w' (some g) := by
  have hh := h
  obtain ⟨hl, a, cp, rfl, h1, h2, h3⟩ := hh
  rcases h3 with ⟨-, hnil, -⟩ | ⟨b, off, rfl, hbk, hcc⟩
  · simp at hnil
  clear hcc
  have H : Hid (RowAt 2 encP w (.slice (some ⟨b, off, none⟩) 1 cp) [x]) := h
  have HO : Hid (w.ownsRow B 53 2 (.slice (some ⟨g, 0, none⟩) n cap) n xs) := ho
  clear h ho
  have q1 : (0 : Int) ≤ (n : Int) := by omega
  have q2 : n ≤ n := Nat.le_refl _
  unfold maxLen at hmax
  by_cases hcn : n = cap
  · subst hcn
    go_enter Tryz.func140, Tryz.ntmps140
    go_wp2_with (at_builtin; refine wpList_append_row _ rfl _ _ 22 rfl B 53 (.agg #[.string ByteArray.empty, .string ByteArray.empty]) 2 32 Tryz.underlying22 info_pair rfl (by decide) encP lenP oneP (.slice (some ⟨g, 0, none⟩) n _) n xs ?_ HO.out _ [x] ?_ H.out ?_ ?_ ?_ ?_)
    · rfl
    · rfl
    · unfold maxLen; simp; omega
    · simp; omega
    · exact hB
    intro v1 w1 hown1 hg1
    have HGR : Hid (w.grownBy w1 (some g)) := hg1
    have ho1 : w1.ownsRow B 53 2 v1 (n + 1) (xs ++ encP x) := by simpa using hown1
    obtain ⟨a1, c1, rfl⟩ := ownsRow_shape ho1
    clear hg1 hown1
    go_wp2_with fail
    go_ret
    exact ⟨_, rfl, ho1, HGR.out⟩
  · have q3 : ¬ (cap = n) := fun h => hcn h.symm
    go_enter Tryz.func140, Tryz.ntmps140
    go_wp2_with (at_builtin; refine wpList_append_row _ rfl _ _ 22 rfl B 53 (.agg #[.string ByteArray.empty, .string ByteArray.empty]) 2 32 Tryz.underlying22 info_pair rfl (by decide) encP lenP oneP (.slice (some ⟨g, 0, none⟩) n _) n xs ?_ HO.out _ [x] ?_ H.out ?_ ?_ ?_ ?_)
    · rfl
    · rfl
    · unfold maxLen; simp; omega
    · simp; omega
    · exact hB
    intro v1 w1 hown1 hg1
    have HGR : Hid (w.grownBy w1 (some g)) := hg1
    have ho1 : w1.ownsRow B 53 2 v1 (n + 1) (xs ++ encP x) := by simpa using hown1
    obtain ⟨a1, c1, rfl⟩ := ownsRow_shape ho1
    clear hg1 hown1
    go_wp2_with fail
    go_ret
    exact ⟨_, rfl, ho1, HGR.out⟩
set_option maxRecDepth 100000 in
set_option maxHeartbeats 2000000 in
theorem insert_endI (B g n cap : Nat) (xs : List Value) (x : ByteArray) (s : Value) (w : World) (ho : w.ownsRow B 9 1 (.slice (some ⟨g, 0, none⟩) n cap) n xs) (hc : n ≤ cap) (hmax : cap ≤ maxLen) (hB : B ≤ w.heap.size) (hn : n ≤ 1048576) (h : RowAt 1 encI w s [x]) :
    Calls Tryz.prog 141 #[.slice (some ⟨g, 0, none⟩) n cap, .int .i64 (n : Int), s] w fun e w' => ∃ r, e = .returned r ∧ w'.ownsRow B 9 1 r (n + 1) (xs ++ encI x) ∧ w.grownBy w' (some g) := by
  have hh := h
  obtain ⟨hl, a, cp, rfl, h1, h2, h3⟩ := hh
  rcases h3 with ⟨-, hnil, -⟩ | ⟨b, off, rfl, hbk, hcc⟩
  · simp at hnil
  clear hcc
  have H : Hid (RowAt 1 encI w (.slice (some ⟨b, off, none⟩) 1 cp) [x]) := h
  have HO : Hid (w.ownsRow B 9 1 (.slice (some ⟨g, 0, none⟩) n cap) n xs) := ho
  clear h ho
  have q1 : (0 : Int) ≤ (n : Int) := by omega
  have q2 : n ≤ n := Nat.le_refl _
  unfold maxLen at hmax
  by_cases hcn : n = cap
  · subst hcn
    go_enter Tryz.func141, Tryz.ntmps141
    go_wp2_with (at_builtin; refine wpList_append_row _ rfl _ _ 23 rfl B 9 (.string ByteArray.empty) 1 16 Tryz.underlying23 info_string rfl (by decide) encI lenI oneI (.slice (some ⟨g, 0, none⟩) n _) n xs ?_ HO.out _ [x] ?_ H.out ?_ ?_ ?_ ?_)
    · rfl
    · rfl
    · unfold maxLen; simp; omega
    · simp; omega
    · exact hB
    intro v1 w1 hown1 hg1
    have HGR : Hid (w.grownBy w1 (some g)) := hg1
    have ho1 : w1.ownsRow B 9 1 v1 (n + 1) (xs ++ encI x) := by simpa using hown1
    obtain ⟨a1, c1, rfl⟩ := ownsRow_shape ho1
    clear hg1 hown1
    go_wp2_with fail
    go_ret
    exact ⟨_, rfl, ho1, HGR.out⟩
  · have q3 : ¬ (cap = n) := fun h => hcn h.symm
    go_enter Tryz.func141, Tryz.ntmps141
    go_wp2_with (at_builtin; refine wpList_append_row _ rfl _ _ 23 rfl B 9 (.string ByteArray.empty) 1 16 Tryz.underlying23 info_string rfl (by decide) encI lenI oneI (.slice (some ⟨g, 0, none⟩) n _) n xs ?_ HO.out _ [x] ?_ H.out ?_ ?_ ?_ ?_)
    · rfl
    · rfl
    · unfold maxLen; simp; omega
    · simp; omega
    · exact hB
    intro v1 w1 hown1 hg1
    have HGR : Hid (w.grownBy w1 (some g)) := hg1
    have ho1 : w1.ownsRow B 9 1 v1 (n + 1) (xs ++ encI x) := by simpa using hown1
    obtain ⟨a1, c1, rfl⟩ := ownsRow_shape ho1
    clear hg1 hown1
    go_wp2_with fail
    go_ret
    exact ⟨_, rfl, ho1, HGR.out⟩
set_option maxRecDepth 100000 in
set_option maxHeartbeats 2000000 in
theorem insert_endS (B g n cap : Nat) (xs : List Value) (x : ByteArray × Int) (s : Value) (w : World) (ho : w.ownsRow B 58 2 (.slice (some ⟨g, 0, none⟩) n cap) n xs) (hc : n ≤ cap) (hmax : cap ≤ maxLen) (hB : B ≤ w.heap.size) (hn : n ≤ 1048576) (h : RowAt 2 encS w s [x]) :
    Calls Tryz.prog 144 #[.slice (some ⟨g, 0, none⟩) n cap, .int .i64 (n : Int), s] w fun e w' => ∃ r, e = .returned r ∧ w'.ownsRow B 58 2 r (n + 1) (xs ++ encS x) ∧ w.grownBy w' (some g) := by
  have hh := h
  obtain ⟨hl, a, cp, rfl, h1, h2, h3⟩ := hh
  rcases h3 with ⟨-, hnil, -⟩ | ⟨b, off, rfl, hbk, hcc⟩
  · simp at hnil
  clear hcc
  have H : Hid (RowAt 2 encS w (.slice (some ⟨b, off, none⟩) 1 cp) [x]) := h
  have HO : Hid (w.ownsRow B 58 2 (.slice (some ⟨g, 0, none⟩) n cap) n xs) := ho
  clear h ho
  have q1 : (0 : Int) ≤ (n : Int) := by omega
  have q2 : n ≤ n := Nat.le_refl _
  unfold maxLen at hmax
  by_cases hcn : n = cap
  · subst hcn
    go_enter Tryz.func144, Tryz.ntmps144
    go_wp2_with (at_builtin; refine wpList_append_row _ rfl _ _ 24 rfl B 58 (.agg #[.string ByteArray.empty, .int .i64 0]) 2 24 Tryz.underlying24 info_score rfl (by decide) encS lenS oneS (.slice (some ⟨g, 0, none⟩) n _) n xs ?_ HO.out _ [x] ?_ H.out ?_ ?_ ?_ ?_)
    · rfl
    · rfl
    · unfold maxLen; simp; omega
    · simp; omega
    · exact hB
    intro v1 w1 hown1 hg1
    have HGR : Hid (w.grownBy w1 (some g)) := hg1
    have ho1 : w1.ownsRow B 58 2 v1 (n + 1) (xs ++ encS x) := by simpa using hown1
    obtain ⟨a1, c1, rfl⟩ := ownsRow_shape ho1
    clear hg1 hown1
    go_wp2_with fail
    go_ret
    exact ⟨_, rfl, ho1, HGR.out⟩
  · have q3 : ¬ (cap = n) := fun h => hcn h.symm
    go_enter Tryz.func144, Tryz.ntmps144
    go_wp2_with (at_builtin; refine wpList_append_row _ rfl _ _ 24 rfl B 58 (.agg #[.string ByteArray.empty, .int .i64 0]) 2 24 Tryz.underlying24 info_score rfl (by decide) encS lenS oneS (.slice (some ⟨g, 0, none⟩) n _) n xs ?_ HO.out _ [x] ?_ H.out ?_ ?_ ?_ ?_)
    · rfl
    · rfl
    · unfold maxLen; simp; omega
    · simp; omega
    · exact hB
    intro v1 w1 hown1 hg1
    have HGR : Hid (w.grownBy w1 (some g)) := hg1
    have ho1 : w1.ownsRow B 58 2 v1 (n + 1) (xs ++ encS x) := by simpa using hown1
    obtain ⟨a1, c1, rfl⟩ := ownsRow_shape ho1
    clear hg1 hown1
    go_wp2_with fail
    go_ret
    exact ⟨_, rfl, ho1, HGR.out⟩
end Go.Proofs.YtmhodckcacppfaaGreat
