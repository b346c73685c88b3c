/- slices of entries (Sk at eight cells). -/
import Derived.Test.YtfnephnecighaaaGreatSk
import Derived.Test.YtfnephnecighaaaGreatSj8
import Derived.Maps.AppendAt
namespace Go.Proofs.YtfnephnecighaaaGreat
open Go.RowKit
set_option linter.unusedVariables false

set_option maxRecDepth 100000 in
set_option maxHeartbeats 2000000 in
theorem insert_endE (B g n cap : Nat) (xs : List Value) (x : Ent) (s : Value) (w : World) (ho : w.ownsRow B 57 8 (.slice (some ⟨g, 0, none⟩) n cap) n xs) (hc : n ≤ cap) (hmax : cap ≤ maxLen) (hB : B ≤ w.heap.size) (hn : n ≤ 1048576) (h : RowAt 8 encE w s [x]) :
    Calls Tryz.prog 146 #[.slice (some ⟨g, 0, none⟩) n cap, .int .i64 (n : Int), s] w fun e w' => ∃ r, e = .returned r ∧ w'.ownsRow B 57 8 r (n + 1) (xs ++ encE x) ∧ w.grownBy w' (some g) ∧ (r.ownBlock = some g ∨ r.ownBlock = some w.heap.size) := by
  have hh := h
  obtain ⟨hl, a, cp, rfl, h1, h2, h3⟩ := hh
  rcases h3 with ⟨-, hnil, -⟩ | ⟨b, off, rfl, hbk, hcc⟩
  · simp at hnil
  clear hcc
  have H : Hid (RowAt 8 encE w (.slice (some ⟨b, off, none⟩) 1 cp) [x]) := h
  have HO : Hid (w.ownsRow B 57 8 (.slice (some ⟨g, 0, none⟩) n cap) n xs) := ho
  clear h ho
  have q1 : (0 : Int) ≤ (n : Int) := by omega
  have q2 : n ≤ n := Nat.le_refl _
  unfold maxLen at hmax
  by_cases hcn : n = cap
  · subst hcn
    go_enter Tryz.func146, Tryz.ntmps146
    go_wp2_with (at_builtin; refine wpList_append_row_at _ rfl _ _ 38 rfl B 57 (.agg #[.string ByteArray.empty, .int .i64 0, .string ByteArray.empty, .int .i64 0, .slice none 0 0, .slice none 0 0, .slice none 0 0, .int .i64 0]) 8 128 Tryz.underlying38 info_entry rfl (by decide) encE lenE oneE (.slice (some ⟨g, 0, none⟩) n _) n xs ?_ HO.out _ [x] ?_ H.out ?_ ?_ ?_ ?_)
    · rfl
    · rfl
    · unfold maxLen; simp; omega
    · simp; omega
    · exact hB
    intro v1 w1 hown1 hg1 hat
    have HGR : Hid (w.grownBy w1 (some g)) := hg1
    have ho1 : w1.ownsRow B 57 8 v1 (n + 1) (xs ++ encE x) := by simpa using hown1
    obtain ⟨a1, c1, rfl⟩ := ownsRow_shape ho1
    have HAT : Hid ((Value.slice a1 (n + 1) c1).ownBlock = some g ∨ (Value.slice a1 (n + 1) c1).ownBlock = some w.heap.size) := hat
    clear hg1 hown1 hat
    go_wp2_with fail
    go_ret
    exact ⟨_, rfl, ho1, HGR.out, HAT.out⟩
  · have q3 : ¬ (cap = n) := fun h => hcn h.symm
    go_enter Tryz.func146, Tryz.ntmps146
    go_wp2_with (at_builtin; refine wpList_append_row_at _ rfl _ _ 38 rfl B 57 (.agg #[.string ByteArray.empty, .int .i64 0, .string ByteArray.empty, .int .i64 0, .slice none 0 0, .slice none 0 0, .slice none 0 0, .int .i64 0]) 8 128 Tryz.underlying38 info_entry rfl (by decide) encE lenE oneE (.slice (some ⟨g, 0, none⟩) n _) n xs ?_ HO.out _ [x] ?_ H.out ?_ ?_ ?_ ?_)
    · rfl
    · rfl
    · unfold maxLen; simp; omega
    · simp; omega
    · exact hB
    intro v1 w1 hown1 hg1 hat
    have HGR : Hid (w.grownBy w1 (some g)) := hg1
    have ho1 : w1.ownsRow B 57 8 v1 (n + 1) (xs ++ encE x) := by simpa using hown1
    obtain ⟨a1, c1, rfl⟩ := ownsRow_shape ho1
    have HAT : Hid ((Value.slice a1 (n + 1) c1).ownBlock = some g ∨ (Value.slice a1 (n + 1) c1).ownBlock = some w.heap.size) := hat
    clear hg1 hown1 hat
    go_wp2_with fail
    go_ret
    exact ⟨_, rfl, ho1, HGR.out, HAT.out⟩
end Go.Proofs.YtfnephnecighaaaGreat
