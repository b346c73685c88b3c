/- The library's searches and insertions at a list that is nil. -/
import Derived.Test.YtfnephnecighaaaGreatWh
namespace Go.Proofs.YtfnephnecighaaaGreat
open Go.RowKit
set_option linter.unusedVariables false

set_option maxHeartbeats 1000000 in
theorem bsearchP_nil (t f : Value) (w : World) :
    Calls Tryz.prog 129 #[.slice none 0 0, t, f] w fun e w' => e = .returned (.tuple #[.int .i64 0, .bool false]) ∧ Below w.heap.size w w' := by
  go_enter Tryz.func129, Tryz.ntmps129
  go_wp2_with fail
  go_loopw [9, 10] (fun p q wr => p = .int .i64 0 ∧ q = .int .i64 0 ∧ Below w.heap.size w wr) (fun _ _ _ => 0)
  case atStart => exact ⟨rfl, rfl, Below.refl _ _⟩
  case round =>
    obtain ⟨rfl, rfl, hb⟩ := hrel
    go_wp2_with fail
    exact bodyPost_ret (v := .tuple #[.int .i64 0, .bool false]) (by simp [results, Tryz.results129, go_sem]) rfl ⟨rfl, hb⟩
set_option maxHeartbeats 1000000 in
theorem bsearchI_nil (t : Value) (w : World) :
    Calls Tryz.prog 136 #[.slice none 0 0, t] w fun e w' => e = .returned (.tuple #[.int .i64 0, .bool false]) ∧ Below w.heap.size w w' := by
  go_enter Tryz.func136, Tryz.ntmps136
  go_wp2_with fail
  go_loopw [7, 8] (fun p q wr => p = .int .i64 0 ∧ q = .int .i64 0 ∧ Below w.heap.size w wr) (fun _ _ _ => 0)
  case atStart => exact ⟨rfl, rfl, Below.refl _ _⟩
  case round =>
    obtain ⟨rfl, rfl, hb⟩ := hrel
    go_wp2_with fail
    exact bodyPost_ret (v := .tuple #[.int .i64 0, .bool false]) (by simp [results, Tryz.results136, go_sem]) rfl ⟨rfl, hb⟩
set_option maxHeartbeats 1000000 in
theorem bsearchS_nil (m : ByteArray) (n : Int) (f : Value) (w : World) :
    Calls Tryz.prog 156 #[.slice none 0 0, .agg #[.string m, .int .i64 n], f] w fun e w' => e = .returned (.tuple #[.int .i64 0, .bool false]) ∧ Below w.heap.size w w' := by
  go_enter Tryz.func156, Tryz.ntmps156
  go_wp2_with fail
  go_loopw [9, 10] (fun p q wr => p = .int .i64 0 ∧ q = .int .i64 0 ∧ wr.heap[w.heap.size]? = some (.cells #[.string m, .int .i64 n] 69) ∧ Below w.heap.size w wr) (fun _ _ _ => 0)
  case atStart => exact ⟨rfl, rfl, by show ((_ : Array Obj).push _)[_]? = _; simp, balloc _ _⟩
  case round =>
    obtain ⟨rfl, rfl, hblk, hb⟩ := hrel
    obtain ⟨c0, f0⟩ := block_cells hblk
    go_wp2_with fail
    go_region
    all_goals (go_wp2_with fail; exact bodyPost_ret (v := .tuple #[.int .i64 0, .bool false]) (by simp [results, Tryz.results156, go_sem]) rfl ⟨rfl, by first | exact hb.drew | exact hb⟩)
set_option maxHeartbeats 1000000 in
theorem indexS_nil (f : Value) (w : World) :
    Calls Tryz.prog 139 #[.slice none 0 0, f] w fun e w' => e = .returned (.int .i64 (-1)) ∧ Below w.heap.size w w' := by
  go_enter Tryz.func139, Tryz.ntmps139
  go_wp2_with fail
  go_loopw [8] (fun p wr => p = .int .i64 0 ∧ Below w.heap.size w wr) (fun _ _ => 0)
  case atStart => exact ⟨rfl, Below.refl _ _⟩
  case round =>
    obtain ⟨rfl, hb⟩ := hrel
    go_wp2_with fail
    go_ret
    exact ⟨rfl, hb⟩

set_option maxHeartbeats 1000000 in
theorem insertP_nil (s : Value) (x : ByteArray × ByteArray) (w : World) (h : RowAt 2 encP w s [x]) :
    Calls Tryz.prog 152 #[.slice none 0 0, .int .i64 0, s] w fun e w' => ∃ r, e = .returned r ∧ OwnL w.heap.size 67 2 encP w' r [x] ∧ Below w.heap.size w w' := by
  have hh := h
  obtain ⟨hl, a, cap, rfl, h1, h2, h3⟩ := hh
  rcases h3 with ⟨-, hnil, -⟩ | ⟨b, off, rfl, hbk, hc⟩
  · simp at hnil
  clear hc
  have H : Hid (RowAt 2 encP w (.slice (some ⟨b, off, none⟩) 1 cap) [x]) := h
  clear h
  go_enter Tryz.func152, Tryz.ntmps152
  go_wp2_with (at_builtin; refine wpList_append_row _ rfl _ _ 22 rfl w.heap.size 67 (.agg #[.string ByteArray.empty, .string ByteArray.empty]) 2 32 Tryz.underlying22 info_pair rfl (by decide) encP lenP oneP (.slice none 0 0) 0 [] ?_ (World.ownsRow_nil _ _ _ _) _ [x] ?_ H.out ?_ ?_ ?_ ?_)
  · rfl
  · rfl
  · unfold maxLen; simp
  · simp
  · simp
  intro v1 w1 hown1 hg1
  obtain ⟨a1, c1, rfl⟩ := ownsRow_shape hown1
  have hb1 := grown_nil hg1
  have ho1 : OwnL w.heap.size 67 2 encP w1 (.slice a1 1 c1) [x] := ⟨by simpa using hown1, fun h => by cases h⟩
  clear hg1 hown1
  go_wp2_with fail
  go_ret
  exact ⟨_, rfl, ho1, hb1⟩
set_option maxHeartbeats 1000000 in
theorem insertI_nil (s : Value) (x : ByteArray) (w : World) (h : RowAt 1 encI w s [x]) :
    Calls Tryz.prog 153 #[.slice none 0 0, .int .i64 0, s] w fun e w' => ∃ r, e = .returned r ∧ OwnL w.heap.size 9 1 encI w' r [x] ∧ Below w.heap.size w w' := by
  have hh := h
  obtain ⟨hl, a, cap, rfl, h1, h2, h3⟩ := hh
  rcases h3 with ⟨-, hnil, -⟩ | ⟨b, off, rfl, hbk, hc⟩
  · simp at hnil
  clear hc
  have H : Hid (RowAt 1 encI w (.slice (some ⟨b, off, none⟩) 1 cap) [x]) := h
  clear h
  go_enter Tryz.func153, Tryz.ntmps153
  go_wp2_with (at_builtin; refine wpList_append_row _ rfl _ _ 23 rfl w.heap.size 9 (.string ByteArray.empty) 1 16 Tryz.underlying23 info_string rfl (by decide) encI lenI oneI (.slice none 0 0) 0 [] ?_ (World.ownsRow_nil _ _ _ _) _ [x] ?_ H.out ?_ ?_ ?_ ?_)
  · rfl
  · rfl
  · unfold maxLen; simp
  · simp
  · simp
  intro v1 w1 hown1 hg1
  obtain ⟨a1, c1, rfl⟩ := ownsRow_shape hown1
  have hb1 := grown_nil hg1
  have ho1 : OwnL w.heap.size 9 1 encI w1 (.slice a1 1 c1) [x] := ⟨by simpa using hown1, fun h => by cases h⟩
  clear hg1 hown1
  go_wp2_with fail
  go_ret
  exact ⟨_, rfl, ho1, hb1⟩
set_option maxHeartbeats 1000000 in
theorem insertS_nil (s : Value) (x : ByteArray × Int) (w : World) (h : RowAt 2 encS w s [x]) :
    Calls Tryz.prog 157 #[.slice none 0 0, .int .i64 0, s] w fun e w' => ∃ r, e = .returned r ∧ OwnL w.heap.size 69 2 encS w' r [x] ∧ Below w.heap.size w w' := by
  have hh := h
  obtain ⟨hl, a, cap, rfl, h1, h2, h3⟩ := hh
  rcases h3 with ⟨-, hnil, -⟩ | ⟨b, off, rfl, hbk, hc⟩
  · simp at hnil
  clear hc
  have H : Hid (RowAt 2 encS w (.slice (some ⟨b, off, none⟩) 1 cap) [x]) := h
  clear h
  go_enter Tryz.func157, Tryz.ntmps157
  go_wp2_with (at_builtin; refine wpList_append_row _ rfl _ _ 24 rfl w.heap.size 69 (.agg #[.string ByteArray.empty, .int .i64 0]) 2 24 Tryz.underlying24 info_score rfl (by decide) encS lenS oneS (.slice none 0 0) 0 [] ?_ (World.ownsRow_nil _ _ _ _) _ [x] ?_ H.out ?_ ?_ ?_ ?_)
  · rfl
  · rfl
  · unfold maxLen; simp
  · simp
  · simp
  intro v1 w1 hown1 hg1
  obtain ⟨a1, c1, rfl⟩ := ownsRow_shape hown1
  have hb1 := grown_nil hg1
  have ho1 : OwnL w.heap.size 69 2 encS w1 (.slice a1 1 c1) [x] := ⟨by simpa using hown1, fun h => by cases h⟩
  clear hg1 hown1
  go_wp2_with fail
  go_ret
  exact ⟨_, rfl, ho1, hb1⟩
end Go.Proofs.YtfnephnecighaaaGreat
