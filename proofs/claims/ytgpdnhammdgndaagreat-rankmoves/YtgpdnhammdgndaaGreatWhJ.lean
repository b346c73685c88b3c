/- A command done with a value: what value.Do answers where the command is done. -/
import Derived.Test.YtgpdnhammdgndaaGreatWfJ
namespace Go.Proofs.YtgpdnhammdgndaaGreat
open Go.RowKit
set_option linter.unusedVariables false

def keptV (y : Val) : Val := if (holdsB y.kind && decide (y.size = 0)) = true then emptyVal 0 else y

theorem RepsF.drew {B : Nat} {w : World} {v : Value} {x : Val} (h : RepsF B w v x) : RepsF B w.drew v x := by
  obtain ⟨ps, is, ss, h1, h2, h3⟩ := h
  exact ⟨ps, is, ss, h1, ⟨h2.p, h2.i, h2.s⟩, h3⟩
theorem RepRF.drew {B : Nat} {w : World} {v : Value} {r : Rep} (h : RepRF B w v r) : RepRF B w.drew v r := h
theorem two_new (w : World) (o1 o2 : Obj) : ((w.alloc o1).alloc o2).heap[w.heap.size]? = some o1 ∧ ((w.alloc o1).alloc o2).heap[w.heap.size + 1]? = some o2 := by
  constructor
  · rw [Below.heap_alloc _ _ _ (by simp)]
    show ((_ : Array Obj).push _)[_]? = _
    simp
  · show ((_ : Array Obj).push _)[_]? = _
    rw [Array.getElem?_push, if_pos (by simp)]

set_option maxHeartbeats 8000000 in
theorem do_ok (x : Val) (c : Cmd) (y : Val) (r : Rep) (hf : refusalI x c = 0) (ha : AnsOk x c y r) (h0 : r.code = 0) : DoOk x c (keptV y) r 0 := by
  intro W v hr
  have hrf := fun w' (hb : Below W.heap.size W w') => refusal_any v x c w' (hr.below hb)
  have han := fun w' (hb : Below W.heap.size W w') => ha w' v (hr.below hb)
  obtain ⟨pa, pc, ia, ic, sa, sc, rfl⟩ := hr.shapes
  clear hr ha
  rw [hf] at hrf
  have HR : Hid (∀ w', Below W.heap.size W w' → Calls Tryz.prog 21 #[valV x.kind x.text x.count (.slice pa x.pairs.length pc) (.slice ia x.items.length ic) (.slice sa x.scores.length sc), c.v] w' fun e w'' => e = .returned (.int .i64 0) ∧ Below w'.heap.size w' w'') := hrf
  have HA : Hid (∀ w', Below W.heap.size W w' → Calls Tryz.prog 22 #[valV x.kind x.text x.count (.slice pa x.pairs.length pc) (.slice ia x.items.length ic) (.slice sa x.scores.length sc), c.v] w' fun e w'' => ∃ v' u, e = .returned (.tuple #[v', u]) ∧ RepsF w'.heap.size w'' v' y ∧ RepRF w'.heap.size w'' u r ∧ Below w'.heap.size w' w'') := han
  clear hrf hf han
  have hb0 := perfW_below x c (.slice pa x.pairs.length pc) (.slice ia x.items.length ic) (.slice sa x.scores.length sc) W
  have n0 : (r.code != 0) = false := by simpa using h0
  clear h0
  go_enter Tryz.func11, Tryz.ntmps11
  go_wp2_with fail
  refine (HR.out _ hb0).mono ?_
  rintro e w1 ⟨rfl, hb1⟩
  have hB1 := bstep hb0 hb1
  obtain ⟨ha1, hk1⟩ := same_block (hb1.block W.heap.size (by first | omega | (simp <;> omega)))
  obtain ⟨hc1, hf1⟩ := same_block (hb1.block (W.heap.size + 1) (by first | omega | (simp <;> omega)))
  have B2 := (hb1.block (W.heap.size + 1 + 1) (by first | omega | (simp <;> omega))).trans (perfW_2 x c (.slice pa x.pairs.length pc) (.slice ia x.items.length ic) (.slice sa x.scores.length sc) W)
  have B3 := (hb1.block (W.heap.size + 1 + 1 + 1) (by first | omega | (simp <;> omega))).trans (perfW_3 x c (.slice pa x.pairs.length pc) (.slice ia x.items.length ic) (.slice sa x.scores.length sc) W)
  have hz1 : W.heap.size + 4 ≤ w1.heap.size := by have := hb1.size; simp at this; omega
  clear hb1
  go_wp2_with fail
  refine (HA.out _ hB1).mono ?_
  rintro e w2 ⟨v2, u2, rfl, hr2, hu2, hb2⟩
  obtain ⟨pa2, pc2, ia2, ic2, sa2, sc2, rfl⟩ := hr2.reps.shapes
  obtain ⟨la2, lc2, rfl⟩ := hu2.rep.shapes
  have hB2 := bstep hB1 hb2
  have B2 := (hb2.block (W.heap.size + 1 + 1) (by omega)).trans B2
  have B3 := (hb2.block (W.heap.size + 1 + 1 + 1) (by omega)).trans B3
  have hz2 : W.heap.size + 4 ≤ w2.heap.size := Nat.le_trans hz1 hb2.size
  have hr2 := hr2.mono (B' := W.heap.size + 4) hz1
  have hu2 := hu2.mono (B' := W.heap.size + 4) hz1
  clear hb2 HR HA ha1 hk1 hc1 hf1 hb0
  have K2 : Hid (w2.heap[W.heap.size + 1 + 1]? = _) := B2
  have K3 : Hid (w2.heap[W.heap.size + 1 + 1 + 1]? = _) := B3
  clear B2 B3
  -- the two locals
  have hzW : W.heap.size ≤ w2.heap.size := by omega
  have hel := fun w' (hb : Below w2.heap.size w2 w') => elements_any _ y w' (hr2.reps.below hb)
  have HE : Hid (∀ w', Below w2.heap.size w2 w' → Calls Tryz.prog 25 #[valV y.kind y.text y.count (.slice pa2 y.pairs.length pc2) (.slice ia2 y.items.length ic2) (.slice sa2 y.scores.length sc2)] w' fun e w'' => e = .returned (.int .i64 (y.size : Nat)) ∧ Below w'.heap.size w' w'') := hel
  clear hel
  obtain ⟨hn8, hn9⟩ := two_new w2 (valO y.kind y.text y.count (.slice pa2 y.pairs.length pc2) (.slice ia2 y.items.length ic2) (.slice sa2 y.scores.length sc2)) (repO r.code r.text r.n (.slice la2 r.list.length lc2))
  have hbx : Below w2.heap.size w2 ((w2.alloc (valO y.kind y.text y.count (.slice pa2 y.pairs.length pc2) (.slice ia2 y.items.length ic2) (.slice sa2 y.scores.length sc2))).alloc (repO r.code r.text r.n (.slice la2 r.list.length lc2))) := (balloc _ _).alloc (by simp) _
  have hzx : ((w2.alloc (valO y.kind y.text y.count (.slice pa2 y.pairs.length pc2) (.slice ia2 y.items.length ic2) (.slice sa2 y.scores.length sc2))).alloc (repO r.code r.text r.n (.slice la2 r.list.length lc2))).heap.size = w2.heap.size + 2 := by simp
  by_cases hh : holdsB y.kind = true
  · go_wp2_with (go_at_call 24; refine (holdsElements_any _ _).mono ?_; rintro e w3 ⟨rfl, rfl⟩)
    generalize (w2.alloc (valO y.kind y.text y.count (.slice pa2 y.pairs.length pc2) (.slice ia2 y.items.length ic2) (.slice sa2 y.scores.length sc2))).alloc (repO r.code r.text r.n (.slice la2 r.list.length lc2)) = wx at hn8 hn9 hbx hzx ⊢
    refine (HE.out _ hbx).mono ?_
    rintro e w3 ⟨rfl, hb3⟩
    have hb3' := bstep hbx hb3
    obtain ⟨h8, f8⟩ := block_cells ((hb3.block w2.heap.size (by omega)).trans hn8)
    obtain ⟨h9, f9⟩ := block_cells ((hb3.block (w2.heap.size + 1) (by omega)).trans hn9)
    obtain ⟨hd, fd⟩ := block_cells ((hb3'.block (W.heap.size + 1 + 1) (by omega)).trans K2.out)
    obtain ⟨hg, fg⟩ := block_cells ((hb3'.block (W.heap.size + 1 + 1 + 1) (by omega)).trans K3.out)
    have hr3 := hr2.below hb3'
    have hu3 := hu2.below hb3'
    have hB3 := bstep hB2 hb3'
    clear hr2 hb3 hn8 hn9 hbx HE hB2 hB1 K2 K3
    by_cases hs0 : y.size = 0
    · have hy : keptV y = emptyVal 0 := by simp [keptV, hh, hs0]
      have HY : Hid (keptV y = emptyVal 0) := hy
      have e0 : ((y.size : Nat) : Int) = 0 := by omega
      clear hy hs0
      go_wp2_with fail
      go_region
      go_wp2_with fail
      refine bodyPost_ret (v := .tuple #[valV 0 ⟨#[]⟩ 0 (.slice none 0 0) (.slice none 0 0) (.slice none 0 0), repV r.code r.text r.n (.slice la2 r.list.length lc2), .int .i64 0]) (by simp [results, Tryz.results11, go_sem, hd, hg]) rfl ⟨_, _, rfl, ?_, ?_, ?_⟩
      · rw [HY.out]
        exact ⟨_, _, _, rfl, Lists.empty _ 0, From.nil _, From.nil _, From.nil _⟩
      · refine RepRF.mono (B := W.heap.size + 4) ?_ (by omega)
        refine RepRF.drew ?_
        (iterate 10 (refine RepRF.setCell ?_ (by first | omega | (simp <;> omega)) _))
        refine hu2.below ?_
        (iterate 6 (refine Below.setCell ?_ (by first | omega | (simp <;> omega)) _))
        exact hb3'
      · refine Below.drew ?_
        (iterate 16 (refine Below.setCell ?_ (by first | omega | (simp <;> omega)) _))
        exact hB3
    · have hy : keptV y = y := by simp [keptV, hs0]
      have HY : Hid (keptV y = y) := hy
      have e0 : (((y.size : Nat) : Int) == 0) = false := by simp; omega
      clear hy hs0
      go_wp2_with fail
      go_region
      go_wp2_with fail
      refine bodyPost_ret (v := .tuple #[valV y.kind y.text y.count (.slice pa2 y.pairs.length pc2) (.slice ia2 y.items.length ic2) (.slice sa2 y.scores.length sc2), repV r.code r.text r.n (.slice la2 r.list.length lc2), .int .i64 0]) (by simp [results, Tryz.results11, go_sem, hd, hg]) rfl ⟨_, _, rfl, ?_, ?_, ?_⟩
      · rw [HY.out]
        refine RepsF.mono (B := W.heap.size + 4) ?_ (by omega)
        refine RepsF.drew ?_
        (iterate 10 (refine RepsF.setCell ?_ (by first | omega | (simp <;> omega)) _))
        exact hr3
      · refine RepRF.mono (B := W.heap.size + 4) ?_ (by omega)
        refine RepRF.drew ?_
        (iterate 10 (refine RepRF.setCell ?_ (by first | omega | (simp <;> omega)) _))
        exact hu3
      · refine Below.drew ?_
        (iterate 10 (refine Below.setCell ?_ (by first | omega | (simp <;> omega)) _))
        exact hB3
  · have hh : holdsB y.kind = false := by simpa using hh
    have hy : keptV y = y := by simp [keptV, hh]
    have HY : Hid (keptV y = y) := hy
    clear hy
    go_wp2_with (go_at_call 24; refine (holdsElements_any _ _).mono ?_; rintro e w3 ⟨rfl, rfl⟩)
    generalize (w2.alloc (valO y.kind y.text y.count (.slice pa2 y.pairs.length pc2) (.slice ia2 y.items.length ic2) (.slice sa2 y.scores.length sc2))).alloc (repO r.code r.text r.n (.slice la2 r.list.length lc2)) = wx at hn8 hn9 hbx hzx ⊢
    obtain ⟨h8, f8⟩ := block_cells hn8
    obtain ⟨h9, f9⟩ := block_cells hn9
    obtain ⟨hd, fd⟩ := block_cells ((hbx.block (W.heap.size + 1 + 1) (by omega)).trans K2.out)
    obtain ⟨hg, fg⟩ := block_cells ((hbx.block (W.heap.size + 1 + 1 + 1) (by omega)).trans K3.out)
    have hr3 := hr2.below hbx
    have hu3 := hu2.below hbx
    have hB3 := bstep hB2 hbx
    clear hr2 hu2 hn8 hn9 hbx HE hB2 hB1 K2 K3
    go_region
    go_wp2_with fail
    refine bodyPost_ret (v := .tuple #[valV y.kind y.text y.count (.slice pa2 y.pairs.length pc2) (.slice ia2 y.items.length ic2) (.slice sa2 y.scores.length sc2), repV r.code r.text r.n (.slice la2 r.list.length lc2), .int .i64 0]) (by simp [results, Tryz.results11, go_sem, hd, hg]) rfl ⟨_, _, rfl, ?_, ?_, ?_⟩
    · rw [HY.out]
      refine RepsF.mono (B := W.heap.size + 4) ?_ (by omega)
      refine RepsF.drew ?_
      (iterate 10 (refine RepsF.setCell ?_ (by first | omega | (simp <;> omega)) _))
      exact hr3
    · refine RepRF.mono (B := W.heap.size + 4) ?_ (by omega)
      refine RepRF.drew ?_
      (iterate 10 (refine RepRF.setCell ?_ (by first | omega | (simp <;> omega)) _))
      exact hu3
    · refine Below.drew ?_
      (iterate 10 (refine Below.setCell ?_ (by first | omega | (simp <;> omega)) _))
      exact hB3
end Go.Proofs.YtgpdnhammdgndaaGreat

/- The library's searches and insertions at a list that is nil. -/
namespace Go.Proofs.YtgpdnhammdgndaaGreat
open Go.RowKit
set_option linter.unusedVariables false

set_option maxHeartbeats 1000000 in
theorem bsearchP_nil (t f : Value) (w : World) :
    Calls Tryz.prog 92 #[.slice none 0 0, t, f] w fun e w' => e = .returned (.tuple #[.int .i64 0, .bool false]) ∧ Below w.heap.size w w' := by
  go_enter Tryz.func92, Tryz.ntmps92
  go_wp2_with fail
  go_loopw [9, 10] (fun p q wr => p = .int .i64 0 ∧ q = .int .i64 0 ∧ Below w.heap.size w wr) (fun _ _ _ => 0)
  case atStart => exact ⟨rfl, rfl, Below.refl _ _⟩
  case round =>
    obtain ⟨rfl, rfl, hb⟩ := hrel
    go_wp2_with fail
    exact bodyPost_ret (v := .tuple #[.int .i64 0, .bool false]) (by simp [results, Tryz.results92, go_sem]) rfl ⟨rfl, hb⟩
set_option maxHeartbeats 1000000 in
theorem bsearchI_nil (t : Value) (w : World) :
    Calls Tryz.prog 100 #[.slice none 0 0, t] w fun e w' => e = .returned (.tuple #[.int .i64 0, .bool false]) ∧ Below w.heap.size w w' := by
  go_enter Tryz.func100, Tryz.ntmps100
  go_wp2_with fail
  go_loopw [7, 8] (fun p q wr => p = .int .i64 0 ∧ q = .int .i64 0 ∧ Below w.heap.size w wr) (fun _ _ _ => 0)
  case atStart => exact ⟨rfl, rfl, Below.refl _ _⟩
  case round =>
    obtain ⟨rfl, rfl, hb⟩ := hrel
    go_wp2_with fail
    exact bodyPost_ret (v := .tuple #[.int .i64 0, .bool false]) (by simp [results, Tryz.results100, go_sem]) rfl ⟨rfl, hb⟩
set_option maxHeartbeats 1000000 in
theorem bsearchS_nil (m : ByteArray) (n : Int) (f : Value) (w : World) :
    Calls Tryz.prog 118 #[.slice none 0 0, .agg #[.string m, .int .i64 n], f] w fun e w' => e = .returned (.tuple #[.int .i64 0, .bool false]) ∧ Below w.heap.size w w' := by
  go_enter Tryz.func118, Tryz.ntmps118
  go_wp2_with fail
  go_loopw [9, 10] (fun p q wr => p = .int .i64 0 ∧ q = .int .i64 0 ∧ wr.heap[w.heap.size]? = some (.cells #[.string m, .int .i64 n] 53) ∧ Below w.heap.size w wr) (fun _ _ _ => 0)
  case atStart => exact ⟨rfl, rfl, by show ((_ : Array Obj).push _)[_]? = _; simp, balloc _ _⟩
  case round =>
    obtain ⟨rfl, rfl, hblk, hb⟩ := hrel
    obtain ⟨c0, f0⟩ := block_cells hblk
    go_wp2_with fail
    go_region
    all_goals (go_wp2_with fail; exact bodyPost_ret (v := .tuple #[.int .i64 0, .bool false]) (by simp [results, Tryz.results118, go_sem]) rfl ⟨rfl, by first | exact hb.drew | exact hb⟩)
set_option maxHeartbeats 1000000 in
theorem indexS_nil (f : Value) (w : World) :
    Calls Tryz.prog 103 #[.slice none 0 0, f] w fun e w' => e = .returned (.int .i64 (-1)) ∧ Below w.heap.size w w' := by
  go_enter Tryz.func103, Tryz.ntmps103
  go_wp2_with fail
  go_loopw [8] (fun p wr => p = .int .i64 0 ∧ Below w.heap.size w wr) (fun _ _ => 0)
  case atStart => exact ⟨rfl, Below.refl _ _⟩
  case round =>
    obtain ⟨rfl, hb⟩ := hrel
    go_wp2_with fail
    go_ret
    exact ⟨rfl, hb⟩

set_option maxHeartbeats 1000000 in
theorem insertP_nil (s : Value) (x : ByteArray × ByteArray) (w : World) (h : RowAt 2 encP w s [x]) :
    Calls Tryz.prog 114 #[.slice none 0 0, .int .i64 0, s] w fun e w' => ∃ r, e = .returned r ∧ OwnL w.heap.size 47 2 encP w' r [x] ∧ Below w.heap.size w w' := by
  have hh := h
  obtain ⟨hl, a, cap, rfl, h1, h2, h3⟩ := hh
  rcases h3 with ⟨-, hnil, -⟩ | ⟨b, off, rfl, hbk, hc⟩
  · simp at hnil
  clear hc
  have H : Hid (RowAt 2 encP w (.slice (some ⟨b, off, none⟩) 1 cap) [x]) := h
  clear h
  go_enter Tryz.func114, Tryz.ntmps114
  go_wp2_with (at_builtin; refine wpList_append_row _ rfl _ _ 22 rfl w.heap.size 47 (.agg #[.string ByteArray.empty, .string ByteArray.empty]) 2 32 Tryz.underlying22 info_pair rfl (by decide) encP lenP oneP (.slice none 0 0) 0 [] ?_ (World.ownsRow_nil _ _ _ _) _ [x] ?_ H.out ?_ ?_ ?_ ?_)
  · rfl
  · rfl
  · unfold maxLen; simp
  · simp
  · simp
  intro v1 w1 hown1 hg1
  obtain ⟨a1, c1, rfl⟩ := ownsRow_shape hown1
  have hb1 := grown_nil hg1
  have ho1 : OwnL w.heap.size 47 2 encP w1 (.slice a1 1 c1) [x] := ⟨by simpa using hown1, fun h => by cases h⟩
  clear hg1 hown1
  go_wp2_with fail
  go_ret
  exact ⟨_, rfl, ho1, hb1⟩
set_option maxHeartbeats 1000000 in
theorem insertI_nil (s : Value) (x : ByteArray) (w : World) (h : RowAt 1 encI w s [x]) :
    Calls Tryz.prog 115 #[.slice none 0 0, .int .i64 0, s] w fun e w' => ∃ r, e = .returned r ∧ OwnL w.heap.size 9 1 encI w' r [x] ∧ Below w.heap.size w w' := by
  have hh := h
  obtain ⟨hl, a, cap, rfl, h1, h2, h3⟩ := hh
  rcases h3 with ⟨-, hnil, -⟩ | ⟨b, off, rfl, hbk, hc⟩
  · simp at hnil
  clear hc
  have H : Hid (RowAt 1 encI w (.slice (some ⟨b, off, none⟩) 1 cap) [x]) := h
  clear h
  go_enter Tryz.func115, Tryz.ntmps115
  go_wp2_with (at_builtin; refine wpList_append_row _ rfl _ _ 23 rfl w.heap.size 9 (.string ByteArray.empty) 1 16 Tryz.underlying23 info_string rfl (by decide) encI lenI oneI (.slice none 0 0) 0 [] ?_ (World.ownsRow_nil _ _ _ _) _ [x] ?_ H.out ?_ ?_ ?_ ?_)
  · rfl
  · rfl
  · unfold maxLen; simp
  · simp
  · simp
  intro v1 w1 hown1 hg1
  obtain ⟨a1, c1, rfl⟩ := ownsRow_shape hown1
  have hb1 := grown_nil hg1
  have ho1 : OwnL w.heap.size 9 1 encI w1 (.slice a1 1 c1) [x] := ⟨by simpa using hown1, fun h => by cases h⟩
  clear hg1 hown1
  go_wp2_with fail
  go_ret
  exact ⟨_, rfl, ho1, hb1⟩
set_option maxHeartbeats 1000000 in
theorem insertS_nil (s : Value) (x : ByteArray × Int) (w : World) (h : RowAt 2 encS w s [x]) :
    Calls Tryz.prog 119 #[.slice none 0 0, .int .i64 0, s] w fun e w' => ∃ r, e = .returned r ∧ OwnL w.heap.size 53 2 encS w' r [x] ∧ Below w.heap.size w w' := by
  have hh := h
  obtain ⟨hl, a, cap, rfl, h1, h2, h3⟩ := hh
  rcases h3 with ⟨-, hnil, -⟩ | ⟨b, off, rfl, hbk, hc⟩
  · simp at hnil
  clear hc
  have H : Hid (RowAt 2 encS w (.slice (some ⟨b, off, none⟩) 1 cap) [x]) := h
  clear h
  go_enter Tryz.func119, Tryz.ntmps119
  go_wp2_with (at_builtin; refine wpList_append_row _ rfl _ _ 24 rfl w.heap.size 53 (.agg #[.string ByteArray.empty, .int .i64 0]) 2 24 Tryz.underlying24 info_score rfl (by decide) encS lenS oneS (.slice none 0 0) 0 [] ?_ (World.ownsRow_nil _ _ _ _) _ [x] ?_ H.out ?_ ?_ ?_ ?_)
  · rfl
  · rfl
  · unfold maxLen; simp
  · simp
  · simp
  intro v1 w1 hown1 hg1
  obtain ⟨a1, c1, rfl⟩ := ownsRow_shape hown1
  have hb1 := grown_nil hg1
  have ho1 : OwnL w.heap.size 53 2 encS w1 (.slice a1 1 c1) [x] := ⟨by simpa using hown1, fun h => by cases h⟩
  clear hg1 hown1
  go_wp2_with fail
  go_ret
  exact ⟨_, rfl, ho1, hb1⟩
end Go.Proofs.YtgpdnhammdgndaaGreat
