/- A command done with a value: value.Do. -/
import Derived.Test.YtfnephnecighaaaGreatWdJ
namespace Go.Proofs.YtfnephnecighaaaGreat
open Go.RowKit
set_option linter.unusedVariables false

/-- What value.Do answers: the value behind the command, the reply, the error. -/
def DoOk (x : Val) (c : Cmd) (y : Val) (r : Rep) (f : Int) : Prop :=
  ∀ (W : World) (v : Value), Reps W v x → Calls Tryz.prog 12 #[v, c.v] W fun e w' => ∃ v' u, e = .returned (.tuple #[v', u, .int .i64 f]) ∧ RepsF W.heap.size w' v' y ∧ RepRF W.heap.size w' u r ∧ Below W.heap.size W w'

set_option maxHeartbeats 4000000 in
theorem do_refused (x : Val) (c : Cmd) (f : Int) (hf : refusalI x c = f) (h0 : f ≠ 0) : DoOk x c (emptyVal 0) {} f := by
  intro W v hr
  have hrf := fun w' (hb : Below W.heap.size W w') => refusal_any v x c w' (hr.below hb)
  obtain ⟨pa, pc, ia, ic, sa, sc, rfl⟩ := hr.shapes
  clear hr
  rw [hf] at hrf
  have HR : Hid (∀ w', Below W.heap.size W w' → Calls Tryz.prog 28 #[valV x.kind x.text x.count (.slice pa x.pairs.length pc) (.slice ia x.items.length ic) (.slice sa x.scores.length sc), c.v] w' fun e w'' => e = .returned (.int .i64 f) ∧ Below w'.heap.size w' w'') := hrf
  clear hrf hf
  have hb0 := perfW_below x c (.slice pa x.pairs.length pc) (.slice ia x.items.length ic) (.slice sa x.scores.length sc) W
  have n0 : (f != 0) = true := by simpa using h0
  clear h0
  go_enter Tryz.func12, Tryz.ntmps12
  go_wp2_with fail
  refine (HR.out _ hb0).mono ?_
  rintro e w1 ⟨rfl, hb1⟩
  have hB1 := bstep hb0 hb1
  obtain ⟨hd1, he1⟩ := same_block (hb1.block (W.heap.size + 1 + 1) (by simp <;> omega))
  obtain ⟨hg1, hi1⟩ := same_block (hb1.block (W.heap.size + 1 + 1 + 1) (by simp <;> omega))
  clear hb1
  go_wp2_with fail
  refine bodyPost_ret (v := .tuple #[valV 0 ⟨#[]⟩ 0 (.slice none 0 0) (.slice none 0 0) (.slice none 0 0), repV 0 ⟨#[]⟩ 0 (.slice none 0 0), .int .i64 f]) (by simp [results, Tryz.results12, go_sem, hd1, hg1]) rfl
    ⟨_, _, rfl, ⟨_, _, _, rfl, Lists.empty _ 0, From.nil _, From.nil _, From.nil _⟩, ⟨_, rfl, RowAt.nil _ _ _, From.nil _⟩, ?_⟩
  (repeat (first | refine Below.setCell ?_ (by simp <;> omega) _ | refine Below.drew ?_))
  exact hB1

theorem block_cells {w : World} {b : Nat} {cs : Array Value} {t : TypeId} (h : w.heap[b]? = some (.cells cs t (0, 0))) : (∀ o, w.cell? ⟨b, o, none⟩ = cs[o]?) ∧ (∀ o, w.frozen? ⟨b, o, none⟩ = false) :=
  ⟨fun o => by unfold World.cell?; rw [h]; simp, fun o => by unfold World.frozen?; rw [h]; simp⟩
theorem heap_alloc2 {w : World} {o1 o2 : Obj} {b : Nat} (h : b < w.heap.size) : ((w.alloc o1).alloc o2).heap[b]? = w.heap[b]? := by
  rw [Below.heap_alloc _ _ _ (by simp; omega), Below.heap_alloc _ _ _ h]
theorem perfW_2 (x : Val) (c : Cmd) (ps is ss : Value) (W : World) : (perfW x c ps is ss W).heap[W.heap.size + 1 + 1]? = some (valO 0 ⟨#[]⟩ 0 (.slice none 0 0) (.slice none 0 0) (.slice none 0 0)) := by
  rw [Below.heap_alloc _ _ _ (by simp)]
  show ((_ : Array Obj).push _)[_]? = _
  rw [Array.getElem?_push, if_pos (by simp)]
theorem perfW_3 (x : Val) (c : Cmd) (ps is ss : Value) (W : World) : (perfW x c ps is ss W).heap[W.heap.size + 1 + 1 + 1]? = some (repO 0 ⟨#[]⟩ 0 (.slice none 0 0)) := by
  show ((_ : Array Obj).push _)[_]? = _
  rw [Array.getElem?_push, if_pos (by simp)]

set_option maxHeartbeats 8000000 in
theorem do_err (x : Val) (c : Cmd) (code : Int) (hf : refusalI x c = 0) (hsz : x.size ≤ 1048576) (ha : AnsErr x c code) (h0 : code ≠ 0) : DoOk x c x { code := code } 0 := by
  intro W v hr
  have hrf := fun w' (hb : Below W.heap.size W w') => refusal_any v x c w' (hr.below hb)
  have han := fun w' (hb : Below W.heap.size W w') => ha w' v (hr.below hb)
  have hcp := fun w' (hb : Below W.heap.size W w') => copied_any v x w' (hr.below hb) hsz
  obtain ⟨pa, pc, ia, ic, sa, sc, rfl⟩ := hr.shapes
  clear hr ha
  rw [hf] at hrf
  have HR : Hid (∀ w', Below W.heap.size W w' → Calls Tryz.prog 28 #[valV x.kind x.text x.count (.slice pa x.pairs.length pc) (.slice ia x.items.length ic) (.slice sa x.scores.length sc), c.v] w' fun e w'' => e = .returned (.int .i64 0) ∧ Below w'.heap.size w' w'') := hrf
  have HA : Hid (∀ w', Below W.heap.size W w' → Calls Tryz.prog 29 #[valV x.kind x.text x.count (.slice pa x.pairs.length pc) (.slice ia x.items.length ic) (.slice sa x.scores.length sc), c.v] w' fun e w'' => ∃ kind text count pa np pc ia ni ic sa ns sc txt n la nl lc, e = .returned (.tuple #[valV kind text count (.slice pa np pc) (.slice ia ni ic) (.slice sa ns sc), repV code txt n (.slice la nl lc)]) ∧ Below w'.heap.size w' w'') := han
  have HC : Hid (∀ w', Below W.heap.size W w' → Calls Tryz.prog 30 #[valV x.kind x.text x.count (.slice pa x.pairs.length pc) (.slice ia x.items.length ic) (.slice sa x.scores.length sc)] w' fun e w'' => ∃ ps is ss, e = .returned (valV x.kind x.text x.count ps is ss) ∧ OwnLists w'.heap.size w'' ps is ss x ∧ Below w'.heap.size w' w'') := hcp
  clear hrf hf han hcp
  have hb0 := perfW_below x c (.slice pa x.pairs.length pc) (.slice ia x.items.length ic) (.slice sa x.scores.length sc) W
  have n0 : (code != 0) = true := by simpa using h0
  clear h0
  go_enter Tryz.func12, Tryz.ntmps12
  go_wp2_with fail
  refine (HR.out _ hb0).mono ?_
  rintro e w1 ⟨rfl, hb1⟩
  have hB1 := bstep hb0 hb1
  obtain ⟨ha1, hk1⟩ := same_block (hb1.block W.heap.size (by simp <;> omega))
  obtain ⟨hc1, hf1⟩ := same_block (hb1.block (W.heap.size + 1) (by simp <;> omega))
  have B2 := (hb1.block (W.heap.size + 1 + 1) (by simp <;> omega)).trans (perfW_2 x c (.slice pa x.pairs.length pc) (.slice ia x.items.length ic) (.slice sa x.scores.length sc) W)
  have B3 := (hb1.block (W.heap.size + 1 + 1 + 1) (by simp <;> omega)).trans (perfW_3 x c (.slice pa x.pairs.length pc) (.slice ia x.items.length ic) (.slice sa x.scores.length sc) W)
  have hz1 : W.heap.size + 4 ≤ w1.heap.size := by have := hb1.size; simp at this; omega
  clear hb1
  go_wp2_with fail
  refine (HA.out _ hB1).mono ?_
  rintro e w2 ⟨kind, text, count, pa2, np, pc2, ia2, ni, ic2, sa2, ns, sc2, txt, n, la, nl, lc, rfl, hb2⟩
  have hB2 := bstep hB1 hb2
  obtain ⟨ha2, hk2⟩ := same_block (hb2.block W.heap.size (by omega))
  have B2 := (hb2.block (W.heap.size + 1 + 1) (by omega)).trans B2
  have B3 := (hb2.block (W.heap.size + 1 + 1 + 1) (by omega)).trans B3
  have hz2 : W.heap.size + 4 ≤ w2.heap.size := Nat.le_trans hz1 hb2.size
  clear hb2
  go_wp2_with fail
  have hzW : W.heap.size ≤ w2.heap.size := by omega
  have q0 : W.heap.size < w2.heap.size := by omega
  have q1 : W.heap.size ≠ w2.heap.size := by omega
  have q2 : W.heap.size ≠ w2.heap.size + 1 := by omega
  have K2 : Hid (w2.heap[W.heap.size + 1 + 1]? = _) := B2
  have K3 : Hid (w2.heap[W.heap.size + 1 + 1 + 1]? = _) := B3
  clear B2 B3
  go_region_with (go_at_call 30; refine (HC.out _ ?_).mono ?_; exact ((hB2.alloc hzW _).alloc (Nat.le_trans hzW (by simp)) _).drew; rintro e w3 ⟨ps3, is3, ss3, rfl, ho3, hb3⟩; obtain ⟨pa3, pc3, ia3, ic3, sa3, sc3, rfl, rfl, rfl⟩ := ho3.shapes; obtain ⟨hd3, he3⟩ := block_cells ((hb3.block (W.heap.size + 1 + 1) (by simp; omega)).trans ((heap_alloc2 (by omega)).trans K2.out)); obtain ⟨hg3, hi3⟩ := block_cells ((hb3.block (W.heap.size + 1 + 1 + 1) (by simp; omega)).trans ((heap_alloc2 (by omega)).trans K3.out)); obtain ⟨hq3, hr3⟩ := same_block (hb3.block (w2.heap.size + 1) (by simp)))
  all_goals
    have hB3 := bstep ((hB2.alloc hzW _).alloc (Nat.le_trans hzW (by simp)) _).drew hb3
    have hl3 := ho3.lists hsz
    have fp := (From.own ho3.p.1).mono (B' := W.heap.size + 4) (by simp; omega)
    have fi := (From.own ho3.i.1).mono (B' := W.heap.size + 4) (by simp; omega)
    have fs := (From.own ho3.s.1).mono (B' := W.heap.size + 4) (by simp; omega)
    have hrf : RepsF (W.heap.size + 4) w3 (valV x.kind x.text x.count (.slice pa3 x.pairs.length pc3) (.slice ia3 x.items.length ic3) (.slice sa3 x.scores.length sc3)) x := ⟨_, _, _, rfl, hl3, fp, fi, fs⟩
    clear hb3 ho3 hl3 fp fi fs
    go_wp2_with fail
    refine bodyPost_ret (v := .tuple #[valV x.kind x.text x.count (.slice pa3 x.pairs.length pc3) (.slice ia3 x.items.length ic3) (.slice sa3 x.scores.length sc3), repV code ⟨#[]⟩ 0 (.slice none 0 0), .int .i64 0]) (by simp [results, Tryz.results12, go_sem, hd3, hg3]) rfl ⟨_, _, rfl, ?_, ⟨_, rfl, RowAt.nil _ _ _, From.nil _⟩, ?_⟩
    · refine RepsF.mono (B := W.heap.size + 4) ?_ (by omega)
      (repeat (refine RepsF.setCell ?_ (by simp <;> omega) _))
      exact hrf
    · (repeat (first | refine Below.setCell ?_ (by simp <;> omega) _ | refine Below.drew ?_))
      exact hB3
end Go.Proofs.YtfnephnecighaaaGreat

/- A command done with a value: what value.Do answers where the command is done. -/
namespace Go.Proofs.YtfnephnecighaaaGreat
open Go.RowKit
set_option linter.unusedVariables false

def keptV (y : Val) : Val := if (holdsB y.kind && decide (y.size = 0)) = true then emptyVal 0 else y

theorem RepsF.drew {B : Nat} {w : World} {v : Value} {x : Val} (h : RepsF B w v x) : RepsF B w.drew v x := by
  obtain ⟨ps, is, ss, h1, h2, h3⟩ := h
  exact ⟨ps, is, ss, h1, ⟨h2.p, h2.i, h2.s⟩, h3⟩
theorem RepRF.drew {B : Nat} {w : World} {v : Value} {r : Rep} (h : RepRF B w v r) : RepRF B w.drew v r := h
theorem two_new (w : World) (o1 o2 : Obj) : ((w.alloc o1).alloc o2).heap[w.heap.size]? = some o1 ∧ ((w.alloc o1).alloc o2).heap[w.heap.size + 1]? = some o2 := by
  constructor
  · rw [Below.heap_alloc _ _ _ (by simp)]
    show ((_ : Array Obj).push _)[_]? = _
    simp
  · show ((_ : Array Obj).push _)[_]? = _
    rw [Array.getElem?_push, if_pos (by simp)]

set_option maxHeartbeats 8000000 in
theorem do_ok (x : Val) (c : Cmd) (y : Val) (r : Rep) (hf : refusalI x c = 0) (ha : AnsOk x c y r) (h0 : r.code = 0) : DoOk x c (keptV y) r 0 := by
  intro W v hr
  have hrf := fun w' (hb : Below W.heap.size W w') => refusal_any v x c w' (hr.below hb)
  have han := fun w' (hb : Below W.heap.size W w') => ha w' v (hr.below hb)
  obtain ⟨pa, pc, ia, ic, sa, sc, rfl⟩ := hr.shapes
  clear hr ha
  rw [hf] at hrf
  have HR : Hid (∀ w', Below W.heap.size W w' → Calls Tryz.prog 28 #[valV x.kind x.text x.count (.slice pa x.pairs.length pc) (.slice ia x.items.length ic) (.slice sa x.scores.length sc), c.v] w' fun e w'' => e = .returned (.int .i64 0) ∧ Below w'.heap.size w' w'') := hrf
  have HA : Hid (∀ w', Below W.heap.size W w' → Calls Tryz.prog 29 #[valV x.kind x.text x.count (.slice pa x.pairs.length pc) (.slice ia x.items.length ic) (.slice sa x.scores.length sc), c.v] w' fun e w'' => ∃ v' u, e = .returned (.tuple #[v', u]) ∧ RepsF w'.heap.size w'' v' y ∧ RepRF w'.heap.size w'' u r ∧ Below w'.heap.size w' w'') := han
  clear hrf hf han
  have hb0 := perfW_below x c (.slice pa x.pairs.length pc) (.slice ia x.items.length ic) (.slice sa x.scores.length sc) W
  have n0 : (r.code != 0) = false := by simpa using h0
  clear h0
  go_enter Tryz.func12, Tryz.ntmps12
  go_wp2_with fail
  refine (HR.out _ hb0).mono ?_
  rintro e w1 ⟨rfl, hb1⟩
  have hB1 := bstep hb0 hb1
  obtain ⟨ha1, hk1⟩ := same_block (hb1.block W.heap.size (by first | omega | (simp <;> omega)))
  obtain ⟨hc1, hf1⟩ := same_block (hb1.block (W.heap.size + 1) (by first | omega | (simp <;> omega)))
  have B2 := (hb1.block (W.heap.size + 1 + 1) (by first | omega | (simp <;> omega))).trans (perfW_2 x c (.slice pa x.pairs.length pc) (.slice ia x.items.length ic) (.slice sa x.scores.length sc) W)
  have B3 := (hb1.block (W.heap.size + 1 + 1 + 1) (by first | omega | (simp <;> omega))).trans (perfW_3 x c (.slice pa x.pairs.length pc) (.slice ia x.items.length ic) (.slice sa x.scores.length sc) W)
  have hz1 : W.heap.size + 4 ≤ w1.heap.size := by have := hb1.size; simp at this; omega
  clear hb1
  go_wp2_with fail
  refine (HA.out _ hB1).mono ?_
  rintro e w2 ⟨v2, u2, rfl, hr2, hu2, hb2⟩
  obtain ⟨pa2, pc2, ia2, ic2, sa2, sc2, rfl⟩ := hr2.reps.shapes
  obtain ⟨la2, lc2, rfl⟩ := hu2.rep.shapes
  have hB2 := bstep hB1 hb2
  have B2 := (hb2.block (W.heap.size + 1 + 1) (by omega)).trans B2
  have B3 := (hb2.block (W.heap.size + 1 + 1 + 1) (by omega)).trans B3
  have hz2 : W.heap.size + 4 ≤ w2.heap.size := Nat.le_trans hz1 hb2.size
  have hr2 := hr2.mono (B' := W.heap.size + 4) hz1
  have hu2 := hu2.mono (B' := W.heap.size + 4) hz1
  clear hb2 HR HA ha1 hk1 hc1 hf1 hb0
  have K2 : Hid (w2.heap[W.heap.size + 1 + 1]? = _) := B2
  have K3 : Hid (w2.heap[W.heap.size + 1 + 1 + 1]? = _) := B3
  clear B2 B3
  -- the two locals
  have hzW : W.heap.size ≤ w2.heap.size := by omega
  have hel := fun w' (hb : Below w2.heap.size w2 w') => elements_any _ y w' (hr2.reps.below hb)
  have HE : Hid (∀ w', Below w2.heap.size w2 w' → Calls Tryz.prog 32 #[valV y.kind y.text y.count (.slice pa2 y.pairs.length pc2) (.slice ia2 y.items.length ic2) (.slice sa2 y.scores.length sc2)] w' fun e w'' => e = .returned (.int .i64 (y.size : Nat)) ∧ Below w'.heap.size w' w'') := hel
  clear hel
  obtain ⟨hn8, hn9⟩ := two_new w2 (valO y.kind y.text y.count (.slice pa2 y.pairs.length pc2) (.slice ia2 y.items.length ic2) (.slice sa2 y.scores.length sc2)) (repO r.code r.text r.n (.slice la2 r.list.length lc2))
  have hbx : Below w2.heap.size w2 ((w2.alloc (valO y.kind y.text y.count (.slice pa2 y.pairs.length pc2) (.slice ia2 y.items.length ic2) (.slice sa2 y.scores.length sc2))).alloc (repO r.code r.text r.n (.slice la2 r.list.length lc2))) := (balloc _ _).alloc (by simp) _
  have hzx : ((w2.alloc (valO y.kind y.text y.count (.slice pa2 y.pairs.length pc2) (.slice ia2 y.items.length ic2) (.slice sa2 y.scores.length sc2))).alloc (repO r.code r.text r.n (.slice la2 r.list.length lc2))).heap.size = w2.heap.size + 2 := by simp
  by_cases hh : holdsB y.kind = true
  · go_wp2_with (go_at_call 31; refine (holdsElements_any _ _).mono ?_; rintro e w3 ⟨rfl, rfl⟩)
    generalize (w2.alloc (valO y.kind y.text y.count (.slice pa2 y.pairs.length pc2) (.slice ia2 y.items.length ic2) (.slice sa2 y.scores.length sc2))).alloc (repO r.code r.text r.n (.slice la2 r.list.length lc2)) = wx at hn8 hn9 hbx hzx ⊢
    refine (HE.out _ hbx).mono ?_
    rintro e w3 ⟨rfl, hb3⟩
    have hb3' := bstep hbx hb3
    obtain ⟨h8, f8⟩ := block_cells ((hb3.block w2.heap.size (by omega)).trans hn8)
    obtain ⟨h9, f9⟩ := block_cells ((hb3.block (w2.heap.size + 1) (by omega)).trans hn9)
    obtain ⟨hd, fd⟩ := block_cells ((hb3'.block (W.heap.size + 1 + 1) (by omega)).trans K2.out)
    obtain ⟨hg, fg⟩ := block_cells ((hb3'.block (W.heap.size + 1 + 1 + 1) (by omega)).trans K3.out)
    have hr3 := hr2.below hb3'
    have hu3 := hu2.below hb3'
    have hB3 := bstep hB2 hb3'
    clear hr2 hb3 hn8 hn9 hbx HE hB2 hB1 K2 K3
    by_cases hs0 : y.size = 0
    · have hy : keptV y = emptyVal 0 := by simp [keptV, hh, hs0]
      have HY : Hid (keptV y = emptyVal 0) := hy
      have e0 : ((y.size : Nat) : Int) = 0 := by omega
      clear hy hs0
      go_wp2_with fail
      go_region
      go_wp2_with fail
      refine bodyPost_ret (v := .tuple #[valV 0 ⟨#[]⟩ 0 (.slice none 0 0) (.slice none 0 0) (.slice none 0 0), repV r.code r.text r.n (.slice la2 r.list.length lc2), .int .i64 0]) (by simp [results, Tryz.results12, go_sem, hd, hg]) rfl ⟨_, _, rfl, ?_, ?_, ?_⟩
      · rw [HY.out]
        exact ⟨_, _, _, rfl, Lists.empty _ 0, From.nil _, From.nil _, From.nil _⟩
      · refine RepRF.mono (B := W.heap.size + 4) ?_ (by omega)
        refine RepRF.drew ?_
        (iterate 10 (refine RepRF.setCell ?_ (by first | omega | (simp <;> omega)) _))
        refine hu2.below ?_
        (iterate 6 (refine Below.setCell ?_ (by first | omega | (simp <;> omega)) _))
        exact hb3'
      · refine Below.drew ?_
        (iterate 16 (refine Below.setCell ?_ (by first | omega | (simp <;> omega)) _))
        exact hB3
    · have hy : keptV y = y := by simp [keptV, hs0]
      have HY : Hid (keptV y = y) := hy
      have e0 : (((y.size : Nat) : Int) == 0) = false := by simp; omega
      clear hy hs0
      go_wp2_with fail
      go_region
      go_wp2_with fail
      refine bodyPost_ret (v := .tuple #[valV y.kind y.text y.count (.slice pa2 y.pairs.length pc2) (.slice ia2 y.items.length ic2) (.slice sa2 y.scores.length sc2), repV r.code r.text r.n (.slice la2 r.list.length lc2), .int .i64 0]) (by simp [results, Tryz.results12, go_sem, hd, hg]) rfl ⟨_, _, rfl, ?_, ?_, ?_⟩
      · rw [HY.out]
        refine RepsF.mono (B := W.heap.size + 4) ?_ (by omega)
        refine RepsF.drew ?_
        (iterate 10 (refine RepsF.setCell ?_ (by first | omega | (simp <;> omega)) _))
        exact hr3
      · refine RepRF.mono (B := W.heap.size + 4) ?_ (by omega)
        refine RepRF.drew ?_
        (iterate 10 (refine RepRF.setCell ?_ (by first | omega | (simp <;> omega)) _))
        exact hu3
      · refine Below.drew ?_
        (iterate 10 (refine Below.setCell ?_ (by first | omega | (simp <;> omega)) _))
        exact hB3
  · have hh : holdsB y.kind = false := by simpa using hh
    have hy : keptV y = y := by simp [keptV, hh]
    have HY : Hid (keptV y = y) := hy
    clear hy
    go_wp2_with (go_at_call 31; refine (holdsElements_any _ _).mono ?_; rintro e w3 ⟨rfl, rfl⟩)
    generalize (w2.alloc (valO y.kind y.text y.count (.slice pa2 y.pairs.length pc2) (.slice ia2 y.items.length ic2) (.slice sa2 y.scores.length sc2))).alloc (repO r.code r.text r.n (.slice la2 r.list.length lc2)) = wx at hn8 hn9 hbx hzx ⊢
    obtain ⟨h8, f8⟩ := block_cells hn8
    obtain ⟨h9, f9⟩ := block_cells hn9
    obtain ⟨hd, fd⟩ := block_cells ((hbx.block (W.heap.size + 1 + 1) (by omega)).trans K2.out)
    obtain ⟨hg, fg⟩ := block_cells ((hbx.block (W.heap.size + 1 + 1 + 1) (by omega)).trans K3.out)
    have hr3 := hr2.below hbx
    have hu3 := hu2.below hbx
    have hB3 := bstep hB2 hbx
    clear hr2 hu2 hn8 hn9 hbx HE hB2 hB1 K2 K3
    go_region
    go_wp2_with fail
    refine bodyPost_ret (v := .tuple #[valV y.kind y.text y.count (.slice pa2 y.pairs.length pc2) (.slice ia2 y.items.length ic2) (.slice sa2 y.scores.length sc2), repV r.code r.text r.n (.slice la2 r.list.length lc2), .int .i64 0]) (by simp [results, Tryz.results12, go_sem, hd, hg]) rfl ⟨_, _, rfl, ?_, ?_, ?_⟩
    · rw [HY.out]
      refine RepsF.mono (B := W.heap.size + 4) ?_ (by omega)
      refine RepsF.drew ?_
      (iterate 10 (refine RepsF.setCell ?_ (by first | omega | (simp <;> omega)) _))
      exact hr3
    · refine RepRF.mono (B := W.heap.size + 4) ?_ (by omega)
      refine RepRF.drew ?_
      (iterate 10 (refine RepRF.setCell ?_ (by first | omega | (simp <;> omega)) _))
      exact hu3
    · refine Below.drew ?_
      (iterate 10 (refine Below.setCell ?_ (by first | omega | (simp <;> omega)) _))
      exact hB3
end Go.Proofs.YtfnephnecighaaaGreat

/- The library's searches and insertions at a list that is nil. -/
namespace Go.Proofs.YtfnephnecighaaaGreat
open Go.RowKit
set_option linter.unusedVariables false

set_option maxHeartbeats 1000000 in
theorem bsearchP_nil (t f : Value) (w : World) :
    Calls Tryz.prog 129 #[.slice none 0 0, t, f] w fun e w' => e = .returned (.tuple #[.int .i64 0, .bool false]) ∧ Below w.heap.size w w' := by
  go_enter Tryz.func129, Tryz.ntmps129
  go_wp2_with fail
  go_loopw [9, 10] (fun p q wr => p = .int .i64 0 ∧ q = .int .i64 0 ∧ Below w.heap.size w wr) (fun _ _ _ => 0)
  case atStart => exact ⟨rfl, rfl, Below.refl _ _⟩
  case round =>
    obtain ⟨rfl, rfl, hb⟩ := hrel
    go_wp2_with fail
    exact bodyPost_ret (v := .tuple #[.int .i64 0, .bool false]) (by simp [results, Tryz.results129, go_sem]) rfl ⟨rfl, hb⟩
set_option maxHeartbeats 1000000 in
theorem bsearchI_nil (t : Value) (w : World) :
    Calls Tryz.prog 136 #[.slice none 0 0, t] w fun e w' => e = .returned (.tuple #[.int .i64 0, .bool false]) ∧ Below w.heap.size w w' := by
  go_enter Tryz.func136, Tryz.ntmps136
  go_wp2_with fail
  go_loopw [7, 8] (fun p q wr => p = .int .i64 0 ∧ q = .int .i64 0 ∧ Below w.heap.size w wr) (fun _ _ _ => 0)
  case atStart => exact ⟨rfl, rfl, Below.refl _ _⟩
  case round =>
    obtain ⟨rfl, rfl, hb⟩ := hrel
    go_wp2_with fail
    exact bodyPost_ret (v := .tuple #[.int .i64 0, .bool false]) (by simp [results, Tryz.results136, go_sem]) rfl ⟨rfl, hb⟩
set_option maxHeartbeats 1000000 in
theorem bsearchS_nil (m : ByteArray) (n : Int) (f : Value) (w : World) :
    Calls Tryz.prog 156 #[.slice none 0 0, .agg #[.string m, .int .i64 n], f] w fun e w' => e = .returned (.tuple #[.int .i64 0, .bool false]) ∧ Below w.heap.size w w' := by
  go_enter Tryz.func156, Tryz.ntmps156
  go_wp2_with fail
  go_loopw [9, 10] (fun p q wr => p = .int .i64 0 ∧ q = .int .i64 0 ∧ wr.heap[w.heap.size]? = some (.cells #[.string m, .int .i64 n] 69) ∧ Below w.heap.size w wr) (fun _ _ _ => 0)
  case atStart => exact ⟨rfl, rfl, by show ((_ : Array Obj).push _)[_]? = _; simp, balloc _ _⟩
  case round =>
    obtain ⟨rfl, rfl, hblk, hb⟩ := hrel
    obtain ⟨c0, f0⟩ := block_cells hblk
    go_wp2_with fail
    go_region
    all_goals (go_wp2_with fail; exact bodyPost_ret (v := .tuple #[.int .i64 0, .bool false]) (by simp [results, Tryz.results156, go_sem]) rfl ⟨rfl, by first | exact hb.drew | exact hb⟩)
set_option maxHeartbeats 1000000 in
theorem indexS_nil (f : Value) (w : World) :
    Calls Tryz.prog 139 #[.slice none 0 0, f] w fun e w' => e = .returned (.int .i64 (-1)) ∧ Below w.heap.size w w' := by
  go_enter Tryz.func139, Tryz.ntmps139
  go_wp2_with fail
  go_loopw [8] (fun p wr => p = .int .i64 0 ∧ Below w.heap.size w wr) (fun _ _ => 0)
  case atStart => exact ⟨rfl, Below.refl _ _⟩
  case round =>
    obtain ⟨rfl, hb⟩ := hrel
    go_wp2_with fail
    go_ret
    exact ⟨rfl, hb⟩

set_option maxHeartbeats 1000000 in
theorem insertP_nil (s : Value) (x : ByteArray × ByteArray) (w : World) (h : RowAt 2 encP w s [x]) :
    Calls Tryz.prog 152 #[.slice none 0 0, .int .i64 0, s] w fun e w' => ∃ r, e = .returned r ∧ OwnL w.heap.size 67 2 encP w' r [x] ∧ Below w.heap.size w w' := by
  have hh := h
  obtain ⟨hl, a, cap, rfl, h1, h2, h3⟩ := hh
  rcases h3 with ⟨-, hnil, -⟩ | ⟨b, off, rfl, hbk, hc⟩
  · simp at hnil
  clear hc
  have H : Hid (RowAt 2 encP w (.slice (some ⟨b, off, none⟩) 1 cap) [x]) := h
  clear h
  go_enter Tryz.func152, Tryz.ntmps152
  go_wp2_with (at_builtin; refine wpList_append_row _ rfl _ _ 22 rfl w.heap.size 67 (.agg #[.string ByteArray.empty, .string ByteArray.empty]) 2 32 Tryz.underlying22 info_pair rfl (by decide) encP lenP oneP (.slice none 0 0) 0 [] ?_ (World.ownsRow_nil _ _ _ _) _ [x] ?_ H.out ?_ ?_ ?_ ?_)
  · rfl
  · rfl
  · unfold maxLen; simp
  · simp
  · simp
  intro v1 w1 hown1 hg1
  obtain ⟨a1, c1, rfl⟩ := ownsRow_shape hown1
  have hb1 := grown_nil hg1
  have ho1 : OwnL w.heap.size 67 2 encP w1 (.slice a1 1 c1) [x] := ⟨by simpa using hown1, fun h => by cases h⟩
  clear hg1 hown1
  go_wp2_with fail
  go_ret
  exact ⟨_, rfl, ho1, hb1⟩
set_option maxHeartbeats 1000000 in
theorem insertI_nil (s : Value) (x : ByteArray) (w : World) (h : RowAt 1 encI w s [x]) :
    Calls Tryz.prog 153 #[.slice none 0 0, .int .i64 0, s] w fun e w' => ∃ r, e = .returned r ∧ OwnL w.heap.size 9 1 encI w' r [x] ∧ Below w.heap.size w w' := by
  have hh := h
  obtain ⟨hl, a, cap, rfl, h1, h2, h3⟩ := hh
  rcases h3 with ⟨-, hnil, -⟩ | ⟨b, off, rfl, hbk, hc⟩
  · simp at hnil
  clear hc
  have H : Hid (RowAt 1 encI w (.slice (some ⟨b, off, none⟩) 1 cap) [x]) := h
  clear h
  go_enter Tryz.func153, Tryz.ntmps153
  go_wp2_with (at_builtin; refine wpList_append_row _ rfl _ _ 23 rfl w.heap.size 9 (.string ByteArray.empty) 1 16 Tryz.underlying23 info_string rfl (by decide) encI lenI oneI (.slice none 0 0) 0 [] ?_ (World.ownsRow_nil _ _ _ _) _ [x] ?_ H.out ?_ ?_ ?_ ?_)
  · rfl
  · rfl
  · unfold maxLen; simp
  · simp
  · simp
  intro v1 w1 hown1 hg1
  obtain ⟨a1, c1, rfl⟩ := ownsRow_shape hown1
  have hb1 := grown_nil hg1
  have ho1 : OwnL w.heap.size 9 1 encI w1 (.slice a1 1 c1) [x] := ⟨by simpa using hown1, fun h => by cases h⟩
  clear hg1 hown1
  go_wp2_with fail
  go_ret
  exact ⟨_, rfl, ho1, hb1⟩
set_option maxHeartbeats 1000000 in
theorem insertS_nil (s : Value) (x : ByteArray × Int) (w : World) (h : RowAt 2 encS w s [x]) :
    Calls Tryz.prog 157 #[.slice none 0 0, .int .i64 0, s] w fun e w' => ∃ r, e = .returned r ∧ OwnL w.heap.size 69 2 encS w' r [x] ∧ Below w.heap.size w w' := by
  have hh := h
  obtain ⟨hl, a, cap, rfl, h1, h2, h3⟩ := hh
  rcases h3 with ⟨-, hnil, -⟩ | ⟨b, off, rfl, hbk, hc⟩
  · simp at hnil
  clear hc
  have H : Hid (RowAt 2 encS w (.slice (some ⟨b, off, none⟩) 1 cap) [x]) := h
  clear h
  go_enter Tryz.func157, Tryz.ntmps157
  go_wp2_with (at_builtin; refine wpList_append_row _ rfl _ _ 24 rfl w.heap.size 69 (.agg #[.string ByteArray.empty, .int .i64 0]) 2 24 Tryz.underlying24 info_score rfl (by decide) encS lenS oneS (.slice none 0 0) 0 [] ?_ (World.ownsRow_nil _ _ _ _) _ [x] ?_ H.out ?_ ?_ ?_ ?_)
  · rfl
  · rfl
  · unfold maxLen; simp
  · simp
  · simp
  intro v1 w1 hown1 hg1
  obtain ⟨a1, c1, rfl⟩ := ownsRow_shape hown1
  have hb1 := grown_nil hg1
  have ho1 : OwnL w.heap.size 69 2 encS w1 (.slice a1 1 c1) [x] := ⟨by simpa using hown1, fun h => by cases h⟩
  clear hg1 hown1
  go_wp2_with fail
  go_ret
  exact ⟨_, rfl, ho1, hb1⟩
end Go.Proofs.YtfnephnecighaaaGreat
