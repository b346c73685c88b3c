/- The answer of a command that may be tried: out of what perform makes. -/
import Derived.Test.YtgpdnhammdgndaaGreatWdJ
namespace Go.Proofs.YtgpdnhammdgndaaGreat
open Go.RowKit
set_option linter.unusedVariables false

def AnsOk (x : Val) (c : Cmd) (y : Val) (r : Rep) : Prop :=
  ∀ (W : World) (v : Value), Reps W v x → Calls Tryz.prog 22 #[v, c.v] W fun e w' => ∃ v' u, e = .returned (.tuple #[v', u]) ∧ RepsF W.heap.size w' v' y ∧ RepRF W.heap.size w' u r ∧ Below W.heap.size W w'
/-- The answer bears a code; its value is of some shape. -/
def AnsErr (x : Val) (c : Cmd) (code : Int) : Prop :=
  ∀ (W : World) (v : Value), Reps W v x → Calls Tryz.prog 22 #[v, c.v] W fun e w' => ∃ kind text count pa np pc ia ni ic sa ns sc txt n la nl lc, e = .returned (.tuple #[valV kind text count (.slice pa np pc) (.slice ia ni ic) (.slice sa ns sc), repV code txt n (.slice la nl lc)]) ∧ Below W.heap.size W w'

theorem Lists.shapes {w : World} {ps is ss : Value} {x : Val} (h : Lists w ps is ss x) : ∃ pa pc ia ic sa sc, ps = .slice pa x.pairs.length pc ∧ is = .slice ia x.items.length ic ∧ ss = .slice sa x.scores.length sc := by
  obtain ⟨pa, pc, ia, ic, sa, sc, h1, h2, h3, -⟩ := h.lens
  exact ⟨pa, pc, ia, ic, sa, sc, h1, h2, h3⟩

theorem Reps.shapes {w : World} {v : Value} {x : Val} (h : Reps w v x) : ∃ pa pc ia ic sa sc, v = valV x.kind x.text x.count (.slice pa x.pairs.length pc) (.slice ia x.items.length ic) (.slice sa x.scores.length sc) := by
  obtain ⟨ps, is, ss, rfl, hl⟩ := h
  obtain ⟨pa, pc, ia, ic, sa, sc, rfl, rfl, rfl⟩ := hl.shapes
  exact ⟨pa, pc, ia, ic, sa, sc, rfl⟩
theorem RepR.shapes {w : World} {u : Value} {r : Rep} (h : RepR w u r) : ∃ la lc, u = repV r.code r.text r.n (.slice la r.list.length lc) := by
  obtain ⟨ls, rfl, -, a, cap, rfl, -⟩ := h
  exact ⟨a, cap, rfl⟩

set_option maxHeartbeats 2000000 in
theorem ans_none (x : Val) (c : Cmd) (hn : x.none = true) (hm : makesB c.k = false) : AnsErr x c 5 := by
  intro W v hr
  have hnn := fun w' (hb : Below W.heap.size W w') => isNone_any v x w' (hr.below hb)
  obtain ⟨pa, pc, ia, ic, sa, sc, rfl⟩ := hr.shapes
  clear hr
  rw [hn] at hnn
  have HN : Hid (∀ w', Below W.heap.size W w' → Calls Tryz.prog 34 #[valV x.kind x.text x.count (.slice pa x.pairs.length pc) (.slice ia x.items.length ic) (.slice sa x.scores.length sc)] w' fun e w'' => e = .returned (.bool true) ∧ Below w'.heap.size w' w'') := hnn
  clear hnn hn
  have hb0 := perfW_below x c (.slice pa x.pairs.length pc) (.slice ia x.items.length ic) (.slice sa x.scores.length sc) W
  go_enter Tryz.func22, Tryz.ntmps22
  go_wp2_with fail
  refine (HN.out _ hb0).mono ?_
  rintro e w1 ⟨rfl, hb1⟩
  have hB1 := bstep hb0 hb1
  obtain ⟨ha1, hk1⟩ := same_block (hb1.block W.heap.size (by simp <;> omega))
  obtain ⟨hc1, hf1⟩ := same_block (hb1.block (W.heap.size + 1) (by simp <;> omega))
  obtain ⟨hd1, he1⟩ := same_block (hb1.block (W.heap.size + 1 + 1) (by simp <;> omega))
  obtain ⟨hg1, hi1⟩ := same_block (hb1.block (W.heap.size + 1 + 1 + 1) (by simp <;> omega))
  clear hb1
  go_wp2_with (go_at_call 38; refine (makes_any _ _).mono ?_; rintro e w2 ⟨rfl, rfl⟩)
  refine bodyPost_ret (v := .tuple #[valV x.kind x.text x.count (.slice pa x.pairs.length pc) (.slice ia x.items.length ic) (.slice sa x.scores.length sc), repV 5 ⟨#[]⟩ 0 (.slice none 0 0)]) (by simp [results, Tryz.results22, go_sem, hd1, hg1]) rfl ⟨_, _, _, _, _, _, _, _, _, _, _, _, _, _, _, _, _, rfl, ?_⟩
  (repeat (first | refine Below.setCell ?_ (by simp <;> omega) _ | refine Below.drew ?_)); exact hB1

set_option maxHeartbeats 2000000 in
theorem ans_type (x : Val) (c : Cmd) (hn : x.none = false) (hm : fitsB x.kind c.k = false) : AnsErr x c 4 := by
  intro W v hr
  have hnn := fun w' (hb : Below W.heap.size W w') => isNone_any v x w' (hr.below hb)
  obtain ⟨pa, pc, ia, ic, sa, sc, rfl⟩ := hr.shapes
  clear hr
  rw [hn] at hnn
  have HN : Hid (∀ w', Below W.heap.size W w' → Calls Tryz.prog 34 #[valV x.kind x.text x.count (.slice pa x.pairs.length pc) (.slice ia x.items.length ic) (.slice sa x.scores.length sc)] w' fun e w'' => e = .returned (.bool false) ∧ Below w'.heap.size w' w'') := hnn
  clear hnn hn
  have hb0 := perfW_below x c (.slice pa x.pairs.length pc) (.slice ia x.items.length ic) (.slice sa x.scores.length sc) W
  go_enter Tryz.func22, Tryz.ntmps22
  go_wp2_with fail
  refine (HN.out _ hb0).mono ?_
  rintro e w1 ⟨rfl, hb1⟩
  have hB1 := bstep hb0 hb1
  obtain ⟨ha1, hk1⟩ := same_block (hb1.block W.heap.size (by simp <;> omega))
  obtain ⟨hc1, hf1⟩ := same_block (hb1.block (W.heap.size + 1) (by simp <;> omega))
  obtain ⟨hd1, he1⟩ := same_block (hb1.block (W.heap.size + 1 + 1) (by simp <;> omega))
  obtain ⟨hg1, hi1⟩ := same_block (hb1.block (W.heap.size + 1 + 1 + 1) (by simp <;> omega))
  clear hb1
  go_wp2_with (go_at_call 41; refine (fits_any _ _ _).mono ?_; rintro e w2 ⟨rfl, rfl⟩)
  refine bodyPost_ret (v := .tuple #[valV x.kind x.text x.count (.slice pa x.pairs.length pc) (.slice ia x.items.length ic) (.slice sa x.scores.length sc), repV 4 ⟨#[]⟩ 0 (.slice none 0 0)]) (by simp [results, Tryz.results22, go_sem, hd1, hg1]) rfl ⟨_, _, _, _, _, _, _, _, _, _, _, _, _, _, _, _, _, rfl, ?_⟩
  (repeat (first | refine Below.setCell ?_ (by simp <;> omega) _ | refine Below.drew ?_)); exact hB1

set_option maxHeartbeats 4000000 in
theorem ans_makes (x : Val) (c : Cmd) (y : Val) (r : Rep) (hn : x.none = true) (hm : makesB c.k = true) (hp : PerfOk (emptyVal (kindOfI c.k)) c y r) : AnsOk x c y r := by
  intro W v hr
  have hnn := fun w' (hb : Below W.heap.size W w') => isNone_any v x w' (hr.below hb)
  obtain ⟨pa, pc, ia, ic, sa, sc, rfl⟩ := hr.shapes
  clear hr
  rw [hn] at hnn
  have HN : Hid (∀ w', Below W.heap.size W w' → Calls Tryz.prog 34 #[valV x.kind x.text x.count (.slice pa x.pairs.length pc) (.slice ia x.items.length ic) (.slice sa x.scores.length sc)] w' fun e w'' => e = .returned (.bool true) ∧ Below w'.heap.size w' w'') := hnn
  clear hnn hn
  have hpw : ∀ w1 : World, Calls Tryz.prog 39 #[valV (kindOfI c.k) ⟨#[]⟩ 0 (.slice none 0 0) (.slice none 0 0) (.slice none 0 0), c.v] w1 fun e w' => ∃ v u, e = .returned (.tuple #[v, u]) ∧ RepsF w1.heap.size w' v y ∧ RepRF w1.heap.size w' u r ∧ Below w1.heap.size w1 w' :=
    fun w1 => hp w1.heap.size w1 _ _ _ (Nat.le_refl _) (OwnLists.empty _ _ _)
  have HP : Hid (∀ w1 : World, Calls Tryz.prog 39 #[valV (kindOfI c.k) ⟨#[]⟩ 0 (.slice none 0 0) (.slice none 0 0) (.slice none 0 0), c.v] w1 fun e w' => ∃ v u, e = .returned (.tuple #[v, u]) ∧ RepsF w1.heap.size w' v y ∧ RepRF w1.heap.size w' u r ∧ Below w1.heap.size w1 w') := hpw
  clear hpw hp
  have hb0 := perfW_below x c (.slice pa x.pairs.length pc) (.slice ia x.items.length ic) (.slice sa x.scores.length sc) W
  go_enter Tryz.func22, Tryz.ntmps22
  go_wp2_with fail
  refine (HN.out _ hb0).mono ?_
  rintro e w1 ⟨rfl, hb1⟩
  have hB1 := bstep hb0 hb1
  obtain ⟨ha1, hk1⟩ := same_block (hb1.block W.heap.size (by simp <;> omega))
  obtain ⟨hc1, hf1⟩ := same_block (hb1.block (W.heap.size + 1) (by simp <;> omega))
  obtain ⟨hd1, he1⟩ := same_block (hb1.block (W.heap.size + 1 + 1) (by simp <;> omega))
  obtain ⟨hg1, hi1⟩ := same_block (hb1.block (W.heap.size + 1 + 1 + 1) (by simp <;> omega))
  have hz1 : W.heap.size + 4 ≤ w1.heap.size := by have := hb1.size; simp at this; omega
  clear hb1
  go_wp2_with (go_at_call 38; refine (makes_any _ _).mono ?_; rintro e w2 ⟨rfl, rfl⟩)
  go_region_with (first
    | (go_at_call 40; refine (kindOf_any _ _).mono ?_; rintro e w2 ⟨rfl, rfl⟩)
    | (go_at_call 39; refine (HP.out _).mono ?_; rintro e w2 ⟨v2, u2, rfl, hr2, hu2, hb2⟩; obtain ⟨pa2, pc2, ia2, ic2, sa2, sc2, rfl⟩ := hr2.reps.shapes; obtain ⟨la2, lc2, rfl⟩ := hu2.rep.shapes; obtain ⟨hd2, he2⟩ := same_block (hb2.block (W.heap.size + 1 + 1) (by simp; omega)); obtain ⟨hg2, hi2⟩ := same_block (hb2.block (W.heap.size + 1 + 1 + 1) (by simp; omega))))
  all_goals
    have hB2 : Below W.heap.size W w2 := bstep (show Below W.heap.size W w1.drew from hB1.drew) hb2
    have hz2 : W.heap.size + 4 ≤ w2.heap.size := Nat.le_trans hz1 hb2.size
    have hr2' := hr2.mono (B' := W.heap.size + 4) hz1
    have hu2' := hu2.mono (B' := W.heap.size + 4) hz1
    clear hr2 hu2 hb2
    go_wp2_with fail
    refine bodyPost_ret (v := .tuple #[valV y.kind y.text y.count (.slice pa2 y.pairs.length pc2) (.slice ia2 y.items.length ic2) (.slice sa2 y.scores.length sc2), repV r.code r.text r.n (.slice la2 r.list.length lc2)]) (by simp [results, Tryz.results22, go_sem, hd2, hg2, hd1, hg1]) rfl ⟨_, _, rfl, ?_, ?_, ?_⟩
    · refine RepsF.mono (B := W.heap.size + 4) ?_ (by omega)
      (repeat (refine RepsF.setCell ?_ (by simp <;> omega) _))
      exact hr2'
    · refine RepRF.mono (B := W.heap.size + 4) ?_ (by omega)
      (repeat (refine RepRF.setCell ?_ (by simp <;> omega) _))
      exact hu2'
    · (repeat (first | refine Below.setCell ?_ (by simp <;> omega) _ | refine Below.drew ?_))
      exact hB2

set_option maxHeartbeats 4000000 in
theorem ans_fits (x : Val) (c : Cmd) (y : Val) (r : Rep) (hn : x.none = false) (hm : fitsB x.kind c.k = true) (hsz : x.size ≤ 1048576) (hp : PerfOk x c y r) : AnsOk x c y r := by
  intro W v hr
  have hnn := fun w' (hb : Below W.heap.size W w') => isNone_any v x w' (hr.below hb)
  have hcp := fun w' (hb : Below W.heap.size W w') => copied_any v x w' (hr.below hb) hsz
  obtain ⟨pa, pc, ia, ic, sa, sc, rfl⟩ := hr.shapes
  clear hr
  rw [hn] at hnn
  have HN : Hid (∀ w', Below W.heap.size W w' → Calls Tryz.prog 34 #[valV x.kind x.text x.count (.slice pa x.pairs.length pc) (.slice ia x.items.length ic) (.slice sa x.scores.length sc)] w' fun e w'' => e = .returned (.bool false) ∧ Below w'.heap.size w' w'') := hnn
  have HC : Hid (∀ w', Below W.heap.size W w' → Calls Tryz.prog 23 #[valV x.kind x.text x.count (.slice pa x.pairs.length pc) (.slice ia x.items.length ic) (.slice sa x.scores.length sc)] w' fun e w'' => ∃ ps is ss, e = .returned (valV x.kind x.text x.count ps is ss) ∧ OwnLists w'.heap.size w'' ps is ss x ∧ Below w'.heap.size w' w'') := hcp
  clear hnn hn hcp
  have hb0 := perfW_below x c (.slice pa x.pairs.length pc) (.slice ia x.items.length ic) (.slice sa x.scores.length sc) W
  go_enter Tryz.func22, Tryz.ntmps22
  go_wp2_with fail
  refine (HN.out _ hb0).mono ?_
  rintro e w1 ⟨rfl, hb1⟩
  have hB1 := bstep hb0 hb1
  obtain ⟨ha1, hk1⟩ := same_block (hb1.block W.heap.size (by simp <;> omega))
  obtain ⟨hc1, hf1⟩ := same_block (hb1.block (W.heap.size + 1) (by simp <;> omega))
  obtain ⟨hd1, he1⟩ := same_block (hb1.block (W.heap.size + 1 + 1) (by simp <;> omega))
  obtain ⟨hg1, hi1⟩ := same_block (hb1.block (W.heap.size + 1 + 1 + 1) (by simp <;> omega))
  have hz1 : W.heap.size + 4 ≤ w1.heap.size := by have := hb1.size; simp at this; omega
  clear hb1
  go_wp2_with (go_at_call 41; refine (fits_any _ _ _).mono ?_; rintro e w2 ⟨rfl, rfl⟩)
  go_region_with (first
    | (go_at_call 23; refine (HC.out _ ?_).mono ?_; exact hB1.drew; rintro e w3 ⟨ps3, is3, ss3, rfl, ho3, hb3⟩; obtain ⟨ha3, hk3⟩ := same_block (hb3.block W.heap.size (by simp; omega)); obtain ⟨hc3, hf3⟩ := same_block (hb3.block (W.heap.size + 1) (by simp; omega)); obtain ⟨hd3, he3⟩ := same_block (hb3.block (W.heap.size + 1 + 1) (by simp; omega)); obtain ⟨hg3, hi3⟩ := same_block (hb3.block (W.heap.size + 1 + 1 + 1) (by simp; omega)))
    | (go_at_call 39; refine (hp _ _ _ _ _ ?_ ho3).mono ?_; exact hb3.size; rintro e w2 ⟨v2, u2, rfl, hr2, hu2, hb2⟩; obtain ⟨pa2, pc2, ia2, ic2, sa2, sc2, rfl⟩ := hr2.reps.shapes; obtain ⟨la2, lc2, rfl⟩ := hu2.rep.shapes; obtain ⟨hd2, he2⟩ := same_block (hb2.block (W.heap.size + 1 + 1) (by simp; omega)); obtain ⟨hg2, hi2⟩ := same_block (hb2.block (W.heap.size + 1 + 1 + 1) (by simp; omega))))
  all_goals
    have hzz : W.heap.size + 4 ≤ w1.drew.heap.size := hz1
    have hB2 : Below W.heap.size W w2 := (bstep hB1.drew hb3).trans (hb2.mono (by omega))
    have hr2' := hr2.mono (B' := W.heap.size + 4) hzz
    have hu2' := hu2.mono (B' := W.heap.size + 4) hzz
    clear hr2 hu2 hb2 hb3 ho3
    go_wp2_with fail
    refine bodyPost_ret (v := .tuple #[valV y.kind y.text y.count (.slice pa2 y.pairs.length pc2) (.slice ia2 y.items.length ic2) (.slice sa2 y.scores.length sc2), repV r.code r.text r.n (.slice la2 r.list.length lc2)]) (by simp [results, Tryz.results22, go_sem, hd2, hg2, hd3, hg3, hd1, hg1]) rfl ⟨_, _, rfl, ?_, ?_, ?_⟩
    · refine RepsF.mono (B := W.heap.size + 4) ?_ (by omega)
      (repeat (refine RepsF.setCell ?_ (by simp <;> omega) _))
      exact hr2'
    · refine RepRF.mono (B := W.heap.size + 4) ?_ (by omega)
      (repeat (refine RepRF.setCell ?_ (by simp <;> omega) _))
      exact hu2'
    · (repeat (first | refine Below.setCell ?_ (by simp <;> omega) _ | refine Below.drew ?_))
      exact hB2

theorem AnsOk.err {x : Val} {c : Cmd} {y : Val} {r : Rep} (h : AnsOk x c y r) : AnsErr x c r.code := by
  intro W v hr
  refine (h W v hr).mono ?_
  rintro e w' ⟨v', u, rfl, hr, hu, hb⟩
  obtain ⟨pa, pc, ia, ic, sa, sc, rfl⟩ := hr.reps.shapes
  obtain ⟨la, lc, rfl⟩ := hu.rep.shapes
  exact ⟨_, _, _, _, _, _, _, _, _, _, _, _, _, _, _, _, _, rfl, hb⟩
end Go.Proofs.YtgpdnhammdgndaaGreat

/- A command done with a value: value.Do. -/
namespace Go.Proofs.YtgpdnhammdgndaaGreat
open Go.RowKit
set_option linter.unusedVariables false

/-- What value.Do answers: the value behind the command, the reply, the error. -/
def DoOk (x : Val) (c : Cmd) (y : Val) (r : Rep) (f : Int) : Prop :=
  ∀ (W : World) (v : Value), Reps W v x → Calls Tryz.prog 11 #[v, c.v] W fun e w' => ∃ v' u, e = .returned (.tuple #[v', u, .int .i64 f]) ∧ RepsF W.heap.size w' v' y ∧ RepRF W.heap.size w' u r ∧ Below W.heap.size W w'

set_option maxHeartbeats 4000000 in
theorem do_refused (x : Val) (c : Cmd) (f : Int) (hf : refusalI x c = f) (h0 : f ≠ 0) : DoOk x c (emptyVal 0) {} f := by
  intro W v hr
  have hrf := fun w' (hb : Below W.heap.size W w') => refusal_any v x c w' (hr.below hb)
  obtain ⟨pa, pc, ia, ic, sa, sc, rfl⟩ := hr.shapes
  clear hr
  rw [hf] at hrf
  have HR : Hid (∀ w', Below W.heap.size W w' → Calls Tryz.prog 21 #[valV x.kind x.text x.count (.slice pa x.pairs.length pc) (.slice ia x.items.length ic) (.slice sa x.scores.length sc), c.v] w' fun e w'' => e = .returned (.int .i64 f) ∧ Below w'.heap.size w' w'') := hrf
  clear hrf hf
  have hb0 := perfW_below x c (.slice pa x.pairs.length pc) (.slice ia x.items.length ic) (.slice sa x.scores.length sc) W
  have n0 : (f != 0) = true := by simpa using h0
  clear h0
  go_enter Tryz.func11, Tryz.ntmps11
  go_wp2_with fail
  refine (HR.out _ hb0).mono ?_
  rintro e w1 ⟨rfl, hb1⟩
  have hB1 := bstep hb0 hb1
  obtain ⟨hd1, he1⟩ := same_block (hb1.block (W.heap.size + 1 + 1) (by simp <;> omega))
  obtain ⟨hg1, hi1⟩ := same_block (hb1.block (W.heap.size + 1 + 1 + 1) (by simp <;> omega))
  clear hb1
  go_wp2_with fail
  refine bodyPost_ret (v := .tuple #[valV 0 ⟨#[]⟩ 0 (.slice none 0 0) (.slice none 0 0) (.slice none 0 0), repV 0 ⟨#[]⟩ 0 (.slice none 0 0), .int .i64 f]) (by simp [results, Tryz.results11, go_sem, hd1, hg1]) rfl
    ⟨_, _, rfl, ⟨_, _, _, rfl, Lists.empty _ 0, From.nil _, From.nil _, From.nil _⟩, ⟨_, rfl, RowAt.nil _ _ _, From.nil _⟩, ?_⟩
  (repeat (first | refine Below.setCell ?_ (by simp <;> omega) _ | refine Below.drew ?_))
  exact hB1

theorem block_cells {w : World} {b : Nat} {cs : Array Value} {t : TypeId} (h : w.heap[b]? = some (.cells cs t (0, 0))) : (∀ o, w.cell? ⟨b, o, none⟩ = cs[o]?) ∧ (∀ o, w.frozen? ⟨b, o, none⟩ = false) :=
  ⟨fun o => by unfold World.cell?; rw [h]; simp, fun o => by unfold World.frozen?; rw [h]; simp⟩
theorem heap_alloc2 {w : World} {o1 o2 : Obj} {b : Nat} (h : b < w.heap.size) : ((w.alloc o1).alloc o2).heap[b]? = w.heap[b]? := by
  rw [Below.heap_alloc _ _ _ (by simp; omega), Below.heap_alloc _ _ _ h]
theorem perfW_2 (x : Val) (c : Cmd) (ps is ss : Value) (W : World) : (perfW x c ps is ss W).heap[W.heap.size + 1 + 1]? = some (valO 0 ⟨#[]⟩ 0 (.slice none 0 0) (.slice none 0 0) (.slice none 0 0)) := by
  rw [Below.heap_alloc _ _ _ (by simp)]
  show ((_ : Array Obj).push _)[_]? = _
  rw [Array.getElem?_push, if_pos (by simp)]
theorem perfW_3 (x : Val) (c : Cmd) (ps is ss : Value) (W : World) : (perfW x c ps is ss W).heap[W.heap.size + 1 + 1 + 1]? = some (repO 0 ⟨#[]⟩ 0 (.slice none 0 0)) := by
  show ((_ : Array Obj).push _)[_]? = _
  rw [Array.getElem?_push, if_pos (by simp)]

set_option maxHeartbeats 8000000 in
theorem do_err (x : Val) (c : Cmd) (code : Int) (hf : refusalI x c = 0) (hsz : x.size ≤ 1048576) (ha : AnsErr x c code) (h0 : code ≠ 0) : DoOk x c x { code := code } 0 := by
  intro W v hr
  have hrf := fun w' (hb : Below W.heap.size W w') => refusal_any v x c w' (hr.below hb)
  have han := fun w' (hb : Below W.heap.size W w') => ha w' v (hr.below hb)
  have hcp := fun w' (hb : Below W.heap.size W w') => copied_any v x w' (hr.below hb) hsz
  obtain ⟨pa, pc, ia, ic, sa, sc, rfl⟩ := hr.shapes
  clear hr ha
  rw [hf] at hrf
  have HR : Hid (∀ w', Below W.heap.size W w' → Calls Tryz.prog 21 #[valV x.kind x.text x.count (.slice pa x.pairs.length pc) (.slice ia x.items.length ic) (.slice sa x.scores.length sc), c.v] w' fun e w'' => e = .returned (.int .i64 0) ∧ Below w'.heap.size w' w'') := hrf
  have HA : Hid (∀ w', Below W.heap.size W w' → Calls Tryz.prog 22 #[valV x.kind x.text x.count (.slice pa x.pairs.length pc) (.slice ia x.items.length ic) (.slice sa x.scores.length sc), c.v] w' fun e w'' => ∃ kind text count pa np pc ia ni ic sa ns sc txt n la nl lc, e = .returned (.tuple #[valV kind text count (.slice pa np pc) (.slice ia ni ic) (.slice sa ns sc), repV code txt n (.slice la nl lc)]) ∧ Below w'.heap.size w' w'') := han
  have HC : Hid (∀ w', Below W.heap.size W w' → Calls Tryz.prog 23 #[valV x.kind x.text x.count (.slice pa x.pairs.length pc) (.slice ia x.items.length ic) (.slice sa x.scores.length sc)] w' fun e w'' => ∃ ps is ss, e = .returned (valV x.kind x.text x.count ps is ss) ∧ OwnLists w'.heap.size w'' ps is ss x ∧ Below w'.heap.size w' w'') := hcp
  clear hrf hf han hcp
  have hb0 := perfW_below x c (.slice pa x.pairs.length pc) (.slice ia x.items.length ic) (.slice sa x.scores.length sc) W
  have n0 : (code != 0) = true := by simpa using h0
  clear h0
  go_enter Tryz.func11, Tryz.ntmps11
  go_wp2_with fail
  refine (HR.out _ hb0).mono ?_
  rintro e w1 ⟨rfl, hb1⟩
  have hB1 := bstep hb0 hb1
  obtain ⟨ha1, hk1⟩ := same_block (hb1.block W.heap.size (by simp <;> omega))
  obtain ⟨hc1, hf1⟩ := same_block (hb1.block (W.heap.size + 1) (by simp <;> omega))
  have B2 := (hb1.block (W.heap.size + 1 + 1) (by simp <;> omega)).trans (perfW_2 x c (.slice pa x.pairs.length pc) (.slice ia x.items.length ic) (.slice sa x.scores.length sc) W)
  have B3 := (hb1.block (W.heap.size + 1 + 1 + 1) (by simp <;> omega)).trans (perfW_3 x c (.slice pa x.pairs.length pc) (.slice ia x.items.length ic) (.slice sa x.scores.length sc) W)
  have hz1 : W.heap.size + 4 ≤ w1.heap.size := by have := hb1.size; simp at this; omega
  clear hb1
  go_wp2_with fail
  refine (HA.out _ hB1).mono ?_
  rintro e w2 ⟨kind, text, count, pa2, np, pc2, ia2, ni, ic2, sa2, ns, sc2, txt, n, la, nl, lc, rfl, hb2⟩
  have hB2 := bstep hB1 hb2
  obtain ⟨ha2, hk2⟩ := same_block (hb2.block W.heap.size (by omega))
  have B2 := (hb2.block (W.heap.size + 1 + 1) (by omega)).trans B2
  have B3 := (hb2.block (W.heap.size + 1 + 1 + 1) (by omega)).trans B3
  have hz2 : W.heap.size + 4 ≤ w2.heap.size := Nat.le_trans hz1 hb2.size
  clear hb2
  go_wp2_with fail
  have hzW : W.heap.size ≤ w2.heap.size := by omega
  have q0 : W.heap.size < w2.heap.size := by omega
  have q1 : W.heap.size ≠ w2.heap.size := by omega
  have q2 : W.heap.size ≠ w2.heap.size + 1 := by omega
  have K2 : Hid (w2.heap[W.heap.size + 1 + 1]? = _) := B2
  have K3 : Hid (w2.heap[W.heap.size + 1 + 1 + 1]? = _) := B3
  clear B2 B3
  go_region_with (go_at_call 23; refine (HC.out _ ?_).mono ?_; exact ((hB2.alloc hzW _).alloc (Nat.le_trans hzW (by simp)) _).drew; rintro e w3 ⟨ps3, is3, ss3, rfl, ho3, hb3⟩; obtain ⟨pa3, pc3, ia3, ic3, sa3, sc3, rfl, rfl, rfl⟩ := ho3.shapes; obtain ⟨hd3, he3⟩ := block_cells ((hb3.block (W.heap.size + 1 + 1) (by simp; omega)).trans ((heap_alloc2 (by omega)).trans K2.out)); obtain ⟨hg3, hi3⟩ := block_cells ((hb3.block (W.heap.size + 1 + 1 + 1) (by simp; omega)).trans ((heap_alloc2 (by omega)).trans K3.out)); obtain ⟨hq3, hr3⟩ := same_block (hb3.block (w2.heap.size + 1) (by simp)))
  all_goals
    have hB3 := bstep ((hB2.alloc hzW _).alloc (Nat.le_trans hzW (by simp)) _).drew hb3
    have hl3 := ho3.lists hsz
    have fp := (From.own ho3.p.1).mono (B' := W.heap.size + 4) (by simp; omega)
    have fi := (From.own ho3.i.1).mono (B' := W.heap.size + 4) (by simp; omega)
    have fs := (From.own ho3.s.1).mono (B' := W.heap.size + 4) (by simp; omega)
    have hrf : RepsF (W.heap.size + 4) w3 (valV x.kind x.text x.count (.slice pa3 x.pairs.length pc3) (.slice ia3 x.items.length ic3) (.slice sa3 x.scores.length sc3)) x := ⟨_, _, _, rfl, hl3, fp, fi, fs⟩
    clear hb3 ho3 hl3 fp fi fs
    go_wp2_with fail
    refine bodyPost_ret (v := .tuple #[valV x.kind x.text x.count (.slice pa3 x.pairs.length pc3) (.slice ia3 x.items.length ic3) (.slice sa3 x.scores.length sc3), repV code ⟨#[]⟩ 0 (.slice none 0 0), .int .i64 0]) (by simp [results, Tryz.results11, go_sem, hd3, hg3]) rfl ⟨_, _, rfl, ?_, ⟨_, rfl, RowAt.nil _ _ _, From.nil _⟩, ?_⟩
    · refine RepsF.mono (B := W.heap.size + 4) ?_ (by omega)
      (repeat (refine RepsF.setCell ?_ (by simp <;> omega) _))
      exact hrf
    · (repeat (first | refine Below.setCell ?_ (by simp <;> omega) _ | refine Below.drew ?_))
      exact hB3
end Go.Proofs.YtgpdnhammdgndaaGreat
