/- Adding to a count; the commands that are done with a value of whatever kind, or with a text or a count. -/
import Derived.Test.YtfnephnecighaaaGreatWcJ
import Derived.BigRegion
import Derived.Deep.RegionWith
namespace Go.Proofs.YtfnephnecighaaaGreat
open Go.RowKit
set_option linter.unusedVariables false

def addV (x : Val) (n : Int) : Val × Rep := if isCountB (x.count + n) = true then ({ x with count := x.count + n }, { n := x.count + n }) else (x, { code := 7 })

abbrev repO (code : Int) (text : ByteArray) (n : Int) (ls : Value) : Obj := .cells #[.int .i64 code, .string text, .int .i64 n, ls] 32

set_option maxHeartbeats 2000000 in
theorem add_core (kind : Int) (text : ByteArray) (count : Int) (pa ia sa : Option Addr) (np pc ni ic ns sc : Nat) (n : Int) (w : World)
    (h1 : -1099511627776 ≤ count) (h2 : count ≤ 1099511627776) (h3 : -1099511627776 ≤ n) (h4 : n ≤ 1099511627776) :
    Calls Tryz.prog 94 #[valV kind text count (.slice pa np pc) (.slice ia ni ic) (.slice sa ns sc), .int .i64 n] w fun e w' =>
      (e = if isCountB (count + n) = true then .returned (.tuple #[valV kind text (count + n) (.slice pa np pc) (.slice ia ni ic) (.slice sa ns sc), repV 0 ⟨#[]⟩ (count + n) (.slice none 0 0)])
        else .returned (.tuple #[valV kind text count (.slice pa np pc) (.slice ia ni ic) (.slice sa ns sc), repV 7 ⟨#[]⟩ 0 (.slice none 0 0)])) ∧ Below w.heap.size w w' := by
  by_cases hc : isCountB (count + n) = true
  · rw [if_pos hc]
    go_enter Tryz.func94, Tryz.ntmps94
    go_wp2_with (go_at_call 93; refine (isCount_any _ _).mono ?_; rintro e w1 ⟨rfl, rfl⟩)
    go_region
    go_wp2_with fail
    refine bodyPost_ret (v := .tuple #[valV kind text (count + n) (.slice pa np pc) (.slice ia ni ic) (.slice sa ns sc), repV 0 ⟨#[]⟩ (count + n) (.slice none 0 0)]) (by simp [results, Tryz.results94, go_sem]) rfl ⟨rfl, ?_⟩
    repeat (first | exact balloc _ _ | exact Below.refl _ _ | refine Below.drew ?_ | refine Below.alloc ?_ (by simp <;> omega) _ | refine Below.setCell ?_ (by simp <;> omega) _)
  · have hc : isCountB (count + n) = false := by simpa using hc
    rw [if_neg (by simp [hc])]
    go_enter Tryz.func94, Tryz.ntmps94
    go_wp2_with (go_at_call 93; refine (isCount_any _ _).mono ?_; rintro e w1 ⟨rfl, rfl⟩)
    refine bodyPost_ret (v := .tuple #[valV kind text count (.slice pa np pc) (.slice ia ni ic) (.slice sa ns sc), repV 7 ⟨#[]⟩ 0 (.slice none 0 0)]) (by simp [results, Tryz.results94, go_sem]) rfl ⟨rfl, ?_⟩
    repeat (first | exact balloc _ _ | exact Below.refl _ _ | refine Below.drew ?_ | refine Below.alloc ?_ (by simp <;> omega) _ | refine Below.setCell ?_ (by simp <;> omega) _)
end Go.Proofs.YtfnephnecighaaaGreat

/- The commands that are done with a value of whatever kind, or with a text or a count. -/
namespace Go.Proofs.YtfnephnecighaaaGreat
open Go.RowKit
set_option linter.unusedVariables false

/-- What perform makes of a value (its lists being the call's own from B on) and a command. -/
def PerfOk (x : Val) (c : Cmd) (y : Val) (r : Rep) : Prop :=
  ∀ (B : Nat) (W : World) (ps is ss : Value), B ≤ W.heap.size → OwnLists B W ps is ss x →
    Calls Tryz.prog 57 #[valV x.kind x.text x.count ps is ss, c.v] W fun e w' => ∃ v u, e = .returned (.tuple #[v, u]) ∧ RepsF B w' v y ∧ RepRF B w' u r ∧ Below B W w'

/-- The four blocks that perform lays first. -/
abbrev perfW (x : Val) (c : Cmd) (ps is ss : Value) (W : World) : World :=
  (((W.alloc (valO x.kind x.text x.count ps is ss)).alloc (.cells #[.int .i64 c.k, .string c.key, .string c.fld, .string c.txt, .int .i64 c.n] 28)).alloc (valO 0 ⟨#[]⟩ 0 (.slice none 0 0) (.slice none 0 0) (.slice none 0 0))).alloc (repO 0 ⟨#[]⟩ 0 (.slice none 0 0))
theorem perfW_below (x : Val) (c : Cmd) (ps is ss : Value) (W : World) : Below W.heap.size W (perfW x c ps is ss W) :=
  (((balloc W _).alloc (by simp) _).alloc (by simp; omega) _).alloc (by simp; omega) _
theorem perfW_size (x : Val) (c : Cmd) (ps is ss : Value) (W : World) : (perfW x c ps is ss W).heap.size = W.heap.size + 4 := by simp

theorem OwnLists.shapes {B : Nat} {w : World} {ps is ss : Value} {x : Val} (h : OwnLists B w ps is ss x) : ∃ pa pc ia ic sa sc, ps = .slice pa x.pairs.length pc ∧ is = .slice ia x.items.length ic ∧ ss = .slice sa x.scores.length sc := by
  obtain ⟨pa, pc, hp⟩ := ownsRow_shape h.p.1
  obtain ⟨ia, ic, hi⟩ := ownsRow_shape h.i.1
  obtain ⟨sa, sc, hs⟩ := ownsRow_shape h.s.1
  exact ⟨pa, pc, ia, ic, sa, sc, hp, hi, hs⟩

set_option maxHeartbeats 2000000 in
theorem perf_put (x : Val) (c : Cmd) (hk : c.k = 1) : PerfOk x c { emptyVal 1 with text := c.txt } {} := by
  intro B W ps is ss hB ho
  have n1 : (c.k == 1) = true := by simpa using hk
  clear hk
  go_enter Tryz.func57, Tryz.ntmps57
  go_wp2_with fail
  refine bodyPost_ret (v := .tuple #[valV 1 c.txt 0 (.slice none 0 0) (.slice none 0 0) (.slice none 0 0), repV 0 ⟨#[]⟩ 0 (.slice none 0 0)]) (by simp [results, Tryz.results57, go_sem]) rfl
    ⟨_, _, rfl, ⟨_, _, _, rfl, ⟨RowAt.nil _ _ _, RowAt.nil _ _ _, RowAt.nil _ _ _⟩, From.nil _, From.nil _, From.nil _⟩, ⟨_, rfl, RowAt.nil _ _ _, From.nil _⟩, ?_⟩
  refine Below.mono (B := W.heap.size) ?_ hB
  repeat (first | exact balloc _ _ | exact Below.refl _ _ | refine Below.drew ?_ | refine Below.alloc ?_ (by simp <;> omega) _ | refine Below.setCell ?_ (by simp <;> omega) _)

set_option maxHeartbeats 2000000 in
theorem perf_get (x : Val) (c : Cmd) (hk : c.k = 2) (hm : x.size ≤ 1048576) : PerfOk x c x { text := x.text } := by
  intro B W ps is ss hB ho
  have hl := ho.lists hm
  obtain ⟨pa, pc, ia, ic, sa, sc, rfl, rfl, rfl⟩ := ho.shapes
  have fp := From.own ho.p.1
  have fi := From.own ho.i.1
  have fs := From.own ho.s.1
  have n1 : (c.k == 1) = false := by simp [hk]
  have n2 : (c.k == 2) = true := by simp [hk]
  clear hk ho
  go_enter Tryz.func57, Tryz.ntmps57
  go_wp2_with fail
  go_region
  go_wp2_with fail
  have hb : ∀ w', Below W.heap.size W w' → Lists w' (.slice pa x.pairs.length pc) (.slice ia x.items.length ic) (.slice sa x.scores.length sc) x := fun w' h => hl.below h
  have fin : ∀ w', Below W.heap.size W w' → ∃ v u, Ending.returned (Value.tuple #[valV x.kind x.text x.count (.slice pa x.pairs.length pc) (.slice ia x.items.length ic) (.slice sa x.scores.length sc), repV 0 x.text 0 (.slice none 0 0)]) = .returned (.tuple #[v, u]) ∧ RepsF B w' v x ∧ RepRF B w' u { text := x.text } ∧ Below B W w' :=
    fun w' h => ⟨_, _, rfl, ⟨_, _, _, rfl, hb w' h, fp, fi, fs⟩, ⟨_, rfl, RowAt.nil _ _ _, From.nil _⟩, h.mono hB⟩
  refine bodyPost_ret (v := .tuple #[valV x.kind x.text x.count (.slice pa x.pairs.length pc) (.slice ia x.items.length ic) (.slice sa x.scores.length sc), repV 0 x.text 0 (.slice none 0 0)]) (by simp [results, Tryz.results57, go_sem]) rfl (fin _ ?_)
  repeat (first | exact balloc _ _ | exact Below.refl _ _ | refine Below.drew ?_ | refine Below.alloc ?_ (by simp <;> omega) _ | refine Below.setCell ?_ (by simp <;> omega) _)

set_option maxHeartbeats 2000000 in
theorem perf_add (x : Val) (c : Cmd) (hk : c.k = 3) (hm : x.size ≤ 1048576) (h1 : -1099511627776 ≤ x.count) (h2 : x.count ≤ 1099511627776) (h3 : -1099511627776 ≤ c.n) (h4 : c.n ≤ 1099511627776) :
    PerfOk x c (addV x c.n).1 (addV x c.n).2 := by
  intro B W ps is ss hB ho
  have hl := ho.lists hm
  obtain ⟨pa, pc, ia, ic, sa, sc, rfl, rfl, rfl⟩ := ho.shapes
  have fp := From.own ho.p.1
  have fi := From.own ho.i.1
  have fs := From.own ho.s.1
  have n1 : (c.k == 1) = false := by simp [hk]
  have n2 : (c.k == 2) = false := by simp [hk]
  have n3 : (c.k == 3) = true := by simp [hk]
  clear hk ho
  have hb0 := perfW_below x c (.slice pa x.pairs.length pc) (.slice ia x.items.length ic) (.slice sa x.scores.length sc) W
  have hadd := add_core x.kind x.text x.count pa ia sa x.pairs.length pc x.items.length ic x.scores.length sc c.n (perfW x c (.slice pa x.pairs.length pc) (.slice ia x.items.length ic) (.slice sa x.scores.length sc) W) h1 h2 h3 h4
  by_cases hc : isCountB (x.count + c.n) = true
  · rw [addV, if_pos hc]
    rw [if_pos hc] at hadd
    clear hc h1 h2 h3 h4
    go_enter Tryz.func57, Tryz.ntmps57
    go_wp2_with fail
    refine hadd.mono ?_
    rintro e w1 ⟨rfl, hb1⟩
    have hB1 := bstep hb0 hb1
    obtain ⟨hd1, he1⟩ := same_block (hb1.block (W.heap.size + 1 + 1) (by simp))
    obtain ⟨hg1, hi1⟩ := same_block (hb1.block (W.heap.size + 1 + 1 + 1) (by simp))
    clear hb1 hadd
    go_wp2_with fail
    have hb : ∀ w', Below W.heap.size W w' → Lists w' (.slice pa x.pairs.length pc) (.slice ia x.items.length ic) (.slice sa x.scores.length sc) x := fun w' h => hl.below h
    have fin : ∀ w', Below W.heap.size W w' → ∃ v u, Ending.returned (Value.tuple #[valV x.kind x.text (x.count + c.n) (.slice pa x.pairs.length pc) (.slice ia x.items.length ic) (.slice sa x.scores.length sc), repV 0 ⟨#[]⟩ (x.count + c.n) (.slice none 0 0)]) = .returned (.tuple #[v, u]) ∧ RepsF B w' v { x with count := x.count + c.n } ∧ RepRF B w' u { n := x.count + c.n } ∧ Below B W w' :=
      fun w' h => ⟨_, _, rfl, ⟨_, _, _, rfl, ⟨(hb w' h).p, (hb w' h).i, (hb w' h).s⟩, fp, fi, fs⟩, ⟨_, rfl, RowAt.nil _ _ _, From.nil _⟩, h.mono hB⟩
    refine bodyPost_ret (v := .tuple #[valV x.kind x.text (x.count + c.n) (.slice pa x.pairs.length pc) (.slice ia x.items.length ic) (.slice sa x.scores.length sc), repV 0 ⟨#[]⟩ (x.count + c.n) (.slice none 0 0)]) (by simp [results, Tryz.results57, go_sem, hd1, hg1]) rfl (fin _ ?_)
    (repeat (first | refine Below.setCell ?_ (by simp <;> omega) _ | refine Below.drew ?_)); exact hB1
  · rw [addV, if_neg hc]
    rw [if_neg hc] at hadd
    clear hc h1 h2 h3 h4
    go_enter Tryz.func57, Tryz.ntmps57
    go_wp2_with fail
    refine hadd.mono ?_
    rintro e w1 ⟨rfl, hb1⟩
    have hB1 := bstep hb0 hb1
    obtain ⟨hd1, he1⟩ := same_block (hb1.block (W.heap.size + 1 + 1) (by simp))
    obtain ⟨hg1, hi1⟩ := same_block (hb1.block (W.heap.size + 1 + 1 + 1) (by simp))
    clear hb1 hadd
    go_wp2_with fail
    have hb : ∀ w', Below W.heap.size W w' → Lists w' (.slice pa x.pairs.length pc) (.slice ia x.items.length ic) (.slice sa x.scores.length sc) x := fun w' h => hl.below h
    have fin : ∀ w', Below W.heap.size W w' → ∃ v u, Ending.returned (Value.tuple #[valV x.kind x.text x.count (.slice pa x.pairs.length pc) (.slice ia x.items.length ic) (.slice sa x.scores.length sc), repV 7 ⟨#[]⟩ 0 (.slice none 0 0)]) = .returned (.tuple #[v, u]) ∧ RepsF B w' v x ∧ RepRF B w' u { code := 7 } ∧ Below B W w' :=
      fun w' h => ⟨_, _, rfl, ⟨_, _, _, rfl, hb w' h, fp, fi, fs⟩, ⟨_, rfl, RowAt.nil _ _ _, From.nil _⟩, h.mono hB⟩
    refine bodyPost_ret (v := .tuple #[valV x.kind x.text x.count (.slice pa x.pairs.length pc) (.slice ia x.items.length ic) (.slice sa x.scores.length sc), repV 7 ⟨#[]⟩ 0 (.slice none 0 0)]) (by simp [results, Tryz.results57, go_sem, hd1, hg1]) rfl (fin _ ?_)
    (repeat (first | refine Below.setCell ?_ (by simp <;> omega) _ | refine Below.drew ?_)); exact hB1
end Go.Proofs.YtfnephnecighaaaGreat

/- The answer of a command that may be tried: out of what perform makes. -/
namespace Go.Proofs.YtfnephnecighaaaGreat
open Go.RowKit
set_option linter.unusedVariables false

def AnsOk (x : Val) (c : Cmd) (y : Val) (r : Rep) : Prop :=
  ∀ (W : World) (v : Value), Reps W v x → Calls Tryz.prog 29 #[v, c.v] W fun e w' => ∃ v' u, e = .returned (.tuple #[v', u]) ∧ RepsF W.heap.size w' v' y ∧ RepRF W.heap.size w' u r ∧ Below W.heap.size W w'
/-- The answer bears a code; its value is of some shape. -/
def AnsErr (x : Val) (c : Cmd) (code : Int) : Prop :=
  ∀ (W : World) (v : Value), Reps W v x → Calls Tryz.prog 29 #[v, c.v] W fun e w' => ∃ kind text count pa np pc ia ni ic sa ns sc txt n la nl lc, e = .returned (.tuple #[valV kind text count (.slice pa np pc) (.slice ia ni ic) (.slice sa ns sc), repV code txt n (.slice la nl lc)]) ∧ Below W.heap.size W w'

theorem Lists.shapes {w : World} {ps is ss : Value} {x : Val} (h : Lists w ps is ss x) : ∃ pa pc ia ic sa sc, ps = .slice pa x.pairs.length pc ∧ is = .slice ia x.items.length ic ∧ ss = .slice sa x.scores.length sc := by
  obtain ⟨pa, pc, ia, ic, sa, sc, h1, h2, h3, -⟩ := h.lens
  exact ⟨pa, pc, ia, ic, sa, sc, h1, h2, h3⟩

theorem Reps.shapes {w : World} {v : Value} {x : Val} (h : Reps w v x) : ∃ pa pc ia ic sa sc, v = valV x.kind x.text x.count (.slice pa x.pairs.length pc) (.slice ia x.items.length ic) (.slice sa x.scores.length sc) := by
  obtain ⟨ps, is, ss, rfl, hl⟩ := h
  obtain ⟨pa, pc, ia, ic, sa, sc, rfl, rfl, rfl⟩ := hl.shapes
  exact ⟨pa, pc, ia, ic, sa, sc, rfl⟩
theorem RepR.shapes {w : World} {u : Value} {r : Rep} (h : RepR w u r) : ∃ la lc, u = repV r.code r.text r.n (.slice la r.list.length lc) := by
  obtain ⟨ls, rfl, -, a, cap, rfl, -⟩ := h
  exact ⟨a, cap, rfl⟩

set_option maxHeartbeats 2000000 in
theorem ans_none (x : Val) (c : Cmd) (hn : x.none = true) (hm : makesB c.k = false) : AnsErr x c 5 := by
  intro W v hr
  have hnn := fun w' (hb : Below W.heap.size W w') => isNone_any v x w' (hr.below hb)
  obtain ⟨pa, pc, ia, ic, sa, sc, rfl⟩ := hr.shapes
  clear hr
  rw [hn] at hnn
  have HN : Hid (∀ w', Below W.heap.size W w' → Calls Tryz.prog 52 #[valV x.kind x.text x.count (.slice pa x.pairs.length pc) (.slice ia x.items.length ic) (.slice sa x.scores.length sc)] w' fun e w'' => e = .returned (.bool true) ∧ Below w'.heap.size w' w'') := hnn
  clear hnn hn
  have hb0 := perfW_below x c (.slice pa x.pairs.length pc) (.slice ia x.items.length ic) (.slice sa x.scores.length sc) W
  go_enter Tryz.func29, Tryz.ntmps29
  go_wp2_with fail
  refine (HN.out _ hb0).mono ?_
  rintro e w1 ⟨rfl, hb1⟩
  have hB1 := bstep hb0 hb1
  obtain ⟨ha1, hk1⟩ := same_block (hb1.block W.heap.size (by simp <;> omega))
  obtain ⟨hc1, hf1⟩ := same_block (hb1.block (W.heap.size + 1) (by simp <;> omega))
  obtain ⟨hd1, he1⟩ := same_block (hb1.block (W.heap.size + 1 + 1) (by simp <;> omega))
  obtain ⟨hg1, hi1⟩ := same_block (hb1.block (W.heap.size + 1 + 1 + 1) (by simp <;> omega))
  clear hb1
  go_wp2_with (go_at_call 56; refine (makes_any _ _).mono ?_; rintro e w2 ⟨rfl, rfl⟩)
  refine bodyPost_ret (v := .tuple #[valV x.kind x.text x.count (.slice pa x.pairs.length pc) (.slice ia x.items.length ic) (.slice sa x.scores.length sc), repV 5 ⟨#[]⟩ 0 (.slice none 0 0)]) (by simp [results, Tryz.results29, go_sem, hd1, hg1]) rfl ⟨_, _, _, _, _, _, _, _, _, _, _, _, _, _, _, _, _, rfl, ?_⟩
  (repeat (first | refine Below.setCell ?_ (by simp <;> omega) _ | refine Below.drew ?_)); exact hB1

set_option maxHeartbeats 2000000 in
theorem ans_type (x : Val) (c : Cmd) (hn : x.none = false) (hm : fitsB x.kind c.k = false) : AnsErr x c 4 := by
  intro W v hr
  have hnn := fun w' (hb : Below W.heap.size W w') => isNone_any v x w' (hr.below hb)
  obtain ⟨pa, pc, ia, ic, sa, sc, rfl⟩ := hr.shapes
  clear hr
  rw [hn] at hnn
  have HN : Hid (∀ w', Below W.heap.size W w' → Calls Tryz.prog 52 #[valV x.kind x.text x.count (.slice pa x.pairs.length pc) (.slice ia x.items.length ic) (.slice sa x.scores.length sc)] w' fun e w'' => e = .returned (.bool false) ∧ Below w'.heap.size w' w'') := hnn
  clear hnn hn
  have hb0 := perfW_below x c (.slice pa x.pairs.length pc) (.slice ia x.items.length ic) (.slice sa x.scores.length sc) W
  go_enter Tryz.func29, Tryz.ntmps29
  go_wp2_with fail
  refine (HN.out _ hb0).mono ?_
  rintro e w1 ⟨rfl, hb1⟩
  have hB1 := bstep hb0 hb1
  obtain ⟨ha1, hk1⟩ := same_block (hb1.block W.heap.size (by simp <;> omega))
  obtain ⟨hc1, hf1⟩ := same_block (hb1.block (W.heap.size + 1) (by simp <;> omega))
  obtain ⟨hd1, he1⟩ := same_block (hb1.block (W.heap.size + 1 + 1) (by simp <;> omega))
  obtain ⟨hg1, hi1⟩ := same_block (hb1.block (W.heap.size + 1 + 1 + 1) (by simp <;> omega))
  clear hb1
  go_wp2_with (go_at_call 59; refine (fits_any _ _ _).mono ?_; rintro e w2 ⟨rfl, rfl⟩)
  refine bodyPost_ret (v := .tuple #[valV x.kind x.text x.count (.slice pa x.pairs.length pc) (.slice ia x.items.length ic) (.slice sa x.scores.length sc), repV 4 ⟨#[]⟩ 0 (.slice none 0 0)]) (by simp [results, Tryz.results29, go_sem, hd1, hg1]) rfl ⟨_, _, _, _, _, _, _, _, _, _, _, _, _, _, _, _, _, rfl, ?_⟩
  (repeat (first | refine Below.setCell ?_ (by simp <;> omega) _ | refine Below.drew ?_)); exact hB1

set_option maxHeartbeats 4000000 in
theorem ans_makes (x : Val) (c : Cmd) (y : Val) (r : Rep) (hn : x.none = true) (hm : makesB c.k = true) (hp : PerfOk (emptyVal (kindOfI c.k)) c y r) : AnsOk x c y r := by
  intro W v hr
  have hnn := fun w' (hb : Below W.heap.size W w') => isNone_any v x w' (hr.below hb)
  obtain ⟨pa, pc, ia, ic, sa, sc, rfl⟩ := hr.shapes
  clear hr
  rw [hn] at hnn
  have HN : Hid (∀ w', Below W.heap.size W w' → Calls Tryz.prog 52 #[valV x.kind x.text x.count (.slice pa x.pairs.length pc) (.slice ia x.items.length ic) (.slice sa x.scores.length sc)] w' fun e w'' => e = .returned (.bool true) ∧ Below w'.heap.size w' w'') := hnn
  clear hnn hn
  have hpw : ∀ w1 : World, Calls Tryz.prog 57 #[valV (kindOfI c.k) ⟨#[]⟩ 0 (.slice none 0 0) (.slice none 0 0) (.slice none 0 0), c.v] w1 fun e w' => ∃ v u, e = .returned (.tuple #[v, u]) ∧ RepsF w1.heap.size w' v y ∧ RepRF w1.heap.size w' u r ∧ Below w1.heap.size w1 w' :=
    fun w1 => hp w1.heap.size w1 _ _ _ (Nat.le_refl _) (OwnLists.empty _ _ _)
  have HP : Hid (∀ w1 : World, Calls Tryz.prog 57 #[valV (kindOfI c.k) ⟨#[]⟩ 0 (.slice none 0 0) (.slice none 0 0) (.slice none 0 0), c.v] w1 fun e w' => ∃ v u, e = .returned (.tuple #[v, u]) ∧ RepsF w1.heap.size w' v y ∧ RepRF w1.heap.size w' u r ∧ Below w1.heap.size w1 w') := hpw
  clear hpw hp
  have hb0 := perfW_below x c (.slice pa x.pairs.length pc) (.slice ia x.items.length ic) (.slice sa x.scores.length sc) W
  go_enter Tryz.func29, Tryz.ntmps29
  go_wp2_with fail
  refine (HN.out _ hb0).mono ?_
  rintro e w1 ⟨rfl, hb1⟩
  have hB1 := bstep hb0 hb1
  obtain ⟨ha1, hk1⟩ := same_block (hb1.block W.heap.size (by simp <;> omega))
  obtain ⟨hc1, hf1⟩ := same_block (hb1.block (W.heap.size + 1) (by simp <;> omega))
  obtain ⟨hd1, he1⟩ := same_block (hb1.block (W.heap.size + 1 + 1) (by simp <;> omega))
  obtain ⟨hg1, hi1⟩ := same_block (hb1.block (W.heap.size + 1 + 1 + 1) (by simp <;> omega))
  have hz1 : W.heap.size + 4 ≤ w1.heap.size := by have := hb1.size; simp at this; omega
  clear hb1
  go_wp2_with (go_at_call 56; refine (makes_any _ _).mono ?_; rintro e w2 ⟨rfl, rfl⟩)
  go_region_with (first
    | (go_at_call 58; refine (kindOf_any _ _).mono ?_; rintro e w2 ⟨rfl, rfl⟩)
    | (go_at_call 57; refine (HP.out _).mono ?_; rintro e w2 ⟨v2, u2, rfl, hr2, hu2, hb2⟩; obtain ⟨pa2, pc2, ia2, ic2, sa2, sc2, rfl⟩ := hr2.reps.shapes; obtain ⟨la2, lc2, rfl⟩ := hu2.rep.shapes; obtain ⟨hd2, he2⟩ := same_block (hb2.block (W.heap.size + 1 + 1) (by simp; omega)); obtain ⟨hg2, hi2⟩ := same_block (hb2.block (W.heap.size + 1 + 1 + 1) (by simp; omega))))
  all_goals
    have hB2 : Below W.heap.size W w2 := bstep (show Below W.heap.size W w1.drew from hB1.drew) hb2
    have hz2 : W.heap.size + 4 ≤ w2.heap.size := Nat.le_trans hz1 hb2.size
    have hr2' := hr2.mono (B' := W.heap.size + 4) hz1
    have hu2' := hu2.mono (B' := W.heap.size + 4) hz1
    clear hr2 hu2 hb2
    go_wp2_with fail
    refine bodyPost_ret (v := .tuple #[valV y.kind y.text y.count (.slice pa2 y.pairs.length pc2) (.slice ia2 y.items.length ic2) (.slice sa2 y.scores.length sc2), repV r.code r.text r.n (.slice la2 r.list.length lc2)]) (by simp [results, Tryz.results29, go_sem, hd2, hg2, hd1, hg1]) rfl ⟨_, _, rfl, ?_, ?_, ?_⟩
    · refine RepsF.mono (B := W.heap.size + 4) ?_ (by omega)
      (repeat (refine RepsF.setCell ?_ (by simp <;> omega) _))
      exact hr2'
    · refine RepRF.mono (B := W.heap.size + 4) ?_ (by omega)
      (repeat (refine RepRF.setCell ?_ (by simp <;> omega) _))
      exact hu2'
    · (repeat (first | refine Below.setCell ?_ (by simp <;> omega) _ | refine Below.drew ?_))
      exact hB2

set_option maxHeartbeats 4000000 in
theorem ans_fits (x : Val) (c : Cmd) (y : Val) (r : Rep) (hn : x.none = false) (hm : fitsB x.kind c.k = true) (hsz : x.size ≤ 1048576) (hp : PerfOk x c y r) : AnsOk x c y r := by
  intro W v hr
  have hnn := fun w' (hb : Below W.heap.size W w') => isNone_any v x w' (hr.below hb)
  have hcp := fun w' (hb : Below W.heap.size W w') => copied_any v x w' (hr.below hb) hsz
  obtain ⟨pa, pc, ia, ic, sa, sc, rfl⟩ := hr.shapes
  clear hr
  rw [hn] at hnn
  have HN : Hid (∀ w', Below W.heap.size W w' → Calls Tryz.prog 52 #[valV x.kind x.text x.count (.slice pa x.pairs.length pc) (.slice ia x.items.length ic) (.slice sa x.scores.length sc)] w' fun e w'' => e = .returned (.bool false) ∧ Below w'.heap.size w' w'') := hnn
  have HC : Hid (∀ w', Below W.heap.size W w' → Calls Tryz.prog 30 #[valV x.kind x.text x.count (.slice pa x.pairs.length pc) (.slice ia x.items.length ic) (.slice sa x.scores.length sc)] w' fun e w'' => ∃ ps is ss, e = .returned (valV x.kind x.text x.count ps is ss) ∧ OwnLists w'.heap.size w'' ps is ss x ∧ Below w'.heap.size w' w'') := hcp
  clear hnn hn hcp
  have hb0 := perfW_below x c (.slice pa x.pairs.length pc) (.slice ia x.items.length ic) (.slice sa x.scores.length sc) W
  go_enter Tryz.func29, Tryz.ntmps29
  go_wp2_with fail
  refine (HN.out _ hb0).mono ?_
  rintro e w1 ⟨rfl, hb1⟩
  have hB1 := bstep hb0 hb1
  obtain ⟨ha1, hk1⟩ := same_block (hb1.block W.heap.size (by simp <;> omega))
  obtain ⟨hc1, hf1⟩ := same_block (hb1.block (W.heap.size + 1) (by simp <;> omega))
  obtain ⟨hd1, he1⟩ := same_block (hb1.block (W.heap.size + 1 + 1) (by simp <;> omega))
  obtain ⟨hg1, hi1⟩ := same_block (hb1.block (W.heap.size + 1 + 1 + 1) (by simp <;> omega))
  have hz1 : W.heap.size + 4 ≤ w1.heap.size := by have := hb1.size; simp at this; omega
  clear hb1
  go_wp2_with (go_at_call 59; refine (fits_any _ _ _).mono ?_; rintro e w2 ⟨rfl, rfl⟩)
  go_region_with (first
    | (go_at_call 30; refine (HC.out _ ?_).mono ?_; exact hB1.drew; rintro e w3 ⟨ps3, is3, ss3, rfl, ho3, hb3⟩; obtain ⟨ha3, hk3⟩ := same_block (hb3.block W.heap.size (by simp; omega)); obtain ⟨hc3, hf3⟩ := same_block (hb3.block (W.heap.size + 1) (by simp; omega)); obtain ⟨hd3, he3⟩ := same_block (hb3.block (W.heap.size + 1 + 1) (by simp; omega)); obtain ⟨hg3, hi3⟩ := same_block (hb3.block (W.heap.size + 1 + 1 + 1) (by simp; omega)))
    | (go_at_call 57; refine (hp _ _ _ _ _ ?_ ho3).mono ?_; exact hb3.size; rintro e w2 ⟨v2, u2, rfl, hr2, hu2, hb2⟩; obtain ⟨pa2, pc2, ia2, ic2, sa2, sc2, rfl⟩ := hr2.reps.shapes; obtain ⟨la2, lc2, rfl⟩ := hu2.rep.shapes; obtain ⟨hd2, he2⟩ := same_block (hb2.block (W.heap.size + 1 + 1) (by simp; omega)); obtain ⟨hg2, hi2⟩ := same_block (hb2.block (W.heap.size + 1 + 1 + 1) (by simp; omega))))
  all_goals
    have hzz : W.heap.size + 4 ≤ w1.drew.heap.size := hz1
    have hB2 : Below W.heap.size W w2 := (bstep hB1.drew hb3).trans (hb2.mono (by omega))
    have hr2' := hr2.mono (B' := W.heap.size + 4) hzz
    have hu2' := hu2.mono (B' := W.heap.size + 4) hzz
    clear hr2 hu2 hb2 hb3 ho3
    go_wp2_with fail
    refine bodyPost_ret (v := .tuple #[valV y.kind y.text y.count (.slice pa2 y.pairs.length pc2) (.slice ia2 y.items.length ic2) (.slice sa2 y.scores.length sc2), repV r.code r.text r.n (.slice la2 r.list.length lc2)]) (by simp [results, Tryz.results29, go_sem, hd2, hg2, hd3, hg3, hd1, hg1]) rfl ⟨_, _, rfl, ?_, ?_, ?_⟩
    · refine RepsF.mono (B := W.heap.size + 4) ?_ (by omega)
      (repeat (refine RepsF.setCell ?_ (by simp <;> omega) _))
      exact hr2'
    · refine RepRF.mono (B := W.heap.size + 4) ?_ (by omega)
      (repeat (refine RepRF.setCell ?_ (by simp <;> omega) _))
      exact hu2'
    · (repeat (first | refine Below.setCell ?_ (by simp <;> omega) _ | refine Below.drew ?_))
      exact hB2

theorem AnsOk.err {x : Val} {c : Cmd} {y : Val} {r : Rep} (h : AnsOk x c y r) : AnsErr x c r.code := by
  intro W v hr
  refine (h W v hr).mono ?_
  rintro e w' ⟨v', u, rfl, hr, hu, hb⟩
  obtain ⟨pa, pc, ia, ic, sa, sc, rfl⟩ := hr.reps.shapes
  obtain ⟨la, lc, rfl⟩ := hu.rep.shapes
  exact ⟨_, _, _, _, _, _, _, _, _, _, _, _, _, _, _, _, _, rfl, hb⟩
end Go.Proofs.YtfnephnecighaaaGreat
