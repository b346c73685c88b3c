/- Values as lists, and how they lie in memory: plain definitions, and that what lies below stays. -/
import Derived.Test.YtgpdnhammdgndaaGreatCbJ
namespace Go.Proofs.YtgpdnhammdgndaaGreat
open Go.RowKit
set_option linter.unusedVariables false

structure Val where
  kind : Int
  text : ByteArray
  count : Int
  pairs : List (ByteArray × ByteArray)
  items : List ByteArray
  scores : List (ByteArray × Int)

/-- A value as it is handed over. -/
abbrev valV (kind : Int) (text : ByteArray) (count : Int) (ps is ss : Value) : Value := .agg #[.int .i64 kind, .string text, .int .i64 count, ps, is, ss]
abbrev valO (kind : Int) (text : ByteArray) (count : Int) (ps is ss : Value) : Obj := .cells #[.int .i64 kind, .string text, .int .i64 count, ps, is, ss] 26

/-- The three lists of a value, in memory. -/
structure Lists (w : World) (ps is ss : Value) (x : Val) : Prop where
  p : RowAt 2 encP w ps x.pairs
  i : RowAt 1 encI w is x.items
  s : RowAt 2 encS w ss x.scores

theorem Lists.below {w w' : World} {ps is ss : Value} {x : Val} (h : Lists w ps is ss x) (hb : Below w.heap.size w w') : Lists w' ps is ss x := ⟨h.p.below hb, h.i.below hb, h.s.below hb⟩

/-- A value that lies in memory as x. -/
def Reps (w : World) (v : Value) (x : Val) : Prop := ∃ ps is ss, v = valV x.kind x.text x.count ps is ss ∧ Lists w ps is ss x
theorem Reps.below {w w' : World} {v : Value} {x : Val} (h : Reps w v x) (hb : Below w.heap.size w w') : Reps w' v x := by
  obtain ⟨ps, is, ss, hv, hl⟩ := h
  exact ⟨ps, is, ss, hv, hl.below hb⟩
end Go.Proofs.YtgpdnhammdgndaaGreat

/- The small functions on values. -/
namespace Go.Proofs.YtgpdnhammdgndaaGreat
open Go.RowKit
set_option linter.unusedVariables false

def Val.size (x : Val) : Nat := x.pairs.length + x.items.length + x.scores.length
def holdsB (k : Int) : Bool := decide (k = 3 ∨ k = 4 ∨ k = 5 ∨ k = 6)

/-- The lengths that the three slices of a value show. -/
theorem Lists.lens {w : World} {ps is ss : Value} {x : Val} (h : Lists w ps is ss x) :
    ∃ pa pc ia ic sa sc, ps = .slice pa x.pairs.length pc ∧ is = .slice ia x.items.length ic ∧ ss = .slice sa x.scores.length sc ∧
      x.pairs.length ≤ 140737488355328 ∧ x.items.length ≤ 140737488355328 ∧ x.scores.length ≤ 140737488355328 := by
  obtain ⟨⟨p1, pa, pc, p2, -⟩, ⟨i1, ia, ic, i2, -⟩, ⟨s1, sa, sc, s2, -⟩⟩ := h
  exact ⟨pa, pc, ia, ic, sa, sc, p2, i2, s2, p1, i1, s1⟩

set_option maxHeartbeats 400000 in
theorem elements_any (v : Value) (x : Val) (w : World) (h : Reps w v x) :
    Calls Tryz.prog 25 #[v] w fun e w' => e = .returned (.int .i64 (x.size : Nat)) ∧ Below w.heap.size w w' := by
  obtain ⟨ps, is, ss, rfl, hl⟩ := h
  obtain ⟨pa, pc, ia, ic, sa, sc, rfl, rfl, rfl, b1, b2, b3⟩ := hl.lens
  clear hl
  go_enter Tryz.func25, Tryz.ntmps25
  go_wp2
  go_ret
  exact ⟨ret_int (by simp [Val.size]), balloc _ _⟩

set_option maxHeartbeats 400000 in
theorem holdsElements_any (k : Int) (w : World) :
    Calls Tryz.prog 24 #[.int .i64 k] w fun e w' => e = .returned (.bool (holdsB k)) ∧ w = w' := by
  go_enter Tryz.func24, Tryz.ntmps24
  go_wp2
  all_goals (go_ret; exact ⟨ret_bool (by simp_all [holdsB]), rfl⟩)

def foreignN (kind : Int) (text : ByteArray) (count : Int) (np ni ns : Nat) : Bool :=
  (kind != 1 && !text.toList.isEmpty) || (kind != 2 && count != 0) || (kind != 3 && decide (0 < np)) || (kind != 4 && kind != 5 && decide (0 < ni)) || (kind != 6 && decide (0 < ns))
def Val.foreign (x : Val) : Bool := foreignN x.kind x.text x.count x.pairs.length x.items.length x.scores.length

set_option maxHeartbeats 2000000 in
theorem hasForeign_core (kind : Int) (text : ByteArray) (count : Int) (pa ia sa : Option Addr) (np pc ni ic ns sc : Nat) (w : World)
    (b1 : np ≤ 140737488355328) (b2 : ni ≤ 140737488355328) (b3 : ns ≤ 140737488355328) :
    Calls Tryz.prog 57 #[valV kind text count (.slice pa np pc) (.slice ia ni ic) (.slice sa ns sc)] w fun e w' => e = .returned (.bool (foreignN kind text count np ni ns)) ∧ Below w.heap.size w w' := by
  go_enter Tryz.func57, Tryz.ntmps57
  go_wp2
  all_goals (go_ret; exact ⟨ret_bool (by simp_all [foreignN] <;> omega), balloc _ _⟩)

theorem hasForeign_any (v : Value) (x : Val) (w : World) (h : Reps w v x) :
    Calls Tryz.prog 57 #[v] w fun e w' => e = .returned (.bool x.foreign) ∧ Below w.heap.size w w' := by
  obtain ⟨ps, is, ss, rfl, hl⟩ := h
  obtain ⟨pa, pc, ia, ic, sa, sc, rfl, rfl, rfl, b1, b2, b3⟩ := hl.lens
  exact hasForeign_core _ _ _ _ _ _ _ _ _ _ _ _ _ b1 b2 b3
end Go.Proofs.YtgpdnhammdgndaaGreat
