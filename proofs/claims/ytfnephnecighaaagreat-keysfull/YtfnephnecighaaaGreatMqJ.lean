/- What a command makes of a value, as plain functions of lists. -/
import Derived.Test.YtfnephnecighaaaGreatPgJ
namespace Go.Proofs.YtfnephnecighaaaGreat
open Go.RowKit
set_option linter.unusedVariables false

abbrev cmF (t : ByteArray) : ByteArray × ByteArray → Int := fun q => cmpS q.1 t
abbrev cmT (t : ByteArray) : ByteArray → Int := fun q => cmpS q t
abbrev cmZ (s : ByteArray × Int) : ByteArray × Int → Int := fun q => cmpSc q s

def cutAt {α : Type} (l : List α) (p : Nat) : List α := l.take p ++ l.drop (p + 1)
def layAt {α : Type} (l : List α) (p : Nat) (x : α) : List α := l.take p ++ x :: l.drop p

def hashV (x : Val) (c : Cmd) : Val × Rep :=
  if hitB (cmF c.fld) x.pairs (posOf (cmF c.fld) x.pairs) = true then
    if c.k = 4 then ({ x with pairs := x.pairs.set (posOf (cmF c.fld) x.pairs) (c.fld, c.txt) }, {})
    else if c.k = 5 then (x, { text := ((x.pairs[posOf (cmF c.fld) x.pairs]?).getD (⟨#[]⟩, ⟨#[]⟩)).2 })
    else ({ x with pairs := cutAt x.pairs (posOf (cmF c.fld) x.pairs) }, { n := 1 })
  else
    if c.k = 4 then if 20 ≤ x.size then (x, { code := 6 }) else ({ x with pairs := layAt x.pairs (posOf (cmF c.fld) x.pairs) (c.fld, c.txt) }, { n := 1 })
    else if c.k = 5 then (x, { code := 5 })
    else (x, {})

def listV (x : Val) (c : Cmd) : Val × Rep :=
  if c.k = 7 then if 20 ≤ x.size then (x, { code := 6 }) else ({ x with items := layAt x.items x.items.length c.txt }, { n := (x.items.length : Int) + 1 })
  else if c.k = 8 then if 20 ≤ x.size then (x, { code := 6 }) else ({ x with items := layAt x.items 0 c.txt }, { n := (x.items.length : Int) + 1 })
  else if c.k = 9 then ({ x with items := cutAt x.items (x.items.length - 1) }, { text := (x.items[x.items.length - 1]?).getD ⟨#[]⟩ })
  else ({ x with items := cutAt x.items 0 }, { text := (x.items[0]?).getD ⟨#[]⟩ })

def setV (x : Val) (c : Cmd) : Val × Rep :=
  if hitB (cmT c.txt) x.items (posOf (cmT c.txt) x.items) = true then
    if c.k = 11 then (x, {})
    else if c.k = 12 then ({ x with items := cutAt x.items (posOf (cmT c.txt) x.items) }, { n := 1 })
    else (x, { n := 1 })
  else
    if c.k = 11 then if 20 ≤ x.size then (x, { code := 6 }) else ({ x with items := layAt x.items (posOf (cmT c.txt) x.items) c.txt }, { n := 1 })
    else (x, {})

/-- Scores without a member's. -/
def without (t : ByteArray) (l : List (ByteArray × Int)) : List (ByteArray × Int) := match l.findIdx? (isMember t) with | some i => cutAt l i | none => l
def rankV (x : Val) (c : Cmd) : Val × Rep :=
  match x.scores.findIdx? (isMember c.txt) with
  | some i =>
    if c.k = 14 then ({ x with scores := layAt (cutAt x.scores i) (posOf (cmZ (c.txt, c.n)) (cutAt x.scores i)) (c.txt, c.n) }, {})
    else if c.k = 15 then ({ x with scores := cutAt x.scores i }, { n := 1 })
    else (x, { n := (i : Int) })
  | none =>
    if c.k = 14 then if 20 ≤ x.size then (x, { code := 6 }) else ({ x with scores := layAt x.scores (posOf (cmZ (c.txt, c.n)) x.scores) (c.txt, c.n) }, { n := 1 })
    else if c.k = 15 then (x, {})
    else (x, { code := 5 })

def performV (x : Val) (c : Cmd) : Val × Rep :=
  if c.k = 1 then ({ emptyVal 1 with text := c.txt }, {})
  else if c.k = 2 then (x, { text := x.text })
  else if c.k = 3 then addV x c.n
  else if c.k = 17 then (x, { n := (x.size : Int) })
  else if c.k = 18 then (x, { list := x.names })
  else if x.kind = 3 then hashV x c else if x.kind = 4 then listV x c else if x.kind = 5 then setV x c else rankV x c

def answerV (x : Val) (c : Cmd) : Val × Rep :=
  if x.none = true then if makesB c.k = true then performV (emptyVal (kindOfI c.k)) c else (x, { code := 5 })
  else if fitsB x.kind c.k = true then performV x c else (x, { code := 4 })

def doV (x : Val) (c : Cmd) : Val :=
  if refusalI x c ≠ 0 then emptyVal 0 else if (answerV x c).2.code ≠ 0 then x else keptV (answerV x c).1
def doR (x : Val) (c : Cmd) : Rep :=
  if refusalI x c ≠ 0 then {} else if (answerV x c).2.code ≠ 0 then { code := (answerV x c).2.code } else (answerV x c).2
end Go.Proofs.YtfnephnecighaaaGreat

/- What commands make of a value's own lists where nothing is changed: what was looked for is not there, or is read. -/
namespace Go.Proofs.YtfnephnecighaaaGreat
open Go.RowKit
set_option linter.unusedVariables false

theorem OwnLists.repsA {B N M : Nat} {W w' : World} {ps is ss : Value} {x : Val} (ho : OwnLists B W ps is ss x) (hm : x.size ≤ 1048576) (hb : Below W.heap.size W w') (op : OwnIn N ps) (oi : OwnIn N is) (os : OwnIn N ss) : RepsA B N M w' (valV x.kind x.text x.count ps is ss) x :=
  ⟨_, _, _, rfl, (ho.lists hm).below hb, fun k hk => ⟨(ho.p.1.lt k hk).1, .inl (op k hk)⟩, fun k hk => ⟨(ho.i.1.lt k hk).1, .inl (oi k hk)⟩, fun k hk => ⟨(ho.s.1.lt k hk).1, .inl (os k hk)⟩⟩

set_option maxHeartbeats 4000000 in
theorem hash_get_miss (x : Val) (c : Cmd) (p : Nat) (hk : c.k = 5) (hm : x.size ≤ 1048576) (hp : Parts (fun q : ByteArray × ByteArray => cmpS q.1 c.fld) x.pairs p) (hh : hitB (fun q : ByteArray × ByteArray => cmpS q.1 c.fld) x.pairs p = false) :
    Does 96 x c x { code := 5 } := by
  intro B N W ps is ss hBN hN ho op oi os
  have hmL : x.pairs.length ≤ 140737488355328 := by unfold Val.size at hm; omega
  have hfin := fun w' (hb : Below W.heap.size W w') => ho.repsA (N := N) (M := W.heap.size) hm hb op oi os
  have n4 : (c.k == 4) = false := by simp [hk]
  have n5 : (c.k == 5) = true := by simp [hk]
  obtain ⟨pa, pc, ia, ic, sa, sc, rfl, rfl, rfl⟩ := ho.shapes
  obtain ⟨n0, n1, n2, n3, hb0, hz0⟩ := four_at W (valO x.kind x.text x.count (.slice pa x.pairs.length pc) (.slice ia x.items.length ic) (.slice sa x.scores.length sc)) (cmdC c) (valO 0 ⟨#[]⟩ 0 (.slice none 0 0) (.slice none 0 0) (.slice none 0 0)) (repO 0 ⟨#[]⟩ 0 (.slice none 0 0))
  have hBS := bsearchP 130 #[] c.fld (fun q => cmpS q.1 c.fld) pairCmp_enter (.slice pa x.pairs.length pc) x.pairs p _ ((RowAt.ofOwn lenP ho.p.1 hmL).below hb0) (pairCmp_of c.fld _) hp
  rw [hh] at hBS
  have HF : Hid (∀ w', Below W.heap.size W w' → RepsA B N W.heap.size w' (valV x.kind x.text x.count (.slice pa x.pairs.length pc) (.slice ia x.items.length ic) (.slice sa x.scores.length sc)) x) := hfin
  clear hp hh hk hfin ho
  go_enter Tryz.func96, Tryz.ntmps96
  go_wp2_with fail
  refine hBS.mono ?_
  rintro e w1 ⟨rfl, hb1⟩
  have hB1 := bstep hb0 hb1
  have sz1 : W.heap.size + 4 ≤ w1.heap.size := by rw [← hz0]; exact hb1.size
  have m0 := (hb1.block W.heap.size (by omega)).trans n0
  have m1 := (hb1.block (W.heap.size + 1) (by omega)).trans n1
  have m2 := (hb1.block (W.heap.size + 1 + 1) (by omega)).trans n2
  have m3 := (hb1.block (W.heap.size + 1 + 1 + 1) (by omega)).trans n3
  clear n0 n1 n2 n3 hb1 hBS hz0 hb0
  obtain ⟨c0, f0⟩ := block_cells m0
  obtain ⟨c1, f1⟩ := block_cells m1
  obtain ⟨c2, f2⟩ := block_cells m2
  obtain ⟨c3, f3⟩ := block_cells m3
  clear m0 m1 m2 m3
  go_wp2_with fail
  skip
  all_goals
    skip
    refine bodyPost_ret (v := .tuple #[valV x.kind x.text x.count (.slice pa x.pairs.length pc) (.slice ia x.items.length ic) (.slice sa x.scores.length sc), repV 5 ⟨#[]⟩ 0 (.slice none 0 0)]) (by simp [results, Tryz.results96, go_sem, c2, c3]) rfl ⟨_, _, rfl, HF.out _ ?_, ⟨_, rfl, RowAt.nil _ _ _, In.nil _ _ _⟩, Keeps.ofBelow ?_⟩
    all_goals
      (repeat (with_reducible first | exact hB1 | refine Below.drew ?_ | refine Below.setCell ?_ ?_ _))
      all_goals (first | omega | (simp <;> omega))
set_option maxHeartbeats 4000000 in
theorem hash_del_miss (x : Val) (c : Cmd) (p : Nat) (hk : c.k = 6) (hm : x.size ≤ 1048576) (hp : Parts (fun q : ByteArray × ByteArray => cmpS q.1 c.fld) x.pairs p) (hh : hitB (fun q : ByteArray × ByteArray => cmpS q.1 c.fld) x.pairs p = false) :
    Does 96 x c x {} := by
  intro B N W ps is ss hBN hN ho op oi os
  have hmL : x.pairs.length ≤ 140737488355328 := by unfold Val.size at hm; omega
  have hfin := fun w' (hb : Below W.heap.size W w') => ho.repsA (N := N) (M := W.heap.size) hm hb op oi os
  have n4 : (c.k == 4) = false := by simp [hk]
  have n5 : (c.k == 5) = false := by simp [hk]
  obtain ⟨pa, pc, ia, ic, sa, sc, rfl, rfl, rfl⟩ := ho.shapes
  obtain ⟨n0, n1, n2, n3, hb0, hz0⟩ := four_at W (valO x.kind x.text x.count (.slice pa x.pairs.length pc) (.slice ia x.items.length ic) (.slice sa x.scores.length sc)) (cmdC c) (valO 0 ⟨#[]⟩ 0 (.slice none 0 0) (.slice none 0 0) (.slice none 0 0)) (repO 0 ⟨#[]⟩ 0 (.slice none 0 0))
  have hBS := bsearchP 130 #[] c.fld (fun q => cmpS q.1 c.fld) pairCmp_enter (.slice pa x.pairs.length pc) x.pairs p _ ((RowAt.ofOwn lenP ho.p.1 hmL).below hb0) (pairCmp_of c.fld _) hp
  rw [hh] at hBS
  have HF : Hid (∀ w', Below W.heap.size W w' → RepsA B N W.heap.size w' (valV x.kind x.text x.count (.slice pa x.pairs.length pc) (.slice ia x.items.length ic) (.slice sa x.scores.length sc)) x) := hfin
  clear hp hh hk hfin ho
  go_enter Tryz.func96, Tryz.ntmps96
  go_wp2_with fail
  refine hBS.mono ?_
  rintro e w1 ⟨rfl, hb1⟩
  have hB1 := bstep hb0 hb1
  have sz1 : W.heap.size + 4 ≤ w1.heap.size := by rw [← hz0]; exact hb1.size
  have m0 := (hb1.block W.heap.size (by omega)).trans n0
  have m1 := (hb1.block (W.heap.size + 1) (by omega)).trans n1
  have m2 := (hb1.block (W.heap.size + 1 + 1) (by omega)).trans n2
  have m3 := (hb1.block (W.heap.size + 1 + 1 + 1) (by omega)).trans n3
  clear n0 n1 n2 n3 hb1 hBS hz0 hb0
  obtain ⟨c0, f0⟩ := block_cells m0
  obtain ⟨c1, f1⟩ := block_cells m1
  obtain ⟨c2, f2⟩ := block_cells m2
  obtain ⟨c3, f3⟩ := block_cells m3
  clear m0 m1 m2 m3
  go_wp2_with fail
  go_region_with (go_at_call 133; refine (number_any _ _).mono ?_; rintro e w3 ⟨rfl, rfl⟩)
  all_goals
    go_wp2_with fail
    refine bodyPost_ret (v := .tuple #[valV x.kind x.text x.count (.slice pa x.pairs.length pc) (.slice ia x.items.length ic) (.slice sa x.scores.length sc), repV 0 ⟨#[]⟩ 0 (.slice none 0 0)]) (by simp [results, Tryz.results96, go_sem, c2, c3]) rfl ⟨_, _, rfl, HF.out _ ?_, ⟨_, rfl, RowAt.nil _ _ _, In.nil _ _ _⟩, Keeps.ofBelow ?_⟩
    all_goals
      (repeat (with_reducible first | exact hB1 | refine Below.drew ?_ | refine Below.setCell ?_ ?_ _))
      all_goals (first | omega | (simp <;> omega))
set_option maxHeartbeats 4000000 in
theorem set_rem_miss (x : Val) (c : Cmd) (p : Nat) (hk : c.k = 12) (hm : x.size ≤ 1048576) (hp : Parts (fun q : ByteArray => cmpS q c.txt) x.items p) (hh : hitB (fun q : ByteArray => cmpS q c.txt) x.items p = false) :
    Does 98 x c x {} := by
  intro B N W ps is ss hBN hN ho op oi os
  have hmL : x.items.length ≤ 140737488355328 := by unfold Val.size at hm; omega
  have hfin := fun w' (hb : Below W.heap.size W w') => ho.repsA (N := N) (M := W.heap.size) hm hb op oi os
  have n4 : (c.k == 11) = false := by simp [hk]
  have n5 : (c.k == 12) = true := by simp [hk]
  obtain ⟨pa, pc, ia, ic, sa, sc, rfl, rfl, rfl⟩ := ho.shapes
  obtain ⟨n0, n1, n2, n3, hb0, hz0⟩ := four_at W (valO x.kind x.text x.count (.slice pa x.pairs.length pc) (.slice ia x.items.length ic) (.slice sa x.scores.length sc)) (cmdC c) (valO 0 ⟨#[]⟩ 0 (.slice none 0 0) (.slice none 0 0) (.slice none 0 0)) (repO 0 ⟨#[]⟩ 0 (.slice none 0 0))
  have hBS := bsearchI c.txt (.slice ia x.items.length ic) x.items p _ ((RowAt.ofOwn lenI ho.i.1 hmL).below hb0) hp
  rw [hh] at hBS
  have HF : Hid (∀ w', Below W.heap.size W w' → RepsA B N W.heap.size w' (valV x.kind x.text x.count (.slice pa x.pairs.length pc) (.slice ia x.items.length ic) (.slice sa x.scores.length sc)) x) := hfin
  clear hp hh hk hfin ho
  go_enter Tryz.func98, Tryz.ntmps98
  go_wp2_with fail
  refine hBS.mono ?_
  rintro e w1 ⟨rfl, hb1⟩
  have hB1 := bstep hb0 hb1
  have sz1 : W.heap.size + 4 ≤ w1.heap.size := by rw [← hz0]; exact hb1.size
  have m0 := (hb1.block W.heap.size (by omega)).trans n0
  have m1 := (hb1.block (W.heap.size + 1) (by omega)).trans n1
  have m2 := (hb1.block (W.heap.size + 1 + 1) (by omega)).trans n2
  have m3 := (hb1.block (W.heap.size + 1 + 1 + 1) (by omega)).trans n3
  clear n0 n1 n2 n3 hb1 hBS hz0 hb0
  obtain ⟨c0, f0⟩ := block_cells m0
  obtain ⟨c1, f1⟩ := block_cells m1
  obtain ⟨c2, f2⟩ := block_cells m2
  obtain ⟨c3, f3⟩ := block_cells m3
  clear m0 m1 m2 m3
  go_wp2_with fail
  go_region_with (go_at_call 133; refine (number_any _ _).mono ?_; rintro e w3 ⟨rfl, rfl⟩)
  all_goals
    go_wp2_with fail
    refine bodyPost_ret (v := .tuple #[valV x.kind x.text x.count (.slice pa x.pairs.length pc) (.slice ia x.items.length ic) (.slice sa x.scores.length sc), repV 0 ⟨#[]⟩ 0 (.slice none 0 0)]) (by simp [results, Tryz.results98, go_sem, c2, c3]) rfl ⟨_, _, rfl, HF.out _ ?_, ⟨_, rfl, RowAt.nil _ _ _, In.nil _ _ _⟩, Keeps.ofBelow ?_⟩
    all_goals
      (repeat (with_reducible first | exact hB1 | refine Below.drew ?_ | refine Below.setCell ?_ ?_ _))
      all_goals (first | omega | (simp <;> omega))
set_option maxHeartbeats 4000000 in
theorem set_has_miss (x : Val) (c : Cmd) (p : Nat) (hk : c.k = 13) (hm : x.size ≤ 1048576) (hp : Parts (fun q : ByteArray => cmpS q c.txt) x.items p) (hh : hitB (fun q : ByteArray => cmpS q c.txt) x.items p = false) :
    Does 98 x c x {} := by
  intro B N W ps is ss hBN hN ho op oi os
  have hmL : x.items.length ≤ 140737488355328 := by unfold Val.size at hm; omega
  have hfin := fun w' (hb : Below W.heap.size W w') => ho.repsA (N := N) (M := W.heap.size) hm hb op oi os
  have n4 : (c.k == 11) = false := by simp [hk]
  have n5 : (c.k == 12) = false := by simp [hk]
  obtain ⟨pa, pc, ia, ic, sa, sc, rfl, rfl, rfl⟩ := ho.shapes
  obtain ⟨n0, n1, n2, n3, hb0, hz0⟩ := four_at W (valO x.kind x.text x.count (.slice pa x.pairs.length pc) (.slice ia x.items.length ic) (.slice sa x.scores.length sc)) (cmdC c) (valO 0 ⟨#[]⟩ 0 (.slice none 0 0) (.slice none 0 0) (.slice none 0 0)) (repO 0 ⟨#[]⟩ 0 (.slice none 0 0))
  have hBS := bsearchI c.txt (.slice ia x.items.length ic) x.items p _ ((RowAt.ofOwn lenI ho.i.1 hmL).below hb0) hp
  rw [hh] at hBS
  have HF : Hid (∀ w', Below W.heap.size W w' → RepsA B N W.heap.size w' (valV x.kind x.text x.count (.slice pa x.pairs.length pc) (.slice ia x.items.length ic) (.slice sa x.scores.length sc)) x) := hfin
  clear hp hh hk hfin ho
  go_enter Tryz.func98, Tryz.ntmps98
  go_wp2_with fail
  refine hBS.mono ?_
  rintro e w1 ⟨rfl, hb1⟩
  have hB1 := bstep hb0 hb1
  have sz1 : W.heap.size + 4 ≤ w1.heap.size := by rw [← hz0]; exact hb1.size
  have m0 := (hb1.block W.heap.size (by omega)).trans n0
  have m1 := (hb1.block (W.heap.size + 1) (by omega)).trans n1
  have m2 := (hb1.block (W.heap.size + 1 + 1) (by omega)).trans n2
  have m3 := (hb1.block (W.heap.size + 1 + 1 + 1) (by omega)).trans n3
  clear n0 n1 n2 n3 hb1 hBS hz0 hb0
  obtain ⟨c0, f0⟩ := block_cells m0
  obtain ⟨c1, f1⟩ := block_cells m1
  obtain ⟨c2, f2⟩ := block_cells m2
  obtain ⟨c3, f3⟩ := block_cells m3
  clear m0 m1 m2 m3
  go_wp2_with fail
  go_region_with (go_at_call 133; refine (number_any _ _).mono ?_; rintro e w3 ⟨rfl, rfl⟩)
  all_goals
    go_wp2_with fail
    refine bodyPost_ret (v := .tuple #[valV x.kind x.text x.count (.slice pa x.pairs.length pc) (.slice ia x.items.length ic) (.slice sa x.scores.length sc), repV 0 ⟨#[]⟩ 0 (.slice none 0 0)]) (by simp [results, Tryz.results98, go_sem, c2, c3]) rfl ⟨_, _, rfl, HF.out _ ?_, ⟨_, rfl, RowAt.nil _ _ _, In.nil _ _ _⟩, Keeps.ofBelow ?_⟩
    all_goals
      (repeat (with_reducible first | exact hB1 | refine Below.drew ?_ | refine Below.setCell ?_ ?_ _))
      all_goals (first | omega | (simp <;> omega))
end Go.Proofs.YtfnephnecighaaaGreat

/- What is read from a value's own lists: a field's text, whether a text is there; and that there is no room. -/
namespace Go.Proofs.YtfnephnecighaaaGreat
open Go.RowKit
set_option linter.unusedVariables false

/-- A value comes back as it was, beside a reply of a code alone. -/
def Back (f : FuncId) (args : Array Value) (v : Value) (code : Int) (w : World) : Prop := Calls Tryz.prog f args w fun e w' => e = .returned (.tuple #[v, repV code ⟨#[]⟩ 0 (.slice none 0 0)]) ∧ Below w.heap.size w w'

set_option maxHeartbeats 1000000 in
theorem addItem_there (kind : Int) (text : ByteArray) (count : Int) (pa ia sa : Option Addr) (np pc ni ic ns sc : Nat) (i : Int) (t : ByteArray) (w : World) :
    Back 137 #[valV kind text count (.slice pa np pc) (.slice ia ni ic) (.slice sa ns sc), .int .i64 i, .bool true, .string t] (valV kind text count (.slice pa np pc) (.slice ia ni ic) (.slice sa ns sc)) 0 w := by
  unfold Back
  go_enter Tryz.func137, Tryz.ntmps137
  go_wp2_with fail
  refine bodyPost_ret (v := .tuple #[valV kind text count (.slice pa np pc) (.slice ia ni ic) (.slice sa ns sc), repV 0 ⟨#[]⟩ 0 (.slice none 0 0)]) (by simp [results, Tryz.results137, go_sem]) rfl ⟨rfl, ?_⟩
  (repeat (with_reducible first | exact balloc _ _ | refine Below.drew ?_ | refine Below.setCell ?_ ?_ _ | refine Below.alloc ?_ ?_ _))
  all_goals (first | omega | (simp <;> omega))

set_option maxHeartbeats 1000000 in
theorem addItem_full (x : Val) (i : Int) (t : ByteArray) (W : World) (ps is ss : Value) (hm : 20 ≤ x.size) (hl : Lists W ps is ss x) :
    Back 137 #[valV x.kind x.text x.count ps is ss, .int .i64 i, .bool false, .string t] (valV x.kind x.text x.count ps is ss) 6 W := by
  have hrep : Reps W (valV x.kind x.text x.count ps is ss) x := ⟨_, _, _, rfl, hl⟩
  unfold Back
  obtain ⟨pa, pc, ia, ic, sa, sc, rfl, rfl, rfl⟩ := hl.shapes
  obtain ⟨n0, n1, n2, hb0, hz0⟩ := three_at W (valO x.kind x.text x.count (.slice pa x.pairs.length pc) (.slice ia x.items.length ic) (.slice sa x.scores.length sc)) (valO 0 ⟨#[]⟩ 0 (.slice none 0 0) (.slice none 0 0) (.slice none 0 0)) (repO 0 ⟨#[]⟩ 0 (.slice none 0 0))
  have hF := isFull_any _ x _ (hrep.below hb0)
  rw [show decide (20 ≤ x.size) = true by simpa using hm] at hF
  clear hrep hl
  go_enter Tryz.func137, Tryz.ntmps137
  go_wp2_with fail
  refine hF.mono ?_
  rintro e w1 ⟨rfl, hb1⟩
  have hB1 := bstep hb0 hb1
  have sz1 : W.heap.size + 3 ≤ w1.heap.size := by rw [← hz0]; exact hb1.size
  have m0 := (hb1.block W.heap.size (by omega)).trans n0
  have m1 := (hb1.block (W.heap.size + 1) (by omega)).trans n1
  have m2 := (hb1.block (W.heap.size + 1 + 1) (by omega)).trans n2
  clear n0 n1 n2 hb1 hF hz0 hb0
  obtain ⟨c0, f0⟩ := block_cells m0
  obtain ⟨c1, f1⟩ := block_cells m1
  obtain ⟨c2, f2⟩ := block_cells m2
  clear m0 m1 m2
  go_wp2_with fail
  refine bodyPost_ret (v := .tuple #[valV x.kind x.text x.count (.slice pa x.pairs.length pc) (.slice ia x.items.length ic) (.slice sa x.scores.length sc), repV 6 ⟨#[]⟩ 0 (.slice none 0 0)]) (by simp [results, Tryz.results137, go_sem, c1, c2]) rfl ⟨rfl, ?_⟩
  (repeat (with_reducible first | exact hB1 | refine Below.drew ?_ | refine Below.setCell ?_ ?_ _))
  all_goals (first | omega | (simp <;> omega))
set_option maxHeartbeats 1000000 in
theorem insertItem_full (x : Val) (i : Int) (t : ByteArray) (W : World) (ps is ss : Value) (hm : 20 ≤ x.size) (hl : Lists W ps is ss x) :
    Back 134 #[valV x.kind x.text x.count ps is ss, .int .i64 i, .string t] (valV x.kind x.text x.count ps is ss) 6 W := by
  have hrep : Reps W (valV x.kind x.text x.count ps is ss) x := ⟨_, _, _, rfl, hl⟩
  unfold Back
  obtain ⟨pa, pc, ia, ic, sa, sc, rfl, rfl, rfl⟩ := hl.shapes
  obtain ⟨n0, n1, n2, hb0, hz0⟩ := three_at W (valO x.kind x.text x.count (.slice pa x.pairs.length pc) (.slice ia x.items.length ic) (.slice sa x.scores.length sc)) (valO 0 ⟨#[]⟩ 0 (.slice none 0 0) (.slice none 0 0) (.slice none 0 0)) (repO 0 ⟨#[]⟩ 0 (.slice none 0 0))
  have hF := isFull_any _ x _ (hrep.below hb0)
  rw [show decide (20 ≤ x.size) = true by simpa using hm] at hF
  clear hrep hl
  go_enter Tryz.func134, Tryz.ntmps134
  go_wp2_with fail
  refine hF.mono ?_
  rintro e w1 ⟨rfl, hb1⟩
  have hB1 := bstep hb0 hb1
  have sz1 : W.heap.size + 3 ≤ w1.heap.size := by rw [← hz0]; exact hb1.size
  have m0 := (hb1.block W.heap.size (by omega)).trans n0
  have m1 := (hb1.block (W.heap.size + 1) (by omega)).trans n1
  have m2 := (hb1.block (W.heap.size + 1 + 1) (by omega)).trans n2
  clear n0 n1 n2 hb1 hF hz0 hb0
  obtain ⟨c0, f0⟩ := block_cells m0
  obtain ⟨c1, f1⟩ := block_cells m1
  obtain ⟨c2, f2⟩ := block_cells m2
  clear m0 m1 m2
  go_wp2_with fail
  refine bodyPost_ret (v := .tuple #[valV x.kind x.text x.count (.slice pa x.pairs.length pc) (.slice ia x.items.length ic) (.slice sa x.scores.length sc), repV 6 ⟨#[]⟩ 0 (.slice none 0 0)]) (by simp [results, Tryz.results134, go_sem, c1, c2]) rfl ⟨rfl, ?_⟩
  (repeat (with_reducible first | exact hB1 | refine Below.drew ?_ | refine Below.setCell ?_ ?_ _))
  all_goals (first | omega | (simp <;> omega))
set_option maxHeartbeats 1000000 in
theorem setField_full (x : Val) (i : Int) (t : ByteArray × ByteArray) (W : World) (ps is ss : Value) (hm : 20 ≤ x.size) (hl : Lists W ps is ss x) :
    Back 131 #[valV x.kind x.text x.count ps is ss, .int .i64 i, .bool false, valP t] (valV x.kind x.text x.count ps is ss) 6 W := by
  have hrep : Reps W (valV x.kind x.text x.count ps is ss) x := ⟨_, _, _, rfl, hl⟩
  unfold Back
  obtain ⟨pa, pc, ia, ic, sa, sc, rfl, rfl, rfl⟩ := hl.shapes
  obtain ⟨n0, -, n1, n2, hb0, hz0⟩ := four_at W (valO x.kind x.text x.count (.slice pa x.pairs.length pc) (.slice ia x.items.length ic) (.slice sa x.scores.length sc)) (.cells #[.string t.1, .string t.2] 67) (valO 0 ⟨#[]⟩ 0 (.slice none 0 0) (.slice none 0 0) (.slice none 0 0)) (repO 0 ⟨#[]⟩ 0 (.slice none 0 0))
  have hF := isFull_any _ x _ (hrep.below hb0)
  rw [show decide (20 ≤ x.size) = true by simpa using hm] at hF
  clear hrep hl
  go_enter Tryz.func131, Tryz.ntmps131
  go_wp2_with fail
  refine hF.mono ?_
  rintro e w1 ⟨rfl, hb1⟩
  have hB1 := bstep hb0 hb1
  have sz1 : W.heap.size + 4 ≤ w1.heap.size := by rw [← hz0]; exact hb1.size
  have m0 := (hb1.block W.heap.size (by omega)).trans n0
  have m1 := (hb1.block (W.heap.size + 1 + 1) (by omega)).trans n1
  have m2 := (hb1.block (W.heap.size + 1 + 1 + 1) (by omega)).trans n2
  clear n0 n1 n2 hb1 hF hz0 hb0
  obtain ⟨c0, f0⟩ := block_cells m0
  obtain ⟨c1, f1⟩ := block_cells m1
  obtain ⟨c2, f2⟩ := block_cells m2
  clear m0 m1 m2
  go_wp2_with fail
  refine bodyPost_ret (v := .tuple #[valV x.kind x.text x.count (.slice pa x.pairs.length pc) (.slice ia x.items.length ic) (.slice sa x.scores.length sc), repV 6 ⟨#[]⟩ 0 (.slice none 0 0)]) (by simp [results, Tryz.results131, go_sem, c1, c2]) rfl ⟨rfl, ?_⟩
  (repeat (with_reducible first | exact hB1 | refine Below.drew ?_ | refine Below.setCell ?_ ?_ _))
  all_goals (first | omega | (simp <;> omega))

set_option maxHeartbeats 4000000 in
theorem set_has (x : Val) (c : Cmd) (p : Nat) (hk : c.k = 13) (hm : x.size ≤ 1048576) (hp : Parts (fun q : ByteArray => cmpS q c.txt) x.items p) (hh : hitB (fun q : ByteArray => cmpS q c.txt) x.items p = true) :
    Does 98 x c x { n := 1 } := by
  intro B N W ps is ss hBN hN ho op oi os
  have hmL : x.items.length ≤ 140737488355328 := by unfold Val.size at hm; omega
  have hfin := fun w' (hb : Below W.heap.size W w') => ho.repsA (N := N) (M := W.heap.size) hm hb op oi os
  have n4 : (c.k == 11) = false := by simp [hk]
  have n5 : (c.k == 12) = false := by simp [hk]
  obtain ⟨pa, pc, ia, ic, sa, sc, rfl, rfl, rfl⟩ := ho.shapes
  obtain ⟨n0, n1, n2, n3, hb0, hz0⟩ := four_at W (valO x.kind x.text x.count (.slice pa x.pairs.length pc) (.slice ia x.items.length ic) (.slice sa x.scores.length sc)) (cmdC c) (valO 0 ⟨#[]⟩ 0 (.slice none 0 0) (.slice none 0 0) (.slice none 0 0)) (repO 0 ⟨#[]⟩ 0 (.slice none 0 0))
  have hBS := bsearchI c.txt (.slice ia x.items.length ic) x.items p _ ((RowAt.ofOwn lenI ho.i.1 hmL).below hb0) hp
  rw [hh] at hBS
  have HF : Hid (∀ w', Below W.heap.size W w' → RepsA B N W.heap.size w' (valV x.kind x.text x.count (.slice pa x.pairs.length pc) (.slice ia x.items.length ic) (.slice sa x.scores.length sc)) x) := hfin
  clear hp hh hk hfin ho
  go_enter Tryz.func98, Tryz.ntmps98
  go_wp2_with fail
  refine hBS.mono ?_
  rintro e w1 ⟨rfl, hb1⟩
  have hB1 := bstep hb0 hb1
  have sz1 : W.heap.size + 4 ≤ w1.heap.size := by rw [← hz0]; exact hb1.size
  have m0 := (hb1.block W.heap.size (by omega)).trans n0
  have m1 := (hb1.block (W.heap.size + 1) (by omega)).trans n1
  have m2 := (hb1.block (W.heap.size + 1 + 1) (by omega)).trans n2
  have m3 := (hb1.block (W.heap.size + 1 + 1 + 1) (by omega)).trans n3
  clear n0 n1 n2 n3 hb1 hBS hz0 hb0
  obtain ⟨c0, f0⟩ := block_cells m0
  obtain ⟨c1, f1⟩ := block_cells m1
  obtain ⟨c2, f2⟩ := block_cells m2
  obtain ⟨c3, f3⟩ := block_cells m3
  clear m0 m1 m2 m3
  go_wp2_with fail
  go_region_with (go_at_call 133; refine (number_any _ _).mono ?_; rintro e w3 ⟨rfl, rfl⟩)
  all_goals
    go_wp2_with fail
    refine bodyPost_ret (v := .tuple #[valV x.kind x.text x.count (.slice pa x.pairs.length pc) (.slice ia x.items.length ic) (.slice sa x.scores.length sc), repV 0 ⟨#[]⟩ 1 (.slice none 0 0)]) (by simp [results, Tryz.results98, go_sem, c2, c3]) rfl ⟨_, _, rfl, HF.out _ ?_, ⟨_, rfl, RowAt.nil _ _ _, In.nil _ _ _⟩, Keeps.ofBelow ?_⟩
    all_goals
      (repeat (with_reducible first | exact hB1 | refine Below.drew ?_ | refine Below.setCell ?_ ?_ _))
      all_goals (first | omega | (simp <;> omega))

set_option maxHeartbeats 4000000 in
theorem hash_get (x : Val) (c : Cmd) (p : Nat) (hk : c.k = 5) (hm : x.size ≤ 1048576) (hp : Parts (fun q : ByteArray × ByteArray => cmpS q.1 c.fld) x.pairs p) (hpl : p < x.pairs.length) (hh : hitB (fun q : ByteArray × ByteArray => cmpS q.1 c.fld) x.pairs p = true) :
    Does 96 x c x { text := x.pairs[p].2 } := by
  intro B N W ps is ss hBN hN ho op oi os
  have hmL : x.pairs.length ≤ 140737488355328 := by unfold Val.size at hm; omega
  have hfin := fun w' (hb : Below W.heap.size W w') => ho.repsA (N := N) (M := W.heap.size) hm hb op oi os
  have n4 : (c.k == 4) = false := by simp [hk]
  have n5 : (c.k == 5) = true := by simp [hk]
  obtain ⟨pa, pc, ia, ic, sa, sc, rfl, rfl, rfl⟩ := ho.shapes
  obtain ⟨g, pc', S, he, hgB, hgb, hc1, hc2, hc3⟩ := own_open ho.p.1 (by omega)
  obtain ⟨rfl, rfl⟩ : pa = some ⟨g, 0, none⟩ ∧ pc = pc' := by cases he; exact ⟨rfl, rfl⟩
  clear he
  obtain ⟨n0, n1, n2, n3, hb0, hz0⟩ := four_at W (valO x.kind x.text x.count (.slice (some ⟨g, 0, none⟩) x.pairs.length pc) (.slice ia x.items.length ic) (.slice sa x.scores.length sc)) (cmdC c) (valO 0 ⟨#[]⟩ 0 (.slice none 0 0) (.slice none 0 0) (.slice none 0 0)) (repO 0 ⟨#[]⟩ 0 (.slice none 0 0))
  have hBS := bsearchP 130 #[] c.fld (fun q => cmpS q.1 c.fld) pairCmp_enter (.slice (some ⟨g, 0, none⟩) x.pairs.length pc) x.pairs p _ ((RowAt.ofOwn lenP ho.p.1 hmL).below hb0) (pairCmp_of c.fld _) hp
  rw [hh] at hBS
  have hgl : g < W.heap.size := (Array.getElem?_eq_some_iff.1 hgb).1
  have HF : Hid (∀ w', Below W.heap.size W w' → RepsA B N W.heap.size w' (valV x.kind x.text x.count (.slice (some ⟨g, 0, none⟩) x.pairs.length pc) (.slice ia x.items.length ic) (.slice sa x.scores.length sc)) x) := hfin
  clear hp hh hk hfin ho
  go_enter Tryz.func96, Tryz.ntmps96
  go_wp2_with fail
  refine hBS.mono ?_
  rintro e w1 ⟨rfl, hb1⟩
  have hB1 := bstep hb0 hb1
  have cI : w1.cell? ⟨g, p * 2 + 1, none⟩ = some (.string x.pairs[p].2) := by
    rw [World.cell?_of_block (a := ⟨g, p * 2 + 1, none⟩) (hB1.block g hgl), (block_cells hgb).1 (p * 2 + 1)]
    have := flat_get 2 encP lenP x.pairs p hpl 1 (by omega)
    rw [List.getElem?_toArray, List.getElem?_append_left (by rw [flat_length lenP]; omega)]
    simpa [encP] using this
  have sz1 : W.heap.size + 4 ≤ w1.heap.size := by rw [← hz0]; exact hb1.size
  have m0 := (hb1.block W.heap.size (by omega)).trans n0
  have m1 := (hb1.block (W.heap.size + 1) (by omega)).trans n1
  have m2 := (hb1.block (W.heap.size + 1 + 1) (by omega)).trans n2
  have m3 := (hb1.block (W.heap.size + 1 + 1 + 1) (by omega)).trans n3
  clear n0 n1 n2 n3 hb1 hBS hz0 hb0 hgb hc3
  obtain ⟨c0, f0⟩ := block_cells m0
  obtain ⟨c1, f1⟩ := block_cells m1
  obtain ⟨c2, f2⟩ := block_cells m2
  obtain ⟨c3, f3⟩ := block_cells m3
  clear m0 m1 m2 m3
  have hil : (p : Int) < (x.pairs.length : Int) := by omega
  have hi0 : (0 : Int) ≤ (p : Int) := by omega
  go_wp2_with fail
  go_region
  all_goals
    go_wp2_with fail
    refine bodyPost_ret (v := .tuple #[valV x.kind x.text x.count (.slice (some ⟨g, 0, none⟩) x.pairs.length pc) (.slice ia x.items.length ic) (.slice sa x.scores.length sc), repV 0 x.pairs[p].2 0 (.slice none 0 0)]) (by simp [results, Tryz.results96, go_sem, c2, c3]) rfl ⟨_, _, rfl, HF.out _ ?_, ⟨_, rfl, RowAt.nil _ _ _, In.nil _ _ _⟩, Keeps.ofBelow ?_⟩
    all_goals
      (repeat (with_reducible first | exact hB1 | refine Below.drew ?_ | refine Below.setCell ?_ ?_ _))
      all_goals (first | omega | (simp <;> omega))

set_option maxHeartbeats 4000000 in
theorem set_add_there (x : Val) (c : Cmd) (p : Nat) (hk : c.k = 11) (hm : x.size ≤ 1048576) (hp : Parts (fun q : ByteArray => cmpS q c.txt) x.items p) (hh : hitB (fun q : ByteArray => cmpS q c.txt) x.items p = true) :
    Does 98 x c x {} := by
  intro B N W ps is ss hBN hN ho op oi os
  have hmL : x.items.length ≤ 140737488355328 := by unfold Val.size at hm; omega
  have hls := ho.lists hm
  have hfin := fun w' (hb : Below W.heap.size W w') => ho.repsA (N := N) (M := W.heap.size) hm hb op oi os
  have n4 : (c.k == 11) = true := by simp [hk]
  obtain ⟨pa, pc, ia, ic, sa, sc, rfl, rfl, rfl⟩ := ho.shapes
  obtain ⟨n0, n1, n2, n3, hb0, hz0⟩ := four_at W (valO x.kind x.text x.count (.slice pa x.pairs.length pc) (.slice ia x.items.length ic) (.slice sa x.scores.length sc)) (cmdC c) (valO 0 ⟨#[]⟩ 0 (.slice none 0 0) (.slice none 0 0) (.slice none 0 0)) (repO 0 ⟨#[]⟩ 0 (.slice none 0 0))
  have hBS := bsearchI c.txt (.slice ia x.items.length ic) x.items p _ ((RowAt.ofOwn lenI ho.i.1 hmL).below hb0) hp
  rw [hh] at hBS
  have HF : Hid (∀ w', Below W.heap.size W w' → RepsA B N W.heap.size w' (valV x.kind x.text x.count (.slice pa x.pairs.length pc) (.slice ia x.items.length ic) (.slice sa x.scores.length sc)) x) := hfin
  clear hp hh hk hfin ho
  go_enter Tryz.func98, Tryz.ntmps98
  go_wp2_with fail
  refine hBS.mono ?_
  rintro e w1 ⟨rfl, hb1⟩
  have hB1 := bstep hb0 hb1
  have hC := addItem_there x.kind x.text x.count pa ia sa x.pairs.length pc x.items.length ic x.scores.length sc p c.txt w1
  unfold Back at hC
  have sz1 : W.heap.size + 4 ≤ w1.heap.size := by rw [← hz0]; exact hb1.size
  have m0 := (hb1.block W.heap.size (by omega)).trans n0
  have m1 := (hb1.block (W.heap.size + 1) (by omega)).trans n1
  have m2 := (hb1.block (W.heap.size + 1 + 1) (by omega)).trans n2
  have m3 := (hb1.block (W.heap.size + 1 + 1 + 1) (by omega)).trans n3
  clear n0 n1 n2 n3 hb1 hBS hz0 hb0 hls
  obtain ⟨c0, f0⟩ := block_cells m0
  obtain ⟨c1, f1⟩ := block_cells m1
  go_wp2_with fail
  refine hC.mono ?_
  rintro e w2 ⟨rfl, hb2⟩
  have hB2 := bstep hB1 hb2
  have sz2 := hb2.size
  obtain ⟨c2, f2⟩ := block_cells ((hb2.block _ (by omega)).trans m2)
  obtain ⟨c3, f3⟩ := block_cells ((hb2.block _ (by omega)).trans m3)
  clear m0 m1 m2 m3 c0 f0 c1 f1 hC hb2
  go_wp2_with fail
  refine bodyPost_ret (v := .tuple #[valV x.kind x.text x.count (.slice pa x.pairs.length pc) (.slice ia x.items.length ic) (.slice sa x.scores.length sc), repV 0 ⟨#[]⟩ 0 (.slice none 0 0)]) (by simp [results, Tryz.results98, go_sem, c2, c3]) rfl ⟨_, _, rfl, HF.out _ ?_, ⟨_, rfl, RowAt.nil _ _ _, In.nil _ _ _⟩, Keeps.ofBelow ?_⟩
  all_goals
    (repeat (with_reducible first | exact hB2 | refine Below.drew ?_ | refine Below.setCell ?_ ?_ _))
    all_goals (first | omega | (simp <;> omega))
set_option maxHeartbeats 4000000 in
theorem set_full (x : Val) (c : Cmd) (p : Nat) (hk : c.k = 11) (hm : x.size ≤ 1048576) (hf : 20 ≤ x.size) (hp : Parts (fun q : ByteArray => cmpS q c.txt) x.items p) (hh : hitB (fun q : ByteArray => cmpS q c.txt) x.items p = false) :
    Does 98 x c x { code := 6 } := by
  intro B N W ps is ss hBN hN ho op oi os
  have hmL : x.items.length ≤ 140737488355328 := by unfold Val.size at hm; omega
  have hls := ho.lists hm
  have hfin := fun w' (hb : Below W.heap.size W w') => ho.repsA (N := N) (M := W.heap.size) hm hb op oi os
  have n4 : (c.k == 11) = true := by simp [hk]
  obtain ⟨pa, pc, ia, ic, sa, sc, rfl, rfl, rfl⟩ := ho.shapes
  obtain ⟨n0, n1, n2, n3, hb0, hz0⟩ := four_at W (valO x.kind x.text x.count (.slice pa x.pairs.length pc) (.slice ia x.items.length ic) (.slice sa x.scores.length sc)) (cmdC c) (valO 0 ⟨#[]⟩ 0 (.slice none 0 0) (.slice none 0 0) (.slice none 0 0)) (repO 0 ⟨#[]⟩ 0 (.slice none 0 0))
  have hBS := bsearchI c.txt (.slice ia x.items.length ic) x.items p _ ((RowAt.ofOwn lenI ho.i.1 hmL).below hb0) hp
  rw [hh] at hBS
  have HF : Hid (∀ w', Below W.heap.size W w' → RepsA B N W.heap.size w' (valV x.kind x.text x.count (.slice pa x.pairs.length pc) (.slice ia x.items.length ic) (.slice sa x.scores.length sc)) x) := hfin
  clear hp hh hk hfin ho
  go_enter Tryz.func98, Tryz.ntmps98
  go_wp2_with fail
  refine hBS.mono ?_
  rintro e w1 ⟨rfl, hb1⟩
  have hB1 := bstep hb0 hb1
  have hC := addItem_full x p c.txt w1 _ _ _ hf (hls.below hB1)
  unfold Back at hC
  have sz1 : W.heap.size + 4 ≤ w1.heap.size := by rw [← hz0]; exact hb1.size
  have m0 := (hb1.block W.heap.size (by omega)).trans n0
  have m1 := (hb1.block (W.heap.size + 1) (by omega)).trans n1
  have m2 := (hb1.block (W.heap.size + 1 + 1) (by omega)).trans n2
  have m3 := (hb1.block (W.heap.size + 1 + 1 + 1) (by omega)).trans n3
  clear n0 n1 n2 n3 hb1 hBS hz0 hb0 hls
  obtain ⟨c0, f0⟩ := block_cells m0
  obtain ⟨c1, f1⟩ := block_cells m1
  go_wp2_with fail
  refine hC.mono ?_
  rintro e w2 ⟨rfl, hb2⟩
  have hB2 := bstep hB1 hb2
  have sz2 := hb2.size
  obtain ⟨c2, f2⟩ := block_cells ((hb2.block _ (by omega)).trans m2)
  obtain ⟨c3, f3⟩ := block_cells ((hb2.block _ (by omega)).trans m3)
  clear m0 m1 m2 m3 c0 f0 c1 f1 hC hb2
  go_wp2_with fail
  refine bodyPost_ret (v := .tuple #[valV x.kind x.text x.count (.slice pa x.pairs.length pc) (.slice ia x.items.length ic) (.slice sa x.scores.length sc), repV 6 ⟨#[]⟩ 0 (.slice none 0 0)]) (by simp [results, Tryz.results98, go_sem, c2, c3]) rfl ⟨_, _, rfl, HF.out _ ?_, ⟨_, rfl, RowAt.nil _ _ _, In.nil _ _ _⟩, Keeps.ofBelow ?_⟩
  all_goals
    (repeat (with_reducible first | exact hB2 | refine Below.drew ?_ | refine Below.setCell ?_ ?_ _))
    all_goals (first | omega | (simp <;> omega))

set_option maxHeartbeats 4000000 in
theorem list_push_full (x : Val) (c : Cmd) (hk : c.k = 7) (hm : x.size ≤ 1048576) (hf : 20 ≤ x.size) : Does 97 x c x { code := 6 } := by
  intro B N W ps is ss hBN hN ho op oi os
  have n7 : (c.k == 7) = true := (by simp [hk])
  have hls := ho.lists hm
  have hfin := fun w' (hb : Below W.heap.size W w') => ho.repsA (N := N) (M := W.heap.size) hm hb op oi os
  obtain ⟨pa, pc, ia, ic, sa, sc, rfl, rfl, rfl⟩ := ho.shapes
  obtain ⟨n0, n1, n2, n3, hb0, hz0⟩ := four_at W (valO x.kind x.text x.count (.slice pa x.pairs.length pc) (.slice ia x.items.length ic) (.slice sa x.scores.length sc)) (cmdC c) (valO 0 ⟨#[]⟩ 0 (.slice none 0 0) (.slice none 0 0) (.slice none 0 0)) (repO 0 ⟨#[]⟩ 0 (.slice none 0 0))
  have hC := insertItem_full x (x.items.length) c.txt _ _ _ _ hf (hls.below hb0)
  unfold Back at hC
  have HF : Hid (∀ w', Below W.heap.size W w' → RepsA B N W.heap.size w' (valV x.kind x.text x.count (.slice pa x.pairs.length pc) (.slice ia x.items.length ic) (.slice sa x.scores.length sc)) x) := hfin
  clear hk ho hfin hls
  go_enter Tryz.func97, Tryz.ntmps97
  go_wp2_with fail
  refine hC.mono ?_
  rintro e w2 ⟨rfl, hb2⟩
  have hB2 := bstep hb0 hb2
  have sz2 := hb2.size
  obtain ⟨c2, f2⟩ := block_cells ((hb2.block _ (by omega)).trans n2)
  obtain ⟨c3, f3⟩ := block_cells ((hb2.block _ (by omega)).trans n3)
  clear n0 n1 n2 n3 hC hb2
  go_wp2_with fail
  refine bodyPost_ret (v := .tuple #[valV x.kind x.text x.count (.slice pa x.pairs.length pc) (.slice ia x.items.length ic) (.slice sa x.scores.length sc), repV 6 ⟨#[]⟩ 0 (.slice none 0 0)]) (by simp [results, Tryz.results97, go_sem, c2, c3]) rfl ⟨_, _, rfl, HF.out _ ?_, ⟨_, rfl, RowAt.nil _ _ _, In.nil _ _ _⟩, Keeps.ofBelow ?_⟩
  all_goals
    (repeat (with_reducible first | exact hB2 | refine Below.drew ?_ | refine Below.setCell ?_ ?_ _))
    all_goals (first | omega | (simp <;> omega))
set_option maxHeartbeats 4000000 in
theorem list_front_full (x : Val) (c : Cmd) (hk : c.k = 8) (hm : x.size ≤ 1048576) (hf : 20 ≤ x.size) : Does 97 x c x { code := 6 } := by
  intro B N W ps is ss hBN hN ho op oi os
  have n7 : (c.k == 7) = false := (by simp [hk]); have n8 : (c.k == 8) = true := (by simp [hk])
  have hls := ho.lists hm
  have hfin := fun w' (hb : Below W.heap.size W w') => ho.repsA (N := N) (M := W.heap.size) hm hb op oi os
  obtain ⟨pa, pc, ia, ic, sa, sc, rfl, rfl, rfl⟩ := ho.shapes
  obtain ⟨n0, n1, n2, n3, hb0, hz0⟩ := four_at W (valO x.kind x.text x.count (.slice pa x.pairs.length pc) (.slice ia x.items.length ic) (.slice sa x.scores.length sc)) (cmdC c) (valO 0 ⟨#[]⟩ 0 (.slice none 0 0) (.slice none 0 0) (.slice none 0 0)) (repO 0 ⟨#[]⟩ 0 (.slice none 0 0))
  have hC := insertItem_full x (0) c.txt _ _ _ _ hf (hls.below hb0)
  unfold Back at hC
  have HF : Hid (∀ w', Below W.heap.size W w' → RepsA B N W.heap.size w' (valV x.kind x.text x.count (.slice pa x.pairs.length pc) (.slice ia x.items.length ic) (.slice sa x.scores.length sc)) x) := hfin
  clear hk ho hfin hls
  go_enter Tryz.func97, Tryz.ntmps97
  go_wp2_with fail
  refine hC.mono ?_
  rintro e w2 ⟨rfl, hb2⟩
  have hB2 := bstep hb0 hb2
  have sz2 := hb2.size
  obtain ⟨c2, f2⟩ := block_cells ((hb2.block _ (by omega)).trans n2)
  obtain ⟨c3, f3⟩ := block_cells ((hb2.block _ (by omega)).trans n3)
  clear n0 n1 n2 n3 hC hb2
  go_wp2_with fail
  refine bodyPost_ret (v := .tuple #[valV x.kind x.text x.count (.slice pa x.pairs.length pc) (.slice ia x.items.length ic) (.slice sa x.scores.length sc), repV 6 ⟨#[]⟩ 0 (.slice none 0 0)]) (by simp [results, Tryz.results97, go_sem, c2, c3]) rfl ⟨_, _, rfl, HF.out _ ?_, ⟨_, rfl, RowAt.nil _ _ _, In.nil _ _ _⟩, Keeps.ofBelow ?_⟩
  all_goals
    (repeat (with_reducible first | exact hB2 | refine Below.drew ?_ | refine Below.setCell ?_ ?_ _))
    all_goals (first | omega | (simp <;> omega))
end Go.Proofs.YtfnephnecighaaaGreat
