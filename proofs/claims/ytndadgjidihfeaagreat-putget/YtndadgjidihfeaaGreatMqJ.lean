/- What a command makes of a value, as plain functions of lists. -/
import Derived.Test.YtndadgjidihfeaaGreatMpJ
import Derived.Test.YtndadgjidihfeaaGreatPfJ
namespace Go.Proofs.YtndadgjidihfeaaGreat
open Go.RowKit
set_option linter.unusedVariables false

abbrev cmF (t : ByteArray) : ByteArray × ByteArray → Int := fun q => cmpS q.1 t
abbrev cmT (t : ByteArray) : ByteArray → Int := fun q => cmpS q t
abbrev cmZ (s : ByteArray × Int) : ByteArray × Int → Int := fun q => cmpSc q s

def cutAt {α : Type} (l : List α) (p : Nat) : List α := l.take p ++ l.drop (p + 1)
def layAt {α : Type} (l : List α) (p : Nat) (x : α) : List α := l.take p ++ x :: l.drop p

def hashV (x : Val) (c : Cmd) : Val × Rep :=
  if hitB (cmF c.fld) x.pairs (posOf (cmF c.fld) x.pairs) = true then
    if c.k = 4 then ({ x with pairs := x.pairs.set (posOf (cmF c.fld) x.pairs) (c.fld, c.txt) }, {})
    else if c.k = 5 then (x, { text := ((x.pairs[posOf (cmF c.fld) x.pairs]?).getD (⟨#[]⟩, ⟨#[]⟩)).2 })
    else ({ x with pairs := cutAt x.pairs (posOf (cmF c.fld) x.pairs) }, { n := 1 })
  else
    if c.k = 4 then if 20 ≤ x.size then (x, { code := 6 }) else ({ x with pairs := layAt x.pairs (posOf (cmF c.fld) x.pairs) (c.fld, c.txt) }, { n := 1 })
    else if c.k = 5 then (x, { code := 5 })
    else (x, {})

def listV (x : Val) (c : Cmd) : Val × Rep :=
  if c.k = 7 then if 20 ≤ x.size then (x, { code := 6 }) else ({ x with items := layAt x.items x.items.length c.txt }, { n := (x.items.length : Int) + 1 })
  else if c.k = 8 then if 20 ≤ x.size then (x, { code := 6 }) else ({ x with items := layAt x.items 0 c.txt }, { n := (x.items.length : Int) + 1 })
  else if c.k = 9 then ({ x with items := cutAt x.items (x.items.length - 1) }, { text := (x.items[x.items.length - 1]?).getD ⟨#[]⟩ })
  else ({ x with items := cutAt x.items 0 }, { text := (x.items[0]?).getD ⟨#[]⟩ })

def setV (x : Val) (c : Cmd) : Val × Rep :=
  if hitB (cmT c.txt) x.items (posOf (cmT c.txt) x.items) = true then
    if c.k = 11 then (x, {})
    else if c.k = 12 then ({ x with items := cutAt x.items (posOf (cmT c.txt) x.items) }, { n := 1 })
    else (x, { n := 1 })
  else
    if c.k = 11 then if 20 ≤ x.size then (x, { code := 6 }) else ({ x with items := layAt x.items (posOf (cmT c.txt) x.items) c.txt }, { n := 1 })
    else (x, {})

/-- Scores without a member's. -/
def without (t : ByteArray) (l : List (ByteArray × Int)) : List (ByteArray × Int) := match l.findIdx? (isMember t) with | some i => cutAt l i | none => l
def rankV (x : Val) (c : Cmd) : Val × Rep :=
  match x.scores.findIdx? (isMember c.txt) with
  | some i =>
    if c.k = 14 then ({ x with scores := layAt (cutAt x.scores i) (posOf (cmZ (c.txt, c.n)) (cutAt x.scores i)) (c.txt, c.n) }, {})
    else if c.k = 15 then ({ x with scores := cutAt x.scores i }, { n := 1 })
    else (x, { n := (i : Int) })
  | none =>
    if c.k = 14 then if 20 ≤ x.size then (x, { code := 6 }) else ({ x with scores := layAt x.scores (posOf (cmZ (c.txt, c.n)) x.scores) (c.txt, c.n) }, { n := 1 })
    else if c.k = 15 then (x, {})
    else (x, { code := 5 })

def performV (x : Val) (c : Cmd) : Val × Rep :=
  if c.k = 1 then ({ emptyVal 1 with text := c.txt }, {})
  else if c.k = 2 then (x, { text := x.text })
  else if c.k = 3 then addV x c.n
  else if c.k = 17 then (x, { n := (x.size : Int) })
  else if c.k = 18 then (x, { list := x.names })
  else if x.kind = 3 then hashV x c else if x.kind = 4 then listV x c else if x.kind = 5 then setV x c else rankV x c

def answerV (x : Val) (c : Cmd) : Val × Rep :=
  if x.none = true then if makesB c.k = true then performV (emptyVal (kindOfI c.k)) c else (x, { code := 5 })
  else if fitsB x.kind c.k = true then performV x c else (x, { code := 4 })

def doV (x : Val) (c : Cmd) : Val :=
  if refusalI x c ≠ 0 then emptyVal 0 else if (answerV x c).2.code ≠ 0 then x else keptV (answerV x c).1
def doR (x : Val) (c : Cmd) : Rep :=
  if refusalI x c ≠ 0 then {} else if (answerV x c).2.code ≠ 0 then { code := (answerV x c).2.code } else (answerV x c).2
end Go.Proofs.YtndadgjidihfeaaGreat

/- What commands make of a value's own lists where nothing is changed: what was looked for is not there, or is read. -/
namespace Go.Proofs.YtndadgjidihfeaaGreat
open Go.RowKit
set_option linter.unusedVariables false

theorem OwnLists.repsA {B N M : Nat} {W w' : World} {ps is ss : Value} {x : Val} (ho : OwnLists B W ps is ss x) (hm : x.size ≤ 1048576) (hb : Below W.heap.size W w') (op : OwnIn N ps) (oi : OwnIn N is) (os : OwnIn N ss) : RepsA B N M w' (valV x.kind x.text x.count ps is ss) x :=
  ⟨_, _, _, rfl, (ho.lists hm).below hb, fun k hk => ⟨(ho.p.1.lt k hk).1, .inl (op k hk)⟩, fun k hk => ⟨(ho.i.1.lt k hk).1, .inl (oi k hk)⟩, fun k hk => ⟨(ho.s.1.lt k hk).1, .inl (os k hk)⟩⟩

set_option maxHeartbeats 4000000 in
theorem hash_get_miss (x : Val) (c : Cmd) (p : Nat) (hk : c.k = 5) (hm : x.size ≤ 1048576) (hp : Parts (fun q : ByteArray × ByteArray => cmpS q.1 c.fld) x.pairs p) (hh : hitB (fun q : ByteArray × ByteArray => cmpS q.1 c.fld) x.pairs p = false) :
    Does 92 x c x { code := 5 } := by
  intro B N W ps is ss hBN hN ho op oi os
  have hmL : x.pairs.length ≤ 140737488355328 := by unfold Val.size at hm; omega
  have hfin := fun w' (hb : Below W.heap.size W w') => ho.repsA (N := N) (M := W.heap.size) hm hb op oi os
  have n4 : (c.k == 4) = false := by simp [hk]
  have n5 : (c.k == 5) = true := by simp [hk]
  obtain ⟨pa, pc, ia, ic, sa, sc, rfl, rfl, rfl⟩ := ho.shapes
  obtain ⟨n0, n1, n2, n3, hb0, hz0⟩ := four_at W (valO x.kind x.text x.count (.slice pa x.pairs.length pc) (.slice ia x.items.length ic) (.slice sa x.scores.length sc)) (cmdC c) (valO 0 ⟨#[]⟩ 0 (.slice none 0 0) (.slice none 0 0) (.slice none 0 0)) (repO 0 ⟨#[]⟩ 0 (.slice none 0 0))
  have hBS := bsearchP 109 #[] c.fld (fun q => cmpS q.1 c.fld) pairCmp_enter (.slice pa x.pairs.length pc) x.pairs p _ ((RowAt.ofOwn lenP ho.p.1 hmL).below hb0) (pairCmp_of c.fld _) hp
  rw [hh] at hBS
  have HF : Hid (∀ w', Below W.heap.size W w' → RepsA B N W.heap.size w' (valV x.kind x.text x.count (.slice pa x.pairs.length pc) (.slice ia x.items.length ic) (.slice sa x.scores.length sc)) x) := hfin
  clear hp hh hk hfin ho
  go_enter Tryz.func92, Tryz.ntmps92
  go_wp2_with fail
  refine hBS.mono ?_
  rintro e w1 ⟨rfl, hb1⟩
  have hB1 := bstep hb0 hb1
  have sz1 : W.heap.size + 4 ≤ w1.heap.size := by rw [← hz0]; exact hb1.size
  have m0 := (hb1.block W.heap.size (by omega)).trans n0
  have m1 := (hb1.block (W.heap.size + 1) (by omega)).trans n1
  have m2 := (hb1.block (W.heap.size + 1 + 1) (by omega)).trans n2
  have m3 := (hb1.block (W.heap.size + 1 + 1 + 1) (by omega)).trans n3
  clear n0 n1 n2 n3 hb1 hBS hz0 hb0
  obtain ⟨c0, f0⟩ := block_cells m0
  obtain ⟨c1, f1⟩ := block_cells m1
  obtain ⟨c2, f2⟩ := block_cells m2
  obtain ⟨c3, f3⟩ := block_cells m3
  clear m0 m1 m2 m3
  go_wp2_with fail
  skip
  all_goals
    skip
    refine bodyPost_ret (v := .tuple #[valV x.kind x.text x.count (.slice pa x.pairs.length pc) (.slice ia x.items.length ic) (.slice sa x.scores.length sc), repV 5 ⟨#[]⟩ 0 (.slice none 0 0)]) (by simp [results, Tryz.results92, go_sem, c2, c3]) rfl ⟨_, _, rfl, HF.out _ ?_, ⟨_, rfl, RowAt.nil _ _ _, In.nil _ _ _⟩, Keeps.ofBelow ?_⟩
    all_goals
      (repeat (with_reducible first | exact hB1 | refine Below.drew ?_ | refine Below.setCell ?_ ?_ _))
      all_goals (first | omega | (simp <;> omega))
set_option maxHeartbeats 4000000 in
theorem hash_del_miss (x : Val) (c : Cmd) (p : Nat) (hk : c.k = 6) (hm : x.size ≤ 1048576) (hp : Parts (fun q : ByteArray × ByteArray => cmpS q.1 c.fld) x.pairs p) (hh : hitB (fun q : ByteArray × ByteArray => cmpS q.1 c.fld) x.pairs p = false) :
    Does 92 x c x {} := by
  intro B N W ps is ss hBN hN ho op oi os
  have hmL : x.pairs.length ≤ 140737488355328 := by unfold Val.size at hm; omega
  have hfin := fun w' (hb : Below W.heap.size W w') => ho.repsA (N := N) (M := W.heap.size) hm hb op oi os
  have n4 : (c.k == 4) = false := by simp [hk]
  have n5 : (c.k == 5) = false := by simp [hk]
  obtain ⟨pa, pc, ia, ic, sa, sc, rfl, rfl, rfl⟩ := ho.shapes
  obtain ⟨n0, n1, n2, n3, hb0, hz0⟩ := four_at W (valO x.kind x.text x.count (.slice pa x.pairs.length pc) (.slice ia x.items.length ic) (.slice sa x.scores.length sc)) (cmdC c) (valO 0 ⟨#[]⟩ 0 (.slice none 0 0) (.slice none 0 0) (.slice none 0 0)) (repO 0 ⟨#[]⟩ 0 (.slice none 0 0))
  have hBS := bsearchP 109 #[] c.fld (fun q => cmpS q.1 c.fld) pairCmp_enter (.slice pa x.pairs.length pc) x.pairs p _ ((RowAt.ofOwn lenP ho.p.1 hmL).below hb0) (pairCmp_of c.fld _) hp
  rw [hh] at hBS
  have HF : Hid (∀ w', Below W.heap.size W w' → RepsA B N W.heap.size w' (valV x.kind x.text x.count (.slice pa x.pairs.length pc) (.slice ia x.items.length ic) (.slice sa x.scores.length sc)) x) := hfin
  clear hp hh hk hfin ho
  go_enter Tryz.func92, Tryz.ntmps92
  go_wp2_with fail
  refine hBS.mono ?_
  rintro e w1 ⟨rfl, hb1⟩
  have hB1 := bstep hb0 hb1
  have sz1 : W.heap.size + 4 ≤ w1.heap.size := by rw [← hz0]; exact hb1.size
  have m0 := (hb1.block W.heap.size (by omega)).trans n0
  have m1 := (hb1.block (W.heap.size + 1) (by omega)).trans n1
  have m2 := (hb1.block (W.heap.size + 1 + 1) (by omega)).trans n2
  have m3 := (hb1.block (W.heap.size + 1 + 1 + 1) (by omega)).trans n3
  clear n0 n1 n2 n3 hb1 hBS hz0 hb0
  obtain ⟨c0, f0⟩ := block_cells m0
  obtain ⟨c1, f1⟩ := block_cells m1
  obtain ⟨c2, f2⟩ := block_cells m2
  obtain ⟨c3, f3⟩ := block_cells m3
  clear m0 m1 m2 m3
  go_wp2_with fail
  go_region_with (go_at_call 112; refine (number_any _ _).mono ?_; rintro e w3 ⟨rfl, rfl⟩)
  all_goals
    go_wp2_with fail
    refine bodyPost_ret (v := .tuple #[valV x.kind x.text x.count (.slice pa x.pairs.length pc) (.slice ia x.items.length ic) (.slice sa x.scores.length sc), repV 0 ⟨#[]⟩ 0 (.slice none 0 0)]) (by simp [results, Tryz.results92, go_sem, c2, c3]) rfl ⟨_, _, rfl, HF.out _ ?_, ⟨_, rfl, RowAt.nil _ _ _, In.nil _ _ _⟩, Keeps.ofBelow ?_⟩
    all_goals
      (repeat (with_reducible first | exact hB1 | refine Below.drew ?_ | refine Below.setCell ?_ ?_ _))
      all_goals (first | omega | (simp <;> omega))
set_option maxHeartbeats 4000000 in
theorem set_rem_miss (x : Val) (c : Cmd) (p : Nat) (hk : c.k = 12) (hm : x.size ≤ 1048576) (hp : Parts (fun q : ByteArray => cmpS q c.txt) x.items p) (hh : hitB (fun q : ByteArray => cmpS q c.txt) x.items p = false) :
    Does 94 x c x {} := by
  intro B N W ps is ss hBN hN ho op oi os
  have hmL : x.items.length ≤ 140737488355328 := by unfold Val.size at hm; omega
  have hfin := fun w' (hb : Below W.heap.size W w') => ho.repsA (N := N) (M := W.heap.size) hm hb op oi os
  have n4 : (c.k == 11) = false := by simp [hk]
  have n5 : (c.k == 12) = true := by simp [hk]
  obtain ⟨pa, pc, ia, ic, sa, sc, rfl, rfl, rfl⟩ := ho.shapes
  obtain ⟨n0, n1, n2, n3, hb0, hz0⟩ := four_at W (valO x.kind x.text x.count (.slice pa x.pairs.length pc) (.slice ia x.items.length ic) (.slice sa x.scores.length sc)) (cmdC c) (valO 0 ⟨#[]⟩ 0 (.slice none 0 0) (.slice none 0 0) (.slice none 0 0)) (repO 0 ⟨#[]⟩ 0 (.slice none 0 0))
  have hBS := bsearchI c.txt (.slice ia x.items.length ic) x.items p _ ((RowAt.ofOwn lenI ho.i.1 hmL).below hb0) hp
  rw [hh] at hBS
  have HF : Hid (∀ w', Below W.heap.size W w' → RepsA B N W.heap.size w' (valV x.kind x.text x.count (.slice pa x.pairs.length pc) (.slice ia x.items.length ic) (.slice sa x.scores.length sc)) x) := hfin
  clear hp hh hk hfin ho
  go_enter Tryz.func94, Tryz.ntmps94
  go_wp2_with fail
  refine hBS.mono ?_
  rintro e w1 ⟨rfl, hb1⟩
  have hB1 := bstep hb0 hb1
  have sz1 : W.heap.size + 4 ≤ w1.heap.size := by rw [← hz0]; exact hb1.size
  have m0 := (hb1.block W.heap.size (by omega)).trans n0
  have m1 := (hb1.block (W.heap.size + 1) (by omega)).trans n1
  have m2 := (hb1.block (W.heap.size + 1 + 1) (by omega)).trans n2
  have m3 := (hb1.block (W.heap.size + 1 + 1 + 1) (by omega)).trans n3
  clear n0 n1 n2 n3 hb1 hBS hz0 hb0
  obtain ⟨c0, f0⟩ := block_cells m0
  obtain ⟨c1, f1⟩ := block_cells m1
  obtain ⟨c2, f2⟩ := block_cells m2
  obtain ⟨c3, f3⟩ := block_cells m3
  clear m0 m1 m2 m3
  go_wp2_with fail
  go_region_with (go_at_call 112; refine (number_any _ _).mono ?_; rintro e w3 ⟨rfl, rfl⟩)
  all_goals
    go_wp2_with fail
    refine bodyPost_ret (v := .tuple #[valV x.kind x.text x.count (.slice pa x.pairs.length pc) (.slice ia x.items.length ic) (.slice sa x.scores.length sc), repV 0 ⟨#[]⟩ 0 (.slice none 0 0)]) (by simp [results, Tryz.results94, go_sem, c2, c3]) rfl ⟨_, _, rfl, HF.out _ ?_, ⟨_, rfl, RowAt.nil _ _ _, In.nil _ _ _⟩, Keeps.ofBelow ?_⟩
    all_goals
      (repeat (with_reducible first | exact hB1 | refine Below.drew ?_ | refine Below.setCell ?_ ?_ _))
      all_goals (first | omega | (simp <;> omega))
set_option maxHeartbeats 4000000 in
theorem set_has_miss (x : Val) (c : Cmd) (p : Nat) (hk : c.k = 13) (hm : x.size ≤ 1048576) (hp : Parts (fun q : ByteArray => cmpS q c.txt) x.items p) (hh : hitB (fun q : ByteArray => cmpS q c.txt) x.items p = false) :
    Does 94 x c x {} := by
  intro B N W ps is ss hBN hN ho op oi os
  have hmL : x.items.length ≤ 140737488355328 := by unfold Val.size at hm; omega
  have hfin := fun w' (hb : Below W.heap.size W w') => ho.repsA (N := N) (M := W.heap.size) hm hb op oi os
  have n4 : (c.k == 11) = false := by simp [hk]
  have n5 : (c.k == 12) = false := by simp [hk]
  obtain ⟨pa, pc, ia, ic, sa, sc, rfl, rfl, rfl⟩ := ho.shapes
  obtain ⟨n0, n1, n2, n3, hb0, hz0⟩ := four_at W (valO x.kind x.text x.count (.slice pa x.pairs.length pc) (.slice ia x.items.length ic) (.slice sa x.scores.length sc)) (cmdC c) (valO 0 ⟨#[]⟩ 0 (.slice none 0 0) (.slice none 0 0) (.slice none 0 0)) (repO 0 ⟨#[]⟩ 0 (.slice none 0 0))
  have hBS := bsearchI c.txt (.slice ia x.items.length ic) x.items p _ ((RowAt.ofOwn lenI ho.i.1 hmL).below hb0) hp
  rw [hh] at hBS
  have HF : Hid (∀ w', Below W.heap.size W w' → RepsA B N W.heap.size w' (valV x.kind x.text x.count (.slice pa x.pairs.length pc) (.slice ia x.items.length ic) (.slice sa x.scores.length sc)) x) := hfin
  clear hp hh hk hfin ho
  go_enter Tryz.func94, Tryz.ntmps94
  go_wp2_with fail
  refine hBS.mono ?_
  rintro e w1 ⟨rfl, hb1⟩
  have hB1 := bstep hb0 hb1
  have sz1 : W.heap.size + 4 ≤ w1.heap.size := by rw [← hz0]; exact hb1.size
  have m0 := (hb1.block W.heap.size (by omega)).trans n0
  have m1 := (hb1.block (W.heap.size + 1) (by omega)).trans n1
  have m2 := (hb1.block (W.heap.size + 1 + 1) (by omega)).trans n2
  have m3 := (hb1.block (W.heap.size + 1 + 1 + 1) (by omega)).trans n3
  clear n0 n1 n2 n3 hb1 hBS hz0 hb0
  obtain ⟨c0, f0⟩ := block_cells m0
  obtain ⟨c1, f1⟩ := block_cells m1
  obtain ⟨c2, f2⟩ := block_cells m2
  obtain ⟨c3, f3⟩ := block_cells m3
  clear m0 m1 m2 m3
  go_wp2_with fail
  go_region_with (go_at_call 112; refine (number_any _ _).mono ?_; rintro e w3 ⟨rfl, rfl⟩)
  all_goals
    go_wp2_with fail
    refine bodyPost_ret (v := .tuple #[valV x.kind x.text x.count (.slice pa x.pairs.length pc) (.slice ia x.items.length ic) (.slice sa x.scores.length sc), repV 0 ⟨#[]⟩ 0 (.slice none 0 0)]) (by simp [results, Tryz.results94, go_sem, c2, c3]) rfl ⟨_, _, rfl, HF.out _ ?_, ⟨_, rfl, RowAt.nil _ _ _, In.nil _ _ _⟩, Keeps.ofBelow ?_⟩
    all_goals
      (repeat (with_reducible first | exact hB1 | refine Below.drew ?_ | refine Below.setCell ?_ ?_ _))
      all_goals (first | omega | (simp <;> omega))
end Go.Proofs.YtndadgjidihfeaaGreat
