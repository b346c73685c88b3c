/- What a command makes of a value, as plain functions of lists. -/
import Derived.Test.YtfnephnecighaaaGreatMp
import Derived.Test.YtfnephnecighaaaGreatPc
namespace Go.Proofs.YtfnephnecighaaaGreat
open Go.RowKit
set_option linter.unusedVariables false

abbrev cmF (t : ByteArray) : ByteArray × ByteArray → Int := fun q => cmpS q.1 t
abbrev cmT (t : ByteArray) : ByteArray → Int := fun q => cmpS q t
abbrev cmZ (s : ByteArray × Int) : ByteArray × Int → Int := fun q => cmpSc q s

def cutAt {α : Type} (l : List α) (p : Nat) : List α := l.take p ++ l.drop (p + 1)
def layAt {α : Type} (l : List α) (p : Nat) (x : α) : List α := l.take p ++ x :: l.drop p

def hashV (x : Val) (c : Cmd) : Val × Rep :=
  if hitB (cmF c.fld) x.pairs (posOf (cmF c.fld) x.pairs) = true then
    if c.k = 4 then ({ x with pairs := x.pairs.set (posOf (cmF c.fld) x.pairs) (c.fld, c.txt) }, {})
    else if c.k = 5 then (x, { text := ((x.pairs[posOf (cmF c.fld) x.pairs]?).getD (⟨#[]⟩, ⟨#[]⟩)).2 })
    else ({ x with pairs := cutAt x.pairs (posOf (cmF c.fld) x.pairs) }, { n := 1 })
  else
    if c.k = 4 then if 20 ≤ x.size then (x, { code := 6 }) else ({ x with pairs := layAt x.pairs (posOf (cmF c.fld) x.pairs) (c.fld, c.txt) }, { n := 1 })
    else if c.k = 5 then (x, { code := 5 })
    else (x, {})

def listV (x : Val) (c : Cmd) : Val × Rep :=
  if c.k = 7 then if 20 ≤ x.size then (x, { code := 6 }) else ({ x with items := layAt x.items x.items.length c.txt }, { n := (x.items.length : Int) + 1 })
  else if c.k = 8 then if 20 ≤ x.size then (x, { code := 6 }) else ({ x with items := layAt x.items 0 c.txt }, { n := (x.items.length : Int) + 1 })
  else if c.k = 9 then ({ x with items := cutAt x.items (x.items.length - 1) }, { text := (x.items[x.items.length - 1]?).getD ⟨#[]⟩ })
  else ({ x with items := cutAt x.items 0 }, { text := (x.items[0]?).getD ⟨#[]⟩ })

def setV (x : Val) (c : Cmd) : Val × Rep :=
  if hitB (cmT c.txt) x.items (posOf (cmT c.txt) x.items) = true then
    if c.k = 11 then (x, {})
    else if c.k = 12 then ({ x with items := cutAt x.items (posOf (cmT c.txt) x.items) }, { n := 1 })
    else (x, { n := 1 })
  else
    if c.k = 11 then if 20 ≤ x.size then (x, { code := 6 }) else ({ x with items := layAt x.items (posOf (cmT c.txt) x.items) c.txt }, { n := 1 })
    else (x, {})

/-- Scores without a member's. -/
def without (t : ByteArray) (l : List (ByteArray × Int)) : List (ByteArray × Int) := match l.findIdx? (isMember t) with | some i => cutAt l i | none => l
def rankV (x : Val) (c : Cmd) : Val × Rep :=
  match x.scores.findIdx? (isMember c.txt) with
  | some i =>
    if c.k = 14 then ({ x with scores := layAt (cutAt x.scores i) (posOf (cmZ (c.txt, c.n)) (cutAt x.scores i)) (c.txt, c.n) }, {})
    else if c.k = 15 then ({ x with scores := cutAt x.scores i }, { n := 1 })
    else (x, { n := (i : Int) })
  | none =>
    if c.k = 14 then if 20 ≤ x.size then (x, { code := 6 }) else ({ x with scores := layAt x.scores (posOf (cmZ (c.txt, c.n)) x.scores) (c.txt, c.n) }, { n := 1 })
    else if c.k = 15 then (x, {})
    else (x, { code := 5 })

def performV (x : Val) (c : Cmd) : Val × Rep :=
  if c.k = 1 then ({ emptyVal 1 with text := c.txt }, {})
  else if c.k = 2 then (x, { text := x.text })
  else if c.k = 3 then addV x c.n
  else if c.k = 17 then (x, { n := (x.size : Int) })
  else if c.k = 18 then (x, { list := x.names })
  else if x.kind = 3 then hashV x c else if x.kind = 4 then listV x c else if x.kind = 5 then setV x c else rankV x c

def answerV (x : Val) (c : Cmd) : Val × Rep :=
  if x.none = true then if makesB c.k = true then performV (emptyVal (kindOfI c.k)) c else (x, { code := 5 })
  else if fitsB x.kind c.k = true then performV x c else (x, { code := 4 })

def doV (x : Val) (c : Cmd) : Val :=
  if refusalI x c ≠ 0 then emptyVal 0 else if (answerV x c).2.code ≠ 0 then x else keptV (answerV x c).1
def doR (x : Val) (c : Cmd) : Rep :=
  if refusalI x c ≠ 0 then {} else if (answerV x c).2.code ≠ 0 then { code := (answerV x c).2.code } else (answerV x c).2
end Go.Proofs.YtfnephnecighaaaGreat
