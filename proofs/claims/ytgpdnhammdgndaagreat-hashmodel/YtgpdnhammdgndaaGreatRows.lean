/-
  No cell of these rows narrows 'for every input' (looked for: loops, veiled, ifaces, maps, wideKeys, modest, calm, conditions, laid).
  DERIVED. THE GIVEN ROWS OF THIS SEAT. 7 by the template 'for every input the law returns true; each argument reads behind the call as it read before'; 0 by the template 'total and deterministic' (their statements: YtgpdnhammdgndaaGreatTotals.lean).
  GIVEN WITH THE SEED: the statements are not yours to turn. If you find one false, say at which input.
  Laid BY PROGRAM, IN A SANDBOX (cutbox-rows.mjs): the forced cells as the released guide's own fill.sh prints them over the translation 77bd1c2be67a31ce… (all of the seat's roots in one cut). By AI agents, Wed Nov 11 2026. No macro, syntax, notation, axiom, sorry.
-/
import Derived.Test.YtgpdnhammdgndaaGreatChecked
import GoSem.Claim
import GoSem.ClaimJoined
import GoSem.ClaimMapViews
import Derived.JoinedTies
import Derived.KernelRfl
namespace Go.Proofs.YtgpdnhammdgndaaGreat
/- THE CELL 'sum', in the pinned program and in every row, IS THE sha256 OF THE DUMP (.gsa) THAT YtgpdnhammdgndaaGreatProg.lean LOADS. Nothing in Lean hashes anything: it is a label: what it is worth is what the hold of that sum in a sandbox is worth. -/
noncomputable def Tryz.pinned : Pinned := { name := "ytgpdnhammdgndaagreat", sum := "77bd1c2be67a31ce1bf1287c7edf689710aff6a9e97de069f7ce84d7ef034528", checked := Tryz.checked }
namespace Rows
def none {H : Type} : Left H := { results := [], args := [] }

/-- 'rostrumlaw.ValueDoes': WHATEVER THE INPUT: true; the input reads as it did. -/
def valueDoesSpec : ChangeSpec := { name := "valueDoes", fn := fun _ => fun
  | [d1, d2] => { results := [.lit (.bool true)], args := [d1, d2] }
  | _ => none }
def valueDoesRow : OpenClaim := { program := "ytgpdnhammdgndaagreat", sum := "77bd1c2be67a31ce1bf1287c7edf689710aff6a9e97de069f7ce84d7ef034528", func := "rostrum/rostrumlaw.ValueDoes", spec := "valueDoes", inPlace := ["slices.overlaps[rostrum/api.Pair]", "slices.overlaps[string]", "slices.overlaps[rostrum/api.Score]"], unfollowed := true, recurses := true, apart := false }
def ValueDoesSaid : Prop := valueDoesRow.holds Tryz.pinned (OpenSpec.ofChange valueDoesSpec)

/-- ITS FALSE NEIGHBOUR: 'it returns false'. Refute it at one input. -/
def valueDoesWrong : ChangeSpec := { name := "valueDoes", fn := fun _ => fun
  | [d1, d2] => { results := [.lit (.bool false)], args := [d1, d2] }
  | _ => none }
def ValueDoesWrongFalsely : Prop := valueDoesRow.holds Tryz.pinned (OpenSpec.ofChange valueDoesWrong)

/-- 'rostrumkeep.HashModel': WHATEVER THE INPUT: true; the input reads as it did. -/
def hashModelSpec : ChangeSpec := { name := "hashModel", fn := fun _ => fun
  | [d] => { results := [.lit (.bool true)], args := [d] }
  | _ => none }
def hashModelRow : OpenClaim := { program := "ytgpdnhammdgndaagreat", sum := "77bd1c2be67a31ce1bf1287c7edf689710aff6a9e97de069f7ce84d7ef034528", func := "rostrum/rostrumkeep.HashModel", spec := "hashModel", inPlace := ["slices.overlaps[rostrum/api.Pair]", "slices.overlaps[string]", "slices.overlaps[rostrum/api.Score]"], unfollowed := true, recurses := true, apart := false }
def HashModelSaid : Prop := hashModelRow.holds Tryz.pinned (OpenSpec.ofChange hashModelSpec)

/-- ITS FALSE NEIGHBOUR: 'it returns false'. Refute it at one input. -/
def hashModelWrong : ChangeSpec := { name := "hashModel", fn := fun _ => fun
  | [d] => { results := [.lit (.bool false)], args := [d] }
  | _ => none }
def HashModelWrongFalsely : Prop := hashModelRow.holds Tryz.pinned (OpenSpec.ofChange hashModelWrong)

/-- 'rostrumkeep.ListModel': WHATEVER THE INPUT: true; the input reads as it did. -/
def listModelSpec : ChangeSpec := { name := "listModel", fn := fun _ => fun
  | [d] => { results := [.lit (.bool true)], args := [d] }
  | _ => none }
def listModelRow : OpenClaim := { program := "ytgpdnhammdgndaagreat", sum := "77bd1c2be67a31ce1bf1287c7edf689710aff6a9e97de069f7ce84d7ef034528", func := "rostrum/rostrumkeep.ListModel", spec := "listModel", inPlace := ["slices.overlaps[rostrum/api.Pair]", "slices.overlaps[string]", "slices.overlaps[rostrum/api.Score]"], unfollowed := true, recurses := true, apart := false }
def ListModelSaid : Prop := listModelRow.holds Tryz.pinned (OpenSpec.ofChange listModelSpec)

/-- ITS FALSE NEIGHBOUR: 'it returns false'. Refute it at one input. -/
def listModelWrong : ChangeSpec := { name := "listModel", fn := fun _ => fun
  | [d] => { results := [.lit (.bool false)], args := [d] }
  | _ => none }
def ListModelWrongFalsely : Prop := listModelRow.holds Tryz.pinned (OpenSpec.ofChange listModelWrong)

/-- 'rostrumkeep.SetModel': WHATEVER THE INPUT: true; the input reads as it did. -/
def setModelSpec : ChangeSpec := { name := "setModel", fn := fun _ => fun
  | [d] => { results := [.lit (.bool true)], args := [d] }
  | _ => none }
def setModelRow : OpenClaim := { program := "ytgpdnhammdgndaagreat", sum := "77bd1c2be67a31ce1bf1287c7edf689710aff6a9e97de069f7ce84d7ef034528", func := "rostrum/rostrumkeep.SetModel", spec := "setModel", inPlace := ["slices.overlaps[rostrum/api.Pair]", "slices.overlaps[string]", "slices.overlaps[rostrum/api.Score]"], unfollowed := true, recurses := true, apart := false }
def SetModelSaid : Prop := setModelRow.holds Tryz.pinned (OpenSpec.ofChange setModelSpec)

/-- ITS FALSE NEIGHBOUR: 'it returns false'. Refute it at one input. -/
def setModelWrong : ChangeSpec := { name := "setModel", fn := fun _ => fun
  | [d] => { results := [.lit (.bool false)], args := [d] }
  | _ => none }
def SetModelWrongFalsely : Prop := setModelRow.holds Tryz.pinned (OpenSpec.ofChange setModelWrong)

/-- 'rostrumkeep.RankModel': WHATEVER THE INPUT: true; the input reads as it did. -/
def rankModelSpec : ChangeSpec := { name := "rankModel", fn := fun _ => fun
  | [d] => { results := [.lit (.bool true)], args := [d] }
  | _ => none }
def rankModelRow : OpenClaim := { program := "ytgpdnhammdgndaagreat", sum := "77bd1c2be67a31ce1bf1287c7edf689710aff6a9e97de069f7ce84d7ef034528", func := "rostrum/rostrumkeep.RankModel", spec := "rankModel", inPlace := ["slices.overlaps[rostrum/api.Pair]", "slices.overlaps[string]", "slices.overlaps[rostrum/api.Score]"], unfollowed := true, recurses := true, apart := false }
def RankModelSaid : Prop := rankModelRow.holds Tryz.pinned (OpenSpec.ofChange rankModelSpec)

/-- ITS FALSE NEIGHBOUR: 'it returns false'. Refute it at one input. -/
def rankModelWrong : ChangeSpec := { name := "rankModel", fn := fun _ => fun
  | [d] => { results := [.lit (.bool false)], args := [d] }
  | _ => none }
def RankModelWrongFalsely : Prop := rankModelRow.holds Tryz.pinned (OpenSpec.ofChange rankModelWrong)

/-- 'rostrumkeep.RankMoves': WHATEVER THE INPUT: true; the input reads as it did. -/
def rankMovesSpec : ChangeSpec := { name := "rankMoves", fn := fun _ => fun
  | [d1, d2, d3] => { results := [.lit (.bool true)], args := [d1, d2, d3] }
  | _ => none }
def rankMovesRow : OpenClaim := { program := "ytgpdnhammdgndaagreat", sum := "77bd1c2be67a31ce1bf1287c7edf689710aff6a9e97de069f7ce84d7ef034528", func := "rostrum/rostrumkeep.RankMoves", spec := "rankMoves", inPlace := ["slices.overlaps[rostrum/api.Pair]", "slices.overlaps[string]", "slices.overlaps[rostrum/api.Score]"], unfollowed := true, recurses := true, apart := false }
def RankMovesSaid : Prop := rankMovesRow.holds Tryz.pinned (OpenSpec.ofChange rankMovesSpec)

/-- ITS FALSE NEIGHBOUR: 'it returns false'. Refute it at one input. -/
def rankMovesWrong : ChangeSpec := { name := "rankMoves", fn := fun _ => fun
  | [d1, d2, d3] => { results := [.lit (.bool false)], args := [d1, d2, d3] }
  | _ => none }
def RankMovesWrongFalsely : Prop := rankMovesRow.holds Tryz.pinned (OpenSpec.ofChange rankMovesWrong)

/-- 'rostrumkeep.FullTold': WHATEVER THE INPUT: true; the input reads as it did. -/
def fullToldSpec : ChangeSpec := { name := "fullTold", fn := fun _ => fun
  | [d1, d2] => { results := [.lit (.bool true)], args := [d1, d2] }
  | _ => none }
def fullToldRow : OpenClaim := { program := "ytgpdnhammdgndaagreat", sum := "77bd1c2be67a31ce1bf1287c7edf689710aff6a9e97de069f7ce84d7ef034528", func := "rostrum/rostrumkeep.FullTold", spec := "fullTold", inPlace := ["slices.overlaps[rostrum/api.Pair]", "slices.overlaps[string]", "slices.overlaps[rostrum/api.Score]"], unfollowed := true, recurses := true, apart := false }
def FullToldSaid : Prop := fullToldRow.holds Tryz.pinned (OpenSpec.ofChange fullToldSpec)

/-- ITS FALSE NEIGHBOUR: 'it returns false'. Refute it at one input. -/
def fullToldWrong : ChangeSpec := { name := "fullTold", fn := fun _ => fun
  | [d1, d2] => { results := [.lit (.bool false)], args := [d1, d2] }
  | _ => none }
def FullToldWrongFalsely : Prop := fullToldRow.holds Tryz.pinned (OpenSpec.ofChange fullToldWrong)

/- THE SECOND FORM. 'bulk': how many values and letters a reading holds, each counted each time it is reached (what is shared counts as often as it is met; a slice's spare places count too). A statement '..UptoSaid' is the law's where the arguments, and the package variables that the reading takes, are together of bulk at most 1048576: NARROWER than '..Said'. Prove '..Said' where nothing that the law and all that it calls make is longer than what came in: it says more and counts as full. Else prove '..UptoSaid'. A law counts once. -/
mutual
def uptoBulk {H : Type} : DataW H → Nat
  | .lit (.string bytes) => bytes.length + 1
  | .lit _ => 1
  | .nil => 1
  | .ptr d => uptoBulk d + 1
  | .slice elems spare => uptoBulkAll elems + uptoBulkAll spare + 1
  | .agg parts => uptoBulkAll parts + 1
  | .iface _ d => uptoBulk d + 1
  | .map entries => uptoBulkEntries entries + 1
  | .held _ => 1
def uptoBulkAll {H : Type} : List (DataW H) → Nat
  | [] => 0
  | d :: r => uptoBulk d + uptoBulkAll r
def uptoBulkEntries {H : Type} : List (Lit × DataW H) → Nat
  | [] => 0
  | x :: r => uptoBulkEntry x + uptoBulkEntries r
def uptoBulkEntry {H : Type} : Lit × DataW H → Nat
  | (.string bytes, d) => bytes.length + uptoBulk d + 1
  | (_, d) => uptoBulk d + 1
 end
def uptoSmall : (H : Type) → List (DataW H) → Bool := fun _ ds => decide (uptoBulkAll ds ≤ 1048576)
def OpenSpec.upto (s : _root_.Go.ChangeSpec) : _root_.Go.OpenSpec := { _root_.Go.OpenSpec.ofChange s with cond := some uptoSmall }

/-- 'rostrumlaw.ValueDoes', WHERE WHAT IT READS IS OF BULK AT MOST 1048576: true; the input reads as it did. -/
def valueDoesUptoRow : OpenClaim := { program := "ytgpdnhammdgndaagreat", sum := "77bd1c2be67a31ce1bf1287c7edf689710aff6a9e97de069f7ce84d7ef034528", func := "rostrum/rostrumlaw.ValueDoes", spec := "valueDoes", inPlace := ["slices.overlaps[rostrum/api.Pair]", "slices.overlaps[string]", "slices.overlaps[rostrum/api.Score]"], unfollowed := true, recurses := true, apart := false, narrowed := true }
def ValueDoesUptoSaid : Prop := valueDoesUptoRow.holds Tryz.pinned (OpenSpec.upto valueDoesSpec)

/-- 'rostrumkeep.HashModel', WHERE WHAT IT READS IS OF BULK AT MOST 1048576: true; the input reads as it did. -/
def hashModelUptoRow : OpenClaim := { program := "ytgpdnhammdgndaagreat", sum := "77bd1c2be67a31ce1bf1287c7edf689710aff6a9e97de069f7ce84d7ef034528", func := "rostrum/rostrumkeep.HashModel", spec := "hashModel", inPlace := ["slices.overlaps[rostrum/api.Pair]", "slices.overlaps[string]", "slices.overlaps[rostrum/api.Score]"], unfollowed := true, recurses := true, apart := false, narrowed := true }
def HashModelUptoSaid : Prop := hashModelUptoRow.holds Tryz.pinned (OpenSpec.upto hashModelSpec)

/-- 'rostrumkeep.ListModel', WHERE WHAT IT READS IS OF BULK AT MOST 1048576: true; the input reads as it did. -/
def listModelUptoRow : OpenClaim := { program := "ytgpdnhammdgndaagreat", sum := "77bd1c2be67a31ce1bf1287c7edf689710aff6a9e97de069f7ce84d7ef034528", func := "rostrum/rostrumkeep.ListModel", spec := "listModel", inPlace := ["slices.overlaps[rostrum/api.Pair]", "slices.overlaps[string]", "slices.overlaps[rostrum/api.Score]"], unfollowed := true, recurses := true, apart := false, narrowed := true }
def ListModelUptoSaid : Prop := listModelUptoRow.holds Tryz.pinned (OpenSpec.upto listModelSpec)

/-- 'rostrumkeep.SetModel', WHERE WHAT IT READS IS OF BULK AT MOST 1048576: true; the input reads as it did. -/
def setModelUptoRow : OpenClaim := { program := "ytgpdnhammdgndaagreat", sum := "77bd1c2be67a31ce1bf1287c7edf689710aff6a9e97de069f7ce84d7ef034528", func := "rostrum/rostrumkeep.SetModel", spec := "setModel", inPlace := ["slices.overlaps[rostrum/api.Pair]", "slices.overlaps[string]", "slices.overlaps[rostrum/api.Score]"], unfollowed := true, recurses := true, apart := false, narrowed := true }
def SetModelUptoSaid : Prop := setModelUptoRow.holds Tryz.pinned (OpenSpec.upto setModelSpec)

/-- 'rostrumkeep.RankModel', WHERE WHAT IT READS IS OF BULK AT MOST 1048576: true; the input reads as it did. -/
def rankModelUptoRow : OpenClaim := { program := "ytgpdnhammdgndaagreat", sum := "77bd1c2be67a31ce1bf1287c7edf689710aff6a9e97de069f7ce84d7ef034528", func := "rostrum/rostrumkeep.RankModel", spec := "rankModel", inPlace := ["slices.overlaps[rostrum/api.Pair]", "slices.overlaps[string]", "slices.overlaps[rostrum/api.Score]"], unfollowed := true, recurses := true, apart := false, narrowed := true }
def RankModelUptoSaid : Prop := rankModelUptoRow.holds Tryz.pinned (OpenSpec.upto rankModelSpec)

/-- 'rostrumkeep.RankMoves', WHERE WHAT IT READS IS OF BULK AT MOST 1048576: true; the input reads as it did. -/
def rankMovesUptoRow : OpenClaim := { program := "ytgpdnhammdgndaagreat", sum := "77bd1c2be67a31ce1bf1287c7edf689710aff6a9e97de069f7ce84d7ef034528", func := "rostrum/rostrumkeep.RankMoves", spec := "rankMoves", inPlace := ["slices.overlaps[rostrum/api.Pair]", "slices.overlaps[string]", "slices.overlaps[rostrum/api.Score]"], unfollowed := true, recurses := true, apart := false, narrowed := true }
def RankMovesUptoSaid : Prop := rankMovesUptoRow.holds Tryz.pinned (OpenSpec.upto rankMovesSpec)

/-- 'rostrumkeep.FullTold', WHERE WHAT IT READS IS OF BULK AT MOST 1048576: true; the input reads as it did. -/
def fullToldUptoRow : OpenClaim := { program := "ytgpdnhammdgndaagreat", sum := "77bd1c2be67a31ce1bf1287c7edf689710aff6a9e97de069f7ce84d7ef034528", func := "rostrum/rostrumkeep.FullTold", spec := "fullTold", inPlace := ["slices.overlaps[rostrum/api.Pair]", "slices.overlaps[string]", "slices.overlaps[rostrum/api.Score]"], unfollowed := true, recurses := true, apart := false, narrowed := true }
def FullToldUptoSaid : Prop := fullToldUptoRow.holds Tryz.pinned (OpenSpec.upto fullToldSpec)

end Rows
end Go.Proofs.YtgpdnhammdgndaaGreat
