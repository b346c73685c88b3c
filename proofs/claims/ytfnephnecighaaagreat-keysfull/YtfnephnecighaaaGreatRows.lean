/-
  No cell of these rows narrows 'for every input' (looked for: loops, veiled, ifaces, maps, wideKeys, modest, calm, conditions, laid).
  DERIVED. THE GIVEN ROWS OF THIS SEAT. 8 by the template 'for every input the law returns true; each argument reads behind the call as it read before'; 0 by the template 'total and deterministic' (their statements: YtfnephnecighaaaGreatTotals.lean).
  GIVEN WITH THE SEED: the statements are not yours to turn. If you find one false, say at which input.
  Laid BY PROGRAM, IN A SANDBOX (cutbox-rows.mjs): the forced cells as the released guide's own fill.sh prints them over the translation 98b83943276e8a8c… (all of the seat's roots in one cut). By AI agents, Wed Nov 11 2026. No macro, syntax, notation, axiom, sorry.
-/
import Derived.Test.YtfnephnecighaaaGreatChecked
import GoSem.Claim
import GoSem.ClaimJoined
import GoSem.ClaimMapViews
import Derived.JoinedTies
import Derived.KernelRfl
namespace Go.Proofs.YtfnephnecighaaaGreat
/- THE CELL 'sum', in the pinned program and in every row, IS THE sha256 OF THE DUMP (.gsa) THAT YtfnephnecighaaaGreatProg.lean LOADS. Nothing in Lean hashes anything: it is a label: what it is worth is what the hold of that sum in a sandbox is worth. -/
noncomputable def Tryz.pinned : Pinned := { name := "ytfnephnecighaaagreat", sum := "98b83943276e8a8c6e5dbc55f1dc4450444dcd564ae125c1221a5ae9650ec17f", checked := Tryz.checked }
namespace Rows
def none {H : Type} : Left H := { results := [], args := [] }

/-- 'rostrumlaw.ValueDoes': WHATEVER THE INPUT: true; the input reads as it did. -/
def valueDoesSpec : ChangeSpec := { name := "valueDoes", fn := fun _ => fun
  | [d1, d2] => { results := [.lit (.bool true)], args := [d1, d2] }
  | _ => none }
def valueDoesRow : OpenClaim := { program := "ytfnephnecighaaagreat", sum := "98b83943276e8a8c6e5dbc55f1dc4450444dcd564ae125c1221a5ae9650ec17f", func := "rostrum/rostrumlaw.ValueDoes", spec := "valueDoes", inPlace := ["slices.overlaps[rostrum/api.Pair]", "slices.overlaps[string]", "slices.overlaps[rostrum/api.Score]"], unfollowed := true, recurses := true, apart := false }
def ValueDoesSaid : Prop := valueDoesRow.holds Tryz.pinned (OpenSpec.ofChange valueDoesSpec)

/-- ITS FALSE NEIGHBOUR: 'it returns false'. Refute it at one input. -/
def valueDoesWrong : ChangeSpec := { name := "valueDoes", fn := fun _ => fun
  | [d1, d2] => { results := [.lit (.bool false)], args := [d1, d2] }
  | _ => none }
def ValueDoesWrongFalsely : Prop := valueDoesRow.holds Tryz.pinned (OpenSpec.ofChange valueDoesWrong)

/-- 'rostrumlaw.StoreApplies': WHATEVER THE INPUT: true; the input reads as it did. -/
def storeAppliesSpec : ChangeSpec := { name := "storeApplies", fn := fun _ => fun
  | [d1, d2, d3] => { results := [.lit (.bool true)], args := [d1, d2, d3] }
  | _ => none }
def storeAppliesRow : OpenClaim := { program := "ytfnephnecighaaagreat", sum := "98b83943276e8a8c6e5dbc55f1dc4450444dcd564ae125c1221a5ae9650ec17f", func := "rostrum/rostrumlaw.StoreApplies", spec := "storeApplies", inPlace := ["slices.overlaps[rostrum/api.Pair]", "slices.overlaps[string]", "slices.overlaps[rostrum/api.Score]", "slices.overlaps[rostrum/api.Entry]"], unfollowed := true, recurses := true, apart := false }
def StoreAppliesSaid : Prop := storeAppliesRow.holds Tryz.pinned (OpenSpec.ofChange storeAppliesSpec)

/-- ITS FALSE NEIGHBOUR: 'it returns false'. Refute it at one input. -/
def storeAppliesWrong : ChangeSpec := { name := "storeApplies", fn := fun _ => fun
  | [d1, d2, d3] => { results := [.lit (.bool false)], args := [d1, d2, d3] }
  | _ => none }
def StoreAppliesWrongFalsely : Prop := storeAppliesRow.holds Tryz.pinned (OpenSpec.ofChange storeAppliesWrong)

/-- 'rostrumkeep.StoreMay': WHATEVER THE INPUT: true; the input reads as it did. -/
def storeMaySpec : ChangeSpec := { name := "storeMay", fn := fun _ => fun
  | [d1, d2, d3] => { results := [.lit (.bool true)], args := [d1, d2, d3] }
  | _ => none }
def storeMayRow : OpenClaim := { program := "ytfnephnecighaaagreat", sum := "98b83943276e8a8c6e5dbc55f1dc4450444dcd564ae125c1221a5ae9650ec17f", func := "rostrum/rostrumkeep.StoreMay", spec := "storeMay", inPlace := ["slices.overlaps[rostrum/api.Pair]", "slices.overlaps[string]", "slices.overlaps[rostrum/api.Score]", "slices.overlaps[rostrum/api.Entry]"], unfollowed := true, recurses := true, apart := false }
def StoreMaySaid : Prop := storeMayRow.holds Tryz.pinned (OpenSpec.ofChange storeMaySpec)

/-- ITS FALSE NEIGHBOUR: 'it returns false'. Refute it at one input. -/
def storeMayWrong : ChangeSpec := { name := "storeMay", fn := fun _ => fun
  | [d1, d2, d3] => { results := [.lit (.bool false)], args := [d1, d2, d3] }
  | _ => none }
def StoreMayWrongFalsely : Prop := storeMayRow.holds Tryz.pinned (OpenSpec.ofChange storeMayWrong)

/-- 'rostrumkeep.PutStays': WHATEVER THE INPUT: true; the input reads as it did. -/
def putStaysSpec : ChangeSpec := { name := "putStays", fn := fun _ => fun
  | [d1, d2] => { results := [.lit (.bool true)], args := [d1, d2] }
  | _ => none }
def putStaysRow : OpenClaim := { program := "ytfnephnecighaaagreat", sum := "98b83943276e8a8c6e5dbc55f1dc4450444dcd564ae125c1221a5ae9650ec17f", func := "rostrum/rostrumkeep.PutStays", spec := "putStays", inPlace := ["slices.overlaps[rostrum/api.Pair]", "slices.overlaps[string]", "slices.overlaps[rostrum/api.Score]", "slices.overlaps[rostrum/api.Entry]"], unfollowed := true, recurses := true, apart := false }
def PutStaysSaid : Prop := putStaysRow.holds Tryz.pinned (OpenSpec.ofChange putStaysSpec)

/-- ITS FALSE NEIGHBOUR: 'it returns false'. Refute it at one input. -/
def putStaysWrong : ChangeSpec := { name := "putStays", fn := fun _ => fun
  | [d1, d2] => { results := [.lit (.bool false)], args := [d1, d2] }
  | _ => none }
def PutStaysWrongFalsely : Prop := putStaysRow.holds Tryz.pinned (OpenSpec.ofChange putStaysWrong)

/-- 'rostrumkeep.DelOnce': WHATEVER THE INPUT: true; the input reads as it did. -/
def delOnceSpec : ChangeSpec := { name := "delOnce", fn := fun _ => fun
  | [d1, d2] => { results := [.lit (.bool true)], args := [d1, d2] }
  | _ => none }
def delOnceRow : OpenClaim := { program := "ytfnephnecighaaagreat", sum := "98b83943276e8a8c6e5dbc55f1dc4450444dcd564ae125c1221a5ae9650ec17f", func := "rostrum/rostrumkeep.DelOnce", spec := "delOnce", inPlace := ["slices.overlaps[rostrum/api.Pair]", "slices.overlaps[string]", "slices.overlaps[rostrum/api.Score]", "slices.overlaps[rostrum/api.Entry]"], unfollowed := true, recurses := true, apart := false }
def DelOnceSaid : Prop := delOnceRow.holds Tryz.pinned (OpenSpec.ofChange delOnceSpec)

/-- ITS FALSE NEIGHBOUR: 'it returns false'. Refute it at one input. -/
def delOnceWrong : ChangeSpec := { name := "delOnce", fn := fun _ => fun
  | [d1, d2] => { results := [.lit (.bool false)], args := [d1, d2] }
  | _ => none }
def DelOnceWrongFalsely : Prop := delOnceRow.holds Tryz.pinned (OpenSpec.ofChange delOnceWrong)

/-- 'rostrumkeep.KeysFull': WHATEVER THE INPUT: true; the input reads as it did. -/
def keysFullSpec : ChangeSpec := { name := "keysFull", fn := fun _ => fun
  | [d] => { results := [.lit (.bool true)], args := [d] }
  | _ => none }
def keysFullRow : OpenClaim := { program := "ytfnephnecighaaagreat", sum := "98b83943276e8a8c6e5dbc55f1dc4450444dcd564ae125c1221a5ae9650ec17f", func := "rostrum/rostrumkeep.KeysFull", spec := "keysFull", inPlace := ["slices.overlaps[rostrum/api.Pair]", "slices.overlaps[string]", "slices.overlaps[rostrum/api.Score]", "slices.overlaps[rostrum/api.Entry]"], unfollowed := true, recurses := true, apart := false }
def KeysFullSaid : Prop := keysFullRow.holds Tryz.pinned (OpenSpec.ofChange keysFullSpec)

/-- ITS FALSE NEIGHBOUR: 'it returns false'. Refute it at one input. -/
def keysFullWrong : ChangeSpec := { name := "keysFull", fn := fun _ => fun
  | [d] => { results := [.lit (.bool false)], args := [d] }
  | _ => none }
def KeysFullWrongFalsely : Prop := keysFullRow.holds Tryz.pinned (OpenSpec.ofChange keysFullWrong)

/-- 'rostrumkeep.ExpireAgain': WHATEVER THE INPUT: true; the input reads as it did. -/
def expireAgainSpec : ChangeSpec := { name := "expireAgain", fn := fun _ => fun
  | [d1, d2] => { results := [.lit (.bool true)], args := [d1, d2] }
  | _ => none }
def expireAgainRow : OpenClaim := { program := "ytfnephnecighaaagreat", sum := "98b83943276e8a8c6e5dbc55f1dc4450444dcd564ae125c1221a5ae9650ec17f", func := "rostrum/rostrumkeep.ExpireAgain", spec := "expireAgain", inPlace := ["slices.overlaps[rostrum/api.Pair]", "slices.overlaps[string]", "slices.overlaps[rostrum/api.Score]", "slices.overlaps[rostrum/api.Entry]"], unfollowed := true, recurses := true, apart := false }
def ExpireAgainSaid : Prop := expireAgainRow.holds Tryz.pinned (OpenSpec.ofChange expireAgainSpec)

/-- ITS FALSE NEIGHBOUR: 'it returns false'. Refute it at one input. -/
def expireAgainWrong : ChangeSpec := { name := "expireAgain", fn := fun _ => fun
  | [d1, d2] => { results := [.lit (.bool false)], args := [d1, d2] }
  | _ => none }
def ExpireAgainWrongFalsely : Prop := expireAgainRow.holds Tryz.pinned (OpenSpec.ofChange expireAgainWrong)

/-- 'rostrumkeep.TimeBack': WHATEVER THE INPUT: true; the input reads as it did. -/
def timeBackSpec : ChangeSpec := { name := "timeBack", fn := fun _ => fun
  | [d1, d2, d3] => { results := [.lit (.bool true)], args := [d1, d2, d3] }
  | _ => none }
def timeBackRow : OpenClaim := { program := "ytfnephnecighaaagreat", sum := "98b83943276e8a8c6e5dbc55f1dc4450444dcd564ae125c1221a5ae9650ec17f", func := "rostrum/rostrumkeep.TimeBack", spec := "timeBack", inPlace := ["slices.overlaps[rostrum/api.Pair]", "slices.overlaps[string]", "slices.overlaps[rostrum/api.Score]", "slices.overlaps[rostrum/api.Entry]"], unfollowed := true, recurses := true, apart := false }
def TimeBackSaid : Prop := timeBackRow.holds Tryz.pinned (OpenSpec.ofChange timeBackSpec)

/-- ITS FALSE NEIGHBOUR: 'it returns false'. Refute it at one input. -/
def timeBackWrong : ChangeSpec := { name := "timeBack", fn := fun _ => fun
  | [d1, d2, d3] => { results := [.lit (.bool false)], args := [d1, d2, d3] }
  | _ => none }
def TimeBackWrongFalsely : Prop := timeBackRow.holds Tryz.pinned (OpenSpec.ofChange timeBackWrong)

/- THE SECOND FORM. 'bulk': how many values and letters a reading holds, each counted each time it is reached (what is shared counts as often as it is met; a slice's spare places count too). A statement '..UptoSaid' is the law's where the arguments, and the package variables that the reading takes, are together of bulk at most 1048576: NARROWER than '..Said'. Prove '..Said' where nothing that the law and all that it calls make is longer than what came in: it says more and counts as full. Else prove '..UptoSaid'. A law counts once. -/
mutual
def uptoBulk {H : Type} : DataW H → Nat
  | .lit (.string bytes) => bytes.length + 1
  | .lit _ => 1
  | .nil => 1
  | .ptr d => uptoBulk d + 1
  | .slice elems spare => uptoBulkAll elems + uptoBulkAll spare + 1
  | .agg parts => uptoBulkAll parts + 1
  | .iface _ d => uptoBulk d + 1
  | .map entries => uptoBulkEntries entries + 1
  | .held _ => 1
def uptoBulkAll {H : Type} : List (DataW H) → Nat
  | [] => 0
  | d :: r => uptoBulk d + uptoBulkAll r
def uptoBulkEntries {H : Type} : List (Lit × DataW H) → Nat
  | [] => 0
  | x :: r => uptoBulkEntry x + uptoBulkEntries r
def uptoBulkEntry {H : Type} : Lit × DataW H → Nat
  | (.string bytes, d) => bytes.length + uptoBulk d + 1
  | (_, d) => uptoBulk d + 1
 end
def uptoSmall : (H : Type) → List (DataW H) → Bool := fun _ ds => decide (uptoBulkAll ds ≤ 1048576)
def OpenSpec.upto (s : _root_.Go.ChangeSpec) : _root_.Go.OpenSpec := { _root_.Go.OpenSpec.ofChange s with cond := some uptoSmall }

/-- 'rostrumlaw.ValueDoes', WHERE WHAT IT READS IS OF BULK AT MOST 1048576: true; the input reads as it did. -/
def valueDoesUptoRow : OpenClaim := { program := "ytfnephnecighaaagreat", sum := "98b83943276e8a8c6e5dbc55f1dc4450444dcd564ae125c1221a5ae9650ec17f", func := "rostrum/rostrumlaw.ValueDoes", spec := "valueDoes", inPlace := ["slices.overlaps[rostrum/api.Pair]", "slices.overlaps[string]", "slices.overlaps[rostrum/api.Score]"], unfollowed := true, recurses := true, apart := false, narrowed := true }
def ValueDoesUptoSaid : Prop := valueDoesUptoRow.holds Tryz.pinned (OpenSpec.upto valueDoesSpec)

/-- 'rostrumlaw.StoreApplies', WHERE WHAT IT READS IS OF BULK AT MOST 1048576: true; the input reads as it did. -/
def storeAppliesUptoRow : OpenClaim := { program := "ytfnephnecighaaagreat", sum := "98b83943276e8a8c6e5dbc55f1dc4450444dcd564ae125c1221a5ae9650ec17f", func := "rostrum/rostrumlaw.StoreApplies", spec := "storeApplies", inPlace := ["slices.overlaps[rostrum/api.Pair]", "slices.overlaps[string]", "slices.overlaps[rostrum/api.Score]", "slices.overlaps[rostrum/api.Entry]"], unfollowed := true, recurses := true, apart := false, narrowed := true }
def StoreAppliesUptoSaid : Prop := storeAppliesUptoRow.holds Tryz.pinned (OpenSpec.upto storeAppliesSpec)

/-- 'rostrumkeep.StoreMay', WHERE WHAT IT READS IS OF BULK AT MOST 1048576: true; the input reads as it did. -/
def storeMayUptoRow : OpenClaim := { program := "ytfnephnecighaaagreat", sum := "98b83943276e8a8c6e5dbc55f1dc4450444dcd564ae125c1221a5ae9650ec17f", func := "rostrum/rostrumkeep.StoreMay", spec := "storeMay", inPlace := ["slices.overlaps[rostrum/api.Pair]", "slices.overlaps[string]", "slices.overlaps[rostrum/api.Score]", "slices.overlaps[rostrum/api.Entry]"], unfollowed := true, recurses := true, apart := false, narrowed := true }
def StoreMayUptoSaid : Prop := storeMayUptoRow.holds Tryz.pinned (OpenSpec.upto storeMaySpec)

/-- 'rostrumkeep.PutStays', WHERE WHAT IT READS IS OF BULK AT MOST 1048576: true; the input reads as it did. -/
def putStaysUptoRow : OpenClaim := { program := "ytfnephnecighaaagreat", sum := "98b83943276e8a8c6e5dbc55f1dc4450444dcd564ae125c1221a5ae9650ec17f", func := "rostrum/rostrumkeep.PutStays", spec := "putStays", inPlace := ["slices.overlaps[rostrum/api.Pair]", "slices.overlaps[string]", "slices.overlaps[rostrum/api.Score]", "slices.overlaps[rostrum/api.Entry]"], unfollowed := true, recurses := true, apart := false, narrowed := true }
def PutStaysUptoSaid : Prop := putStaysUptoRow.holds Tryz.pinned (OpenSpec.upto putStaysSpec)

/-- 'rostrumkeep.DelOnce', WHERE WHAT IT READS IS OF BULK AT MOST 1048576: true; the input reads as it did. -/
def delOnceUptoRow : OpenClaim := { program := "ytfnephnecighaaagreat", sum := "98b83943276e8a8c6e5dbc55f1dc4450444dcd564ae125c1221a5ae9650ec17f", func := "rostrum/rostrumkeep.DelOnce", spec := "delOnce", inPlace := ["slices.overlaps[rostrum/api.Pair]", "slices.overlaps[string]", "slices.overlaps[rostrum/api.Score]", "slices.overlaps[rostrum/api.Entry]"], unfollowed := true, recurses := true, apart := false, narrowed := true }
def DelOnceUptoSaid : Prop := delOnceUptoRow.holds Tryz.pinned (OpenSpec.upto delOnceSpec)

/-- 'rostrumkeep.KeysFull', WHERE WHAT IT READS IS OF BULK AT MOST 1048576: true; the input reads as it did. -/
def keysFullUptoRow : OpenClaim := { program := "ytfnephnecighaaagreat", sum := "98b83943276e8a8c6e5dbc55f1dc4450444dcd564ae125c1221a5ae9650ec17f", func := "rostrum/rostrumkeep.KeysFull", spec := "keysFull", inPlace := ["slices.overlaps[rostrum/api.Pair]", "slices.overlaps[string]", "slices.overlaps[rostrum/api.Score]", "slices.overlaps[rostrum/api.Entry]"], unfollowed := true, recurses := true, apart := false, narrowed := true }
def KeysFullUptoSaid : Prop := keysFullUptoRow.holds Tryz.pinned (OpenSpec.upto keysFullSpec)

/-- 'rostrumkeep.ExpireAgain', WHERE WHAT IT READS IS OF BULK AT MOST 1048576: true; the input reads as it did. -/
def expireAgainUptoRow : OpenClaim := { program := "ytfnephnecighaaagreat", sum := "98b83943276e8a8c6e5dbc55f1dc4450444dcd564ae125c1221a5ae9650ec17f", func := "rostrum/rostrumkeep.ExpireAgain", spec := "expireAgain", inPlace := ["slices.overlaps[rostrum/api.Pair]", "slices.overlaps[string]", "slices.overlaps[rostrum/api.Score]", "slices.overlaps[rostrum/api.Entry]"], unfollowed := true, recurses := true, apart := false, narrowed := true }
def ExpireAgainUptoSaid : Prop := expireAgainUptoRow.holds Tryz.pinned (OpenSpec.upto expireAgainSpec)

/-- 'rostrumkeep.TimeBack', WHERE WHAT IT READS IS OF BULK AT MOST 1048576: true; the input reads as it did. -/
def timeBackUptoRow : OpenClaim := { program := "ytfnephnecighaaagreat", sum := "98b83943276e8a8c6e5dbc55f1dc4450444dcd564ae125c1221a5ae9650ec17f", func := "rostrum/rostrumkeep.TimeBack", spec := "timeBack", inPlace := ["slices.overlaps[rostrum/api.Pair]", "slices.overlaps[string]", "slices.overlaps[rostrum/api.Score]", "slices.overlaps[rostrum/api.Entry]"], unfollowed := true, recurses := true, apart := false, narrowed := true }
def TimeBackUptoSaid : Prop := timeBackUptoRow.holds Tryz.pinned (OpenSpec.upto timeBackSpec)

end Rows
end Go.Proofs.YtfnephnecighaaaGreat
