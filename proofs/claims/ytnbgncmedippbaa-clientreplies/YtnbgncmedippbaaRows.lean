/-
  No cell of these rows narrows 'for every input' (looked for: loops, veiled, ifaces, maps, wideKeys, modest, calm, conditions, laid).
  DERIVED. THE GIVEN ROWS OF THIS SEAT. 9 by the template 'for every input the law returns true; each argument reads behind the call as it read before'; 0 by the template 'total and deterministic' (their statements: YtnbgncmedippbaaTotals.lean).
  GIVEN WITH THE SEED: the statements are not yours to turn. If you find one false, say at which input.
  Laid BY PROGRAM, IN A SANDBOX (cutbox-rows.mjs): the forced cells as the released guide's own fill.sh prints them over the translation 657ca8a11f5cf1f0… (all of the seat's roots in one cut). By AI agents, Wed Nov 11 2026. No macro, syntax, notation, axiom, sorry.
-/
import Derived.Test.YtnbgncmedippbaaChecked
import GoSem.Claim
import GoSem.ClaimJoined
import GoSem.ClaimMapViews
import Derived.JoinedTies
import Derived.KernelRfl
namespace Go.Proofs.Ytnbgncmedippbaa
/- THE CELL 'sum', in the pinned program and in every row, IS THE sha256 OF THE DUMP (.gsa) THAT YtnbgncmedippbaaProg.lean LOADS. Nothing in Lean hashes anything: it is a label: what it is worth is what the hold of that sum in a sandbox is worth. -/
noncomputable def Try.pinned : Pinned := { name := "ytnbgncmedippbaa", sum := "657ca8a11f5cf1f0d8457f739aeec709edfb4d1af72dee0fd66078739c882e21", checked := Try.checked }
namespace Rows
def none {H : Type} : Left H := { results := [], args := [] }

/-- 'rostrumlaw.ValueChecks': WHATEVER THE INPUT: true; the input reads as it did. -/
def valueChecksSpec : ChangeSpec := { name := "valueChecks", fn := fun _ => fun
  | [d] => { results := [.lit (.bool true)], args := [d] }
  | _ => none }
def valueChecksRow : OpenClaim := { program := "ytnbgncmedippbaa", sum := "657ca8a11f5cf1f0d8457f739aeec709edfb4d1af72dee0fd66078739c882e21", func := "rostrum/rostrumlaw.ValueChecks", spec := "valueChecks", unfollowed := true, recurses := true, apart := false }
def ValueChecksSaid : Prop := valueChecksRow.holds Try.pinned (OpenSpec.ofChange valueChecksSpec)

/-- ITS FALSE NEIGHBOUR: 'it returns false'. Refute it at one input. -/
def valueChecksWrong : ChangeSpec := { name := "valueChecks", fn := fun _ => fun
  | [d] => { results := [.lit (.bool false)], args := [d] }
  | _ => none }
def ValueChecksWrongFalsely : Prop := valueChecksRow.holds Try.pinned (OpenSpec.ofChange valueChecksWrong)

/-- 'rostrumlaw.ValueCommands': WHATEVER THE INPUT: true; the input reads as it did. -/
def valueCommandsSpec : ChangeSpec := { name := "valueCommands", fn := fun _ => fun
  | [d] => { results := [.lit (.bool true)], args := [d] }
  | _ => none }
def valueCommandsRow : OpenClaim := { program := "ytnbgncmedippbaa", sum := "657ca8a11f5cf1f0d8457f739aeec709edfb4d1af72dee0fd66078739c882e21", func := "rostrum/rostrumlaw.ValueCommands", spec := "valueCommands", apart := false }
def ValueCommandsSaid : Prop := valueCommandsRow.holds Try.pinned (OpenSpec.ofChange valueCommandsSpec)

/-- ITS FALSE NEIGHBOUR: 'it returns false'. Refute it at one input. -/
def valueCommandsWrong : ChangeSpec := { name := "valueCommands", fn := fun _ => fun
  | [d] => { results := [.lit (.bool false)], args := [d] }
  | _ => none }
def ValueCommandsWrongFalsely : Prop := valueCommandsRow.holds Try.pinned (OpenSpec.ofChange valueCommandsWrong)

/-- 'rostrumkeep.CommandSize': WHATEVER THE INPUT: true; the input reads as it did. -/
def commandSizeSpec : ChangeSpec := { name := "commandSize", fn := fun _ => fun
  | [d1, d2] => { results := [.lit (.bool true)], args := [d1, d2] }
  | _ => none }
def commandSizeRow : OpenClaim := { program := "ytnbgncmedippbaa", sum := "657ca8a11f5cf1f0d8457f739aeec709edfb4d1af72dee0fd66078739c882e21", func := "rostrum/rostrumkeep.CommandSize", spec := "commandSize", apart := false }
def CommandSizeSaid : Prop := commandSizeRow.holds Try.pinned (OpenSpec.ofChange commandSizeSpec)

/-- ITS FALSE NEIGHBOUR: 'it returns false'. Refute it at one input. -/
def commandSizeWrong : ChangeSpec := { name := "commandSize", fn := fun _ => fun
  | [d1, d2] => { results := [.lit (.bool false)], args := [d1, d2] }
  | _ => none }
def CommandSizeWrongFalsely : Prop := commandSizeRow.holds Try.pinned (OpenSpec.ofChange commandSizeWrong)

/-- 'rostrumlaw.StoreChecks': WHATEVER THE INPUT: true; the input reads as it did. -/
def storeChecksSpec : ChangeSpec := { name := "storeChecks", fn := fun _ => fun
  | [d] => { results := [.lit (.bool true)], args := [d] }
  | _ => none }
def storeChecksRow : OpenClaim := { program := "ytnbgncmedippbaa", sum := "657ca8a11f5cf1f0d8457f739aeec709edfb4d1af72dee0fd66078739c882e21", func := "rostrum/rostrumlaw.StoreChecks", spec := "storeChecks", unfollowed := true, recurses := true, apart := false }
def StoreChecksSaid : Prop := storeChecksRow.holds Try.pinned (OpenSpec.ofChange storeChecksSpec)

/-- ITS FALSE NEIGHBOUR: 'it returns false'. Refute it at one input. -/
def storeChecksWrong : ChangeSpec := { name := "storeChecks", fn := fun _ => fun
  | [d] => { results := [.lit (.bool false)], args := [d] }
  | _ => none }
def StoreChecksWrongFalsely : Prop := storeChecksRow.holds Try.pinned (OpenSpec.ofChange storeChecksWrong)

/-- 'rostrumlaw.ClientReplies': WHATEVER THE INPUT: true; the input reads as it did. -/
def clientRepliesSpec : ChangeSpec := { name := "clientReplies", fn := fun _ => fun
  | [d] => { results := [.lit (.bool true)], args := [d] }
  | _ => none }
def clientRepliesRow : OpenClaim := { program := "ytnbgncmedippbaa", sum := "657ca8a11f5cf1f0d8457f739aeec709edfb4d1af72dee0fd66078739c882e21", func := "rostrum/rostrumlaw.ClientReplies", spec := "clientReplies", unfollowed := true, recurses := true, apart := false }
def ClientRepliesSaid : Prop := clientRepliesRow.holds Try.pinned (OpenSpec.ofChange clientRepliesSpec)

/-- ITS FALSE NEIGHBOUR: 'it returns false'. Refute it at one input. -/
def clientRepliesWrong : ChangeSpec := { name := "clientReplies", fn := fun _ => fun
  | [d] => { results := [.lit (.bool false)], args := [d] }
  | _ => none }
def ClientRepliesWrongFalsely : Prop := clientRepliesRow.holds Try.pinned (OpenSpec.ofChange clientRepliesWrong)

/-- 'rostrumlaw.ClientCalls': WHATEVER THE INPUT: true; the input reads as it did. -/
def clientCallsSpec : ChangeSpec := { name := "clientCalls", fn := fun _ => fun
  | [d] => { results := [.lit (.bool true)], args := [d] }
  | _ => none }
def clientCallsRow : OpenClaim := { program := "ytnbgncmedippbaa", sum := "657ca8a11f5cf1f0d8457f739aeec709edfb4d1af72dee0fd66078739c882e21", func := "rostrum/rostrumlaw.ClientCalls", spec := "clientCalls", apart := false }
def ClientCallsSaid : Prop := clientCallsRow.holds Try.pinned (OpenSpec.ofChange clientCallsSpec)

/-- ITS FALSE NEIGHBOUR: 'it returns false'. Refute it at one input. -/
def clientCallsWrong : ChangeSpec := { name := "clientCalls", fn := fun _ => fun
  | [d] => { results := [.lit (.bool false)], args := [d] }
  | _ => none }
def ClientCallsWrongFalsely : Prop := clientCallsRow.holds Try.pinned (OpenSpec.ofChange clientCallsWrong)

/-- 'rostrumlaw.ClientNews': WHATEVER THE INPUT: true; the input reads as it did. -/
def clientNewsSpec : ChangeSpec := { name := "clientNews", fn := fun _ => fun
  | [] => { results := [.lit (.bool true)], args := [] }
  | _ => none }
def clientNewsRow : OpenClaim := { program := "ytnbgncmedippbaa", sum := "657ca8a11f5cf1f0d8457f739aeec709edfb4d1af72dee0fd66078739c882e21", func := "rostrum/rostrumlaw.ClientNews", spec := "clientNews", apart := false }
def ClientNewsSaid : Prop := clientNewsRow.holds Try.pinned (OpenSpec.ofChange clientNewsSpec)

/-- ITS FALSE NEIGHBOUR: 'it returns false'. Refute it at one input. -/
def clientNewsWrong : ChangeSpec := { name := "clientNews", fn := fun _ => fun
  | [] => { results := [.lit (.bool false)], args := [] }
  | _ => none }
def ClientNewsWrongFalsely : Prop := clientNewsRow.holds Try.pinned (OpenSpec.ofChange clientNewsWrong)

/-- 'rostrumkeep.CallBad': WHATEVER THE INPUT: true; the input reads as it did. -/
def callBadSpec : ChangeSpec := { name := "callBad", fn := fun _ => fun
  | [d1, d2] => { results := [.lit (.bool true)], args := [d1, d2] }
  | _ => none }
def callBadRow : OpenClaim := { program := "ytnbgncmedippbaa", sum := "657ca8a11f5cf1f0d8457f739aeec709edfb4d1af72dee0fd66078739c882e21", func := "rostrum/rostrumkeep.CallBad", spec := "callBad", apart := false }
def CallBadSaid : Prop := callBadRow.holds Try.pinned (OpenSpec.ofChange callBadSpec)

/-- ITS FALSE NEIGHBOUR: 'it returns false'. Refute it at one input. -/
def callBadWrong : ChangeSpec := { name := "callBad", fn := fun _ => fun
  | [d1, d2] => { results := [.lit (.bool false)], args := [d1, d2] }
  | _ => none }
def CallBadWrongFalsely : Prop := callBadRow.holds Try.pinned (OpenSpec.ofChange callBadWrong)

/-- 'rostrumkeep.ReplyBad': WHATEVER THE INPUT: true; the input reads as it did. -/
def replyBadSpec : ChangeSpec := { name := "replyBad", fn := fun _ => fun
  | [d1, d2] => { results := [.lit (.bool true)], args := [d1, d2] }
  | _ => none }
def replyBadRow : OpenClaim := { program := "ytnbgncmedippbaa", sum := "657ca8a11f5cf1f0d8457f739aeec709edfb4d1af72dee0fd66078739c882e21", func := "rostrum/rostrumkeep.ReplyBad", spec := "replyBad", unfollowed := true, recurses := true, apart := false }
def ReplyBadSaid : Prop := replyBadRow.holds Try.pinned (OpenSpec.ofChange replyBadSpec)

/-- ITS FALSE NEIGHBOUR: 'it returns false'. Refute it at one input. -/
def replyBadWrong : ChangeSpec := { name := "replyBad", fn := fun _ => fun
  | [d1, d2] => { results := [.lit (.bool false)], args := [d1, d2] }
  | _ => none }
def ReplyBadWrongFalsely : Prop := replyBadRow.holds Try.pinned (OpenSpec.ofChange replyBadWrong)

/- THE SECOND FORM. 'bulk': how many values and letters a reading holds, each counted each time it is reached (what is shared counts as often as it is met; a slice's spare places count too). A statement '..UptoSaid' is the law's where the arguments, and the package variables that the reading takes, are together of bulk at most 1048576: NARROWER than '..Said'. Prove '..Said' where nothing that the law and all that it calls make is longer than what came in: it says more and counts as full. Else prove '..UptoSaid'. A law counts once. -/
mutual
def uptoBulk {H : Type} : DataW H → Nat
  | .lit (.string bytes) => bytes.length + 1
  | .lit _ => 1
  | .nil => 1
  | .ptr d => uptoBulk d + 1
  | .slice elems spare => uptoBulkAll elems + uptoBulkAll spare + 1
  | .agg parts => uptoBulkAll parts + 1
  | .iface _ d => uptoBulk d + 1
  | .map entries => uptoBulkEntries entries + 1
  | .held _ => 1
def uptoBulkAll {H : Type} : List (DataW H) → Nat
  | [] => 0
  | d :: r => uptoBulk d + uptoBulkAll r
def uptoBulkEntries {H : Type} : List (Lit × DataW H) → Nat
  | [] => 0
  | x :: r => uptoBulkEntry x + uptoBulkEntries r
def uptoBulkEntry {H : Type} : Lit × DataW H → Nat
  | (.string bytes, d) => bytes.length + uptoBulk d + 1
  | (_, d) => uptoBulk d + 1
 end
def uptoSmall : (H : Type) → List (DataW H) → Bool := fun _ ds => decide (uptoBulkAll ds ≤ 1048576)
def OpenSpec.upto (s : _root_.Go.ChangeSpec) : _root_.Go.OpenSpec := { _root_.Go.OpenSpec.ofChange s with cond := some uptoSmall }

/-- 'rostrumlaw.ValueChecks', WHERE WHAT IT READS IS OF BULK AT MOST 1048576: true; the input reads as it did. -/
def valueChecksUptoRow : OpenClaim := { program := "ytnbgncmedippbaa", sum := "657ca8a11f5cf1f0d8457f739aeec709edfb4d1af72dee0fd66078739c882e21", func := "rostrum/rostrumlaw.ValueChecks", spec := "valueChecks", unfollowed := true, recurses := true, apart := false, narrowed := true }
def ValueChecksUptoSaid : Prop := valueChecksUptoRow.holds Try.pinned (OpenSpec.upto valueChecksSpec)

/-- 'rostrumlaw.ValueCommands', WHERE WHAT IT READS IS OF BULK AT MOST 1048576: true; the input reads as it did. -/
def valueCommandsUptoRow : OpenClaim := { program := "ytnbgncmedippbaa", sum := "657ca8a11f5cf1f0d8457f739aeec709edfb4d1af72dee0fd66078739c882e21", func := "rostrum/rostrumlaw.ValueCommands", spec := "valueCommands", apart := false, narrowed := true }
def ValueCommandsUptoSaid : Prop := valueCommandsUptoRow.holds Try.pinned (OpenSpec.upto valueCommandsSpec)

/-- 'rostrumkeep.CommandSize', WHERE WHAT IT READS IS OF BULK AT MOST 1048576: true; the input reads as it did. -/
def commandSizeUptoRow : OpenClaim := { program := "ytnbgncmedippbaa", sum := "657ca8a11f5cf1f0d8457f739aeec709edfb4d1af72dee0fd66078739c882e21", func := "rostrum/rostrumkeep.CommandSize", spec := "commandSize", apart := false, narrowed := true }
def CommandSizeUptoSaid : Prop := commandSizeUptoRow.holds Try.pinned (OpenSpec.upto commandSizeSpec)

/-- 'rostrumlaw.StoreChecks', WHERE WHAT IT READS IS OF BULK AT MOST 1048576: true; the input reads as it did. -/
def storeChecksUptoRow : OpenClaim := { program := "ytnbgncmedippbaa", sum := "657ca8a11f5cf1f0d8457f739aeec709edfb4d1af72dee0fd66078739c882e21", func := "rostrum/rostrumlaw.StoreChecks", spec := "storeChecks", unfollowed := true, recurses := true, apart := false, narrowed := true }
def StoreChecksUptoSaid : Prop := storeChecksUptoRow.holds Try.pinned (OpenSpec.upto storeChecksSpec)

/-- 'rostrumlaw.ClientReplies', WHERE WHAT IT READS IS OF BULK AT MOST 1048576: true; the input reads as it did. -/
def clientRepliesUptoRow : OpenClaim := { program := "ytnbgncmedippbaa", sum := "657ca8a11f5cf1f0d8457f739aeec709edfb4d1af72dee0fd66078739c882e21", func := "rostrum/rostrumlaw.ClientReplies", spec := "clientReplies", unfollowed := true, recurses := true, apart := false, narrowed := true }
def ClientRepliesUptoSaid : Prop := clientRepliesUptoRow.holds Try.pinned (OpenSpec.upto clientRepliesSpec)

/-- 'rostrumlaw.ClientCalls', WHERE WHAT IT READS IS OF BULK AT MOST 1048576: true; the input reads as it did. -/
def clientCallsUptoRow : OpenClaim := { program := "ytnbgncmedippbaa", sum := "657ca8a11f5cf1f0d8457f739aeec709edfb4d1af72dee0fd66078739c882e21", func := "rostrum/rostrumlaw.ClientCalls", spec := "clientCalls", apart := false, narrowed := true }
def ClientCallsUptoSaid : Prop := clientCallsUptoRow.holds Try.pinned (OpenSpec.upto clientCallsSpec)

/-- 'rostrumlaw.ClientNews', WHERE WHAT IT READS IS OF BULK AT MOST 1048576: true; the input reads as it did. -/
def clientNewsUptoRow : OpenClaim := { program := "ytnbgncmedippbaa", sum := "657ca8a11f5cf1f0d8457f739aeec709edfb4d1af72dee0fd66078739c882e21", func := "rostrum/rostrumlaw.ClientNews", spec := "clientNews", apart := false, narrowed := true }
def ClientNewsUptoSaid : Prop := clientNewsUptoRow.holds Try.pinned (OpenSpec.upto clientNewsSpec)

/-- 'rostrumkeep.CallBad', WHERE WHAT IT READS IS OF BULK AT MOST 1048576: true; the input reads as it did. -/
def callBadUptoRow : OpenClaim := { program := "ytnbgncmedippbaa", sum := "657ca8a11f5cf1f0d8457f739aeec709edfb4d1af72dee0fd66078739c882e21", func := "rostrum/rostrumkeep.CallBad", spec := "callBad", apart := false, narrowed := true }
def CallBadUptoSaid : Prop := callBadUptoRow.holds Try.pinned (OpenSpec.upto callBadSpec)

/-- 'rostrumkeep.ReplyBad', WHERE WHAT IT READS IS OF BULK AT MOST 1048576: true; the input reads as it did. -/
def replyBadUptoRow : OpenClaim := { program := "ytnbgncmedippbaa", sum := "657ca8a11f5cf1f0d8457f739aeec709edfb4d1af72dee0fd66078739c882e21", func := "rostrum/rostrumkeep.ReplyBad", spec := "replyBad", unfollowed := true, recurses := true, apart := false, narrowed := true }
def ReplyBadUptoSaid : Prop := replyBadUptoRow.holds Try.pinned (OpenSpec.upto replyBadSpec)

end Rows
end Go.Proofs.Ytnbgncmedippbaa
