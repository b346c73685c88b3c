/-
  No cell of these rows narrows 'for every input' (looked for: loops, veiled, ifaces, maps, wideKeys, modest, calm, conditions, laid).
  DERIVED. THE GIVEN ROWS OF THIS SEAT. 11 by the template 'for every input the law returns true; each argument reads behind the call as it read before'; 0 by the template 'total and deterministic' (their statements: YtnlaehpldmkdoaaTotals.lean).
  GIVEN WITH THE SEED: the statements are not yours to turn. If you find one false, say at which input.
  Laid BY PROGRAM, IN A SANDBOX (cutbox-rows.mjs): the forced cells as the released guide's own fill.sh prints them over the translation 617806978640e94d… (all of the seat's roots in one cut). By AI agents, Wed Nov 11 2026. No macro, syntax, notation, axiom, sorry.
-/
import Derived.Test.YtnlaehpldmkdoaaChecked
import GoSem.Claim
import GoSem.ClaimJoined
import GoSem.ClaimMapViews
import Derived.JoinedTies
import Derived.KernelRfl
namespace Go.Proofs.Ytnlaehpldmkdoaa
/- THE CELL 'sum', in the pinned program and in every row, IS THE sha256 OF THE DUMP (.gsa) THAT YtnlaehpldmkdoaaProg.lean LOADS. Nothing in Lean hashes anything: it is a label: what it is worth is what the hold of that sum in a sandbox is worth. -/
noncomputable def Try.pinned : Pinned := { name := "ytnlaehpldmkdoaa", sum := "617806978640e94d51b80954f48a08e2bad69802f85b11f20de42f79fd2ee985", checked := Try.checked }
namespace Rows
def none {H : Type} : Left H := { results := [], args := [] }

/-- 'rostrumlaw.ValueChecks': WHATEVER THE INPUT: true; the input reads as it did. -/
def valueChecksSpec : ChangeSpec := { name := "valueChecks", fn := fun _ => fun
  | [d] => { results := [.lit (.bool true)], args := [d] }
  | _ => none }
def valueChecksRow : OpenClaim := { program := "ytnlaehpldmkdoaa", sum := "617806978640e94d51b80954f48a08e2bad69802f85b11f20de42f79fd2ee985", func := "rostrum/rostrumlaw.ValueChecks", spec := "valueChecks", unfollowed := true, recurses := true, apart := false }
def ValueChecksSaid : Prop := valueChecksRow.holds Try.pinned (OpenSpec.ofChange valueChecksSpec)

/-- ITS FALSE NEIGHBOUR: 'it returns false'. Refute it at one input. -/
def valueChecksWrong : ChangeSpec := { name := "valueChecks", fn := fun _ => fun
  | [d] => { results := [.lit (.bool false)], args := [d] }
  | _ => none }
def ValueChecksWrongFalsely : Prop := valueChecksRow.holds Try.pinned (OpenSpec.ofChange valueChecksWrong)

/-- 'rostrumlaw.StoreChecks': WHATEVER THE INPUT: true; the input reads as it did. -/
def storeChecksSpec : ChangeSpec := { name := "storeChecks", fn := fun _ => fun
  | [d] => { results := [.lit (.bool true)], args := [d] }
  | _ => none }
def storeChecksRow : OpenClaim := { program := "ytnlaehpldmkdoaa", sum := "617806978640e94d51b80954f48a08e2bad69802f85b11f20de42f79fd2ee985", func := "rostrum/rostrumlaw.StoreChecks", spec := "storeChecks", unfollowed := true, recurses := true, apart := false }
def StoreChecksSaid : Prop := storeChecksRow.holds Try.pinned (OpenSpec.ofChange storeChecksSpec)

/-- ITS FALSE NEIGHBOUR: 'it returns false'. Refute it at one input. -/
def storeChecksWrong : ChangeSpec := { name := "storeChecks", fn := fun _ => fun
  | [d] => { results := [.lit (.bool false)], args := [d] }
  | _ => none }
def StoreChecksWrongFalsely : Prop := storeChecksRow.holds Try.pinned (OpenSpec.ofChange storeChecksWrong)

/-- 'rostrumlaw.ClientChecks': WHATEVER THE INPUT: true; the input reads as it did. -/
def clientChecksSpec : ChangeSpec := { name := "clientChecks", fn := fun _ => fun
  | [d] => { results := [.lit (.bool true)], args := [d] }
  | _ => none }
def clientChecksRow : OpenClaim := { program := "ytnlaehpldmkdoaa", sum := "617806978640e94d51b80954f48a08e2bad69802f85b11f20de42f79fd2ee985", func := "rostrum/rostrumlaw.ClientChecks", spec := "clientChecks", unfollowed := true, recurses := true, apart := false }
def ClientChecksSaid : Prop := clientChecksRow.holds Try.pinned (OpenSpec.ofChange clientChecksSpec)

/-- ITS FALSE NEIGHBOUR: 'it returns false'. Refute it at one input. -/
def clientChecksWrong : ChangeSpec := { name := "clientChecks", fn := fun _ => fun
  | [d] => { results := [.lit (.bool false)], args := [d] }
  | _ => none }
def ClientChecksWrongFalsely : Prop := clientChecksRow.holds Try.pinned (OpenSpec.ofChange clientChecksWrong)

/-- 'rostrumlaw.WireItemBytes': WHATEVER THE INPUT: true; the input reads as it did. -/
def wireItemBytesSpec : ChangeSpec := { name := "wireItemBytes", fn := fun _ => fun
  | [d] => { results := [.lit (.bool true)], args := [d] }
  | _ => none }
def wireItemBytesRow : OpenClaim := { program := "ytnlaehpldmkdoaa", sum := "617806978640e94d51b80954f48a08e2bad69802f85b11f20de42f79fd2ee985", func := "rostrum/rostrumlaw.WireItemBytes", spec := "wireItemBytes", apart := false }
def WireItemBytesSaid : Prop := wireItemBytesRow.holds Try.pinned (OpenSpec.ofChange wireItemBytesSpec)

/-- ITS FALSE NEIGHBOUR: 'it returns false'. Refute it at one input. -/
def wireItemBytesWrong : ChangeSpec := { name := "wireItemBytes", fn := fun _ => fun
  | [d] => { results := [.lit (.bool false)], args := [d] }
  | _ => none }
def WireItemBytesWrongFalsely : Prop := wireItemBytesRow.holds Try.pinned (OpenSpec.ofChange wireItemBytesWrong)

/-- 'rostrumlaw.WireItemReads': WHATEVER THE INPUT: true; the input reads as it did. -/
def wireItemReadsSpec : ChangeSpec := { name := "wireItemReads", fn := fun _ => fun
  | [d] => { results := [.lit (.bool true)], args := [d] }
  | _ => none }
def wireItemReadsRow : OpenClaim := { program := "ytnlaehpldmkdoaa", sum := "617806978640e94d51b80954f48a08e2bad69802f85b11f20de42f79fd2ee985", func := "rostrum/rostrumlaw.WireItemReads", spec := "wireItemReads", unfollowed := true, recurses := true, apart := false }
def WireItemReadsSaid : Prop := wireItemReadsRow.holds Try.pinned (OpenSpec.ofChange wireItemReadsSpec)

/-- ITS FALSE NEIGHBOUR: 'it returns false'. Refute it at one input. -/
def wireItemReadsWrong : ChangeSpec := { name := "wireItemReads", fn := fun _ => fun
  | [d] => { results := [.lit (.bool false)], args := [d] }
  | _ => none }
def WireItemReadsWrongFalsely : Prop := wireItemReadsRow.holds Try.pinned (OpenSpec.ofChange wireItemReadsWrong)

/-- 'rostrumkeep.ItemBack': WHATEVER THE INPUT: true; the input reads as it did. -/
def itemBackSpec : ChangeSpec := { name := "itemBack", fn := fun _ => fun
  | [d1, d2, d3, d4] => { results := [.lit (.bool true)], args := [d1, d2, d3, d4] }
  | _ => none }
def itemBackRow : OpenClaim := { program := "ytnlaehpldmkdoaa", sum := "617806978640e94d51b80954f48a08e2bad69802f85b11f20de42f79fd2ee985", func := "rostrum/rostrumkeep.ItemBack", spec := "itemBack", unfollowed := true, recurses := true, apart := false }
def ItemBackSaid : Prop := itemBackRow.holds Try.pinned (OpenSpec.ofChange itemBackSpec)

/-- ITS FALSE NEIGHBOUR: 'it returns false'. Refute it at one input. -/
def itemBackWrong : ChangeSpec := { name := "itemBack", fn := fun _ => fun
  | [d1, d2, d3, d4] => { results := [.lit (.bool false)], args := [d1, d2, d3, d4] }
  | _ => none }
def ItemBackWrongFalsely : Prop := itemBackRow.holds Try.pinned (OpenSpec.ofChange itemBackWrong)

/-- 'rostrumkeep.ItemFixed': WHATEVER THE INPUT: true; the input reads as it did. -/
def itemFixedSpec : ChangeSpec := { name := "itemFixed", fn := fun _ => fun
  | [d] => { results := [.lit (.bool true)], args := [d] }
  | _ => none }
def itemFixedRow : OpenClaim := { program := "ytnlaehpldmkdoaa", sum := "617806978640e94d51b80954f48a08e2bad69802f85b11f20de42f79fd2ee985", func := "rostrum/rostrumkeep.ItemFixed", spec := "itemFixed", unfollowed := true, recurses := true, apart := false }
def ItemFixedSaid : Prop := itemFixedRow.holds Try.pinned (OpenSpec.ofChange itemFixedSpec)

/-- ITS FALSE NEIGHBOUR: 'it returns false'. Refute it at one input. -/
def itemFixedWrong : ChangeSpec := { name := "itemFixed", fn := fun _ => fun
  | [d] => { results := [.lit (.bool false)], args := [d] }
  | _ => none }
def ItemFixedWrongFalsely : Prop := itemFixedRow.holds Try.pinned (OpenSpec.ofChange itemFixedWrong)

/-- 'rostrumkeep.ItemTorn': WHATEVER THE INPUT: true; the input reads as it did. -/
def itemTornSpec : ChangeSpec := { name := "itemTorn", fn := fun _ => fun
  | [d1, d2, d3] => { results := [.lit (.bool true)], args := [d1, d2, d3] }
  | _ => none }
def itemTornRow : OpenClaim := { program := "ytnlaehpldmkdoaa", sum := "617806978640e94d51b80954f48a08e2bad69802f85b11f20de42f79fd2ee985", func := "rostrum/rostrumkeep.ItemTorn", spec := "itemTorn", unfollowed := true, recurses := true, apart := false }
def ItemTornSaid : Prop := itemTornRow.holds Try.pinned (OpenSpec.ofChange itemTornSpec)

/-- ITS FALSE NEIGHBOUR: 'it returns false'. Refute it at one input. -/
def itemTornWrong : ChangeSpec := { name := "itemTorn", fn := fun _ => fun
  | [d1, d2, d3] => { results := [.lit (.bool false)], args := [d1, d2, d3] }
  | _ => none }
def ItemTornWrongFalsely : Prop := itemTornRow.holds Try.pinned (OpenSpec.ofChange itemTornWrong)

/-- 'rostrumkeep.ItemsApart': WHATEVER THE INPUT: true; the input reads as it did. -/
def itemsApartSpec : ChangeSpec := { name := "itemsApart", fn := fun _ => fun
  | [d1, d2, d3, d4] => { results := [.lit (.bool true)], args := [d1, d2, d3, d4] }
  | _ => none }
def itemsApartRow : OpenClaim := { program := "ytnlaehpldmkdoaa", sum := "617806978640e94d51b80954f48a08e2bad69802f85b11f20de42f79fd2ee985", func := "rostrum/rostrumkeep.ItemsApart", spec := "itemsApart", apart := false }
def ItemsApartSaid : Prop := itemsApartRow.holds Try.pinned (OpenSpec.ofChange itemsApartSpec)

/-- ITS FALSE NEIGHBOUR: 'it returns false'. Refute it at one input. -/
def itemsApartWrong : ChangeSpec := { name := "itemsApart", fn := fun _ => fun
  | [d1, d2, d3, d4] => { results := [.lit (.bool false)], args := [d1, d2, d3, d4] }
  | _ => none }
def ItemsApartWrongFalsely : Prop := itemsApartRow.holds Try.pinned (OpenSpec.ofChange itemsApartWrong)

/-- 'rostrumlaw.LedgerMatches': WHATEVER THE INPUT: true; the input reads as it did. -/
def ledgerMatchesSpec : ChangeSpec := { name := "ledgerMatches", fn := fun _ => fun
  | [d1, d2, d3, d4] => { results := [.lit (.bool true)], args := [d1, d2, d3, d4] }
  | _ => none }
def ledgerMatchesRow : OpenClaim := { program := "ytnlaehpldmkdoaa", sum := "617806978640e94d51b80954f48a08e2bad69802f85b11f20de42f79fd2ee985", func := "rostrum/rostrumlaw.LedgerMatches", spec := "ledgerMatches", apart := false }
def LedgerMatchesSaid : Prop := ledgerMatchesRow.holds Try.pinned (OpenSpec.ofChange ledgerMatchesSpec)

/-- ITS FALSE NEIGHBOUR: 'it returns false'. Refute it at one input. -/
def ledgerMatchesWrong : ChangeSpec := { name := "ledgerMatches", fn := fun _ => fun
  | [d1, d2, d3, d4] => { results := [.lit (.bool false)], args := [d1, d2, d3, d4] }
  | _ => none }
def LedgerMatchesWrongFalsely : Prop := ledgerMatchesRow.holds Try.pinned (OpenSpec.ofChange ledgerMatchesWrong)

/-- 'rostrumlaw.TapeSnaps': WHATEVER THE INPUT: true; the input reads as it did. -/
def tapeSnapsSpec : ChangeSpec := { name := "tapeSnaps", fn := fun _ => fun
  | [d] => { results := [.lit (.bool true)], args := [d] }
  | _ => none }
def tapeSnapsRow : OpenClaim := { program := "ytnlaehpldmkdoaa", sum := "617806978640e94d51b80954f48a08e2bad69802f85b11f20de42f79fd2ee985", func := "rostrum/rostrumlaw.TapeSnaps", spec := "tapeSnaps", unfollowed := true, recurses := true, apart := false }
def TapeSnapsSaid : Prop := tapeSnapsRow.holds Try.pinned (OpenSpec.ofChange tapeSnapsSpec)

/-- ITS FALSE NEIGHBOUR: 'it returns false'. Refute it at one input. -/
def tapeSnapsWrong : ChangeSpec := { name := "tapeSnaps", fn := fun _ => fun
  | [d] => { results := [.lit (.bool false)], args := [d] }
  | _ => none }
def TapeSnapsWrongFalsely : Prop := tapeSnapsRow.holds Try.pinned (OpenSpec.ofChange tapeSnapsWrong)

/- THE SECOND FORM. 'bulk': how many values and letters a reading holds, each counted each time it is reached (what is shared counts as often as it is met; a slice's spare places count too). A statement '..UptoSaid' is the law's where the arguments, and the package variables that the reading takes, are together of bulk at most 1048576: NARROWER than '..Said'. Prove '..Said' where nothing that the law and all that it calls make is longer than what came in: it says more and counts as full. Else prove '..UptoSaid'. A law counts once. -/
mutual
def uptoBulk {H : Type} : DataW H → Nat
  | .lit (.string bytes) => bytes.length + 1
  | .lit _ => 1
  | .nil => 1
  | .ptr d => uptoBulk d + 1
  | .slice elems spare => uptoBulkAll elems + uptoBulkAll spare + 1
  | .agg parts => uptoBulkAll parts + 1
  | .iface _ d => uptoBulk d + 1
  | .map entries => uptoBulkEntries entries + 1
  | .held _ => 1
def uptoBulkAll {H : Type} : List (DataW H) → Nat
  | [] => 0
  | d :: r => uptoBulk d + uptoBulkAll r
def uptoBulkEntries {H : Type} : List (Lit × DataW H) → Nat
  | [] => 0
  | x :: r => uptoBulkEntry x + uptoBulkEntries r
def uptoBulkEntry {H : Type} : Lit × DataW H → Nat
  | (.string bytes, d) => bytes.length + uptoBulk d + 1
  | (_, d) => uptoBulk d + 1
 end
def uptoSmall : (H : Type) → List (DataW H) → Bool := fun _ ds => decide (uptoBulkAll ds ≤ 1048576)
def OpenSpec.upto (s : _root_.Go.ChangeSpec) : _root_.Go.OpenSpec := { _root_.Go.OpenSpec.ofChange s with cond := some uptoSmall }

/-- 'rostrumlaw.ValueChecks', WHERE WHAT IT READS IS OF BULK AT MOST 1048576: true; the input reads as it did. -/
def valueChecksUptoRow : OpenClaim := { program := "ytnlaehpldmkdoaa", sum := "617806978640e94d51b80954f48a08e2bad69802f85b11f20de42f79fd2ee985", func := "rostrum/rostrumlaw.ValueChecks", spec := "valueChecks", unfollowed := true, recurses := true, apart := false, narrowed := true }
def ValueChecksUptoSaid : Prop := valueChecksUptoRow.holds Try.pinned (OpenSpec.upto valueChecksSpec)

/-- 'rostrumlaw.StoreChecks', WHERE WHAT IT READS IS OF BULK AT MOST 1048576: true; the input reads as it did. -/
def storeChecksUptoRow : OpenClaim := { program := "ytnlaehpldmkdoaa", sum := "617806978640e94d51b80954f48a08e2bad69802f85b11f20de42f79fd2ee985", func := "rostrum/rostrumlaw.StoreChecks", spec := "storeChecks", unfollowed := true, recurses := true, apart := false, narrowed := true }
def StoreChecksUptoSaid : Prop := storeChecksUptoRow.holds Try.pinned (OpenSpec.upto storeChecksSpec)

/-- 'rostrumlaw.ClientChecks', WHERE WHAT IT READS IS OF BULK AT MOST 1048576: true; the input reads as it did. -/
def clientChecksUptoRow : OpenClaim := { program := "ytnlaehpldmkdoaa", sum := "617806978640e94d51b80954f48a08e2bad69802f85b11f20de42f79fd2ee985", func := "rostrum/rostrumlaw.ClientChecks", spec := "clientChecks", unfollowed := true, recurses := true, apart := false, narrowed := true }
def ClientChecksUptoSaid : Prop := clientChecksUptoRow.holds Try.pinned (OpenSpec.upto clientChecksSpec)

/-- 'rostrumlaw.WireItemBytes', WHERE WHAT IT READS IS OF BULK AT MOST 1048576: true; the input reads as it did. -/
def wireItemBytesUptoRow : OpenClaim := { program := "ytnlaehpldmkdoaa", sum := "617806978640e94d51b80954f48a08e2bad69802f85b11f20de42f79fd2ee985", func := "rostrum/rostrumlaw.WireItemBytes", spec := "wireItemBytes", apart := false, narrowed := true }
def WireItemBytesUptoSaid : Prop := wireItemBytesUptoRow.holds Try.pinned (OpenSpec.upto wireItemBytesSpec)

/-- 'rostrumlaw.WireItemReads', WHERE WHAT IT READS IS OF BULK AT MOST 1048576: true; the input reads as it did. -/
def wireItemReadsUptoRow : OpenClaim := { program := "ytnlaehpldmkdoaa", sum := "617806978640e94d51b80954f48a08e2bad69802f85b11f20de42f79fd2ee985", func := "rostrum/rostrumlaw.WireItemReads", spec := "wireItemReads", unfollowed := true, recurses := true, apart := false, narrowed := true }
def WireItemReadsUptoSaid : Prop := wireItemReadsUptoRow.holds Try.pinned (OpenSpec.upto wireItemReadsSpec)

/-- 'rostrumkeep.ItemBack', WHERE WHAT IT READS IS OF BULK AT MOST 1048576: true; the input reads as it did. -/
def itemBackUptoRow : OpenClaim := { program := "ytnlaehpldmkdoaa", sum := "617806978640e94d51b80954f48a08e2bad69802f85b11f20de42f79fd2ee985", func := "rostrum/rostrumkeep.ItemBack", spec := "itemBack", unfollowed := true, recurses := true, apart := false, narrowed := true }
def ItemBackUptoSaid : Prop := itemBackUptoRow.holds Try.pinned (OpenSpec.upto itemBackSpec)

/-- 'rostrumkeep.ItemFixed', WHERE WHAT IT READS IS OF BULK AT MOST 1048576: true; the input reads as it did. -/
def itemFixedUptoRow : OpenClaim := { program := "ytnlaehpldmkdoaa", sum := "617806978640e94d51b80954f48a08e2bad69802f85b11f20de42f79fd2ee985", func := "rostrum/rostrumkeep.ItemFixed", spec := "itemFixed", unfollowed := true, recurses := true, apart := false, narrowed := true }
def ItemFixedUptoSaid : Prop := itemFixedUptoRow.holds Try.pinned (OpenSpec.upto itemFixedSpec)

/-- 'rostrumkeep.ItemTorn', WHERE WHAT IT READS IS OF BULK AT MOST 1048576: true; the input reads as it did. -/
def itemTornUptoRow : OpenClaim := { program := "ytnlaehpldmkdoaa", sum := "617806978640e94d51b80954f48a08e2bad69802f85b11f20de42f79fd2ee985", func := "rostrum/rostrumkeep.ItemTorn", spec := "itemTorn", unfollowed := true, recurses := true, apart := false, narrowed := true }
def ItemTornUptoSaid : Prop := itemTornUptoRow.holds Try.pinned (OpenSpec.upto itemTornSpec)

/-- 'rostrumkeep.ItemsApart', WHERE WHAT IT READS IS OF BULK AT MOST 1048576: true; the input reads as it did. -/
def itemsApartUptoRow : OpenClaim := { program := "ytnlaehpldmkdoaa", sum := "617806978640e94d51b80954f48a08e2bad69802f85b11f20de42f79fd2ee985", func := "rostrum/rostrumkeep.ItemsApart", spec := "itemsApart", apart := false, narrowed := true }
def ItemsApartUptoSaid : Prop := itemsApartUptoRow.holds Try.pinned (OpenSpec.upto itemsApartSpec)

/-- 'rostrumlaw.LedgerMatches', WHERE WHAT IT READS IS OF BULK AT MOST 1048576: true; the input reads as it did. -/
def ledgerMatchesUptoRow : OpenClaim := { program := "ytnlaehpldmkdoaa", sum := "617806978640e94d51b80954f48a08e2bad69802f85b11f20de42f79fd2ee985", func := "rostrum/rostrumlaw.LedgerMatches", spec := "ledgerMatches", apart := false, narrowed := true }
def LedgerMatchesUptoSaid : Prop := ledgerMatchesUptoRow.holds Try.pinned (OpenSpec.upto ledgerMatchesSpec)

/-- 'rostrumlaw.TapeSnaps', WHERE WHAT IT READS IS OF BULK AT MOST 1048576: true; the input reads as it did. -/
def tapeSnapsUptoRow : OpenClaim := { program := "ytnlaehpldmkdoaa", sum := "617806978640e94d51b80954f48a08e2bad69802f85b11f20de42f79fd2ee985", func := "rostrum/rostrumlaw.TapeSnaps", spec := "tapeSnaps", unfollowed := true, recurses := true, apart := false, narrowed := true }
def TapeSnapsUptoSaid : Prop := tapeSnapsUptoRow.holds Try.pinned (OpenSpec.upto tapeSnapsSpec)

end Rows
end Go.Proofs.Ytnlaehpldmkdoaa
