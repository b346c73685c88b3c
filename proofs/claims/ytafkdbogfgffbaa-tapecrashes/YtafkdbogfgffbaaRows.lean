/-
  No cell of these rows narrows 'for every input' (looked for: loops, veiled, ifaces, maps, wideKeys, modest, calm, conditions, laid).
  DERIVED. THE GIVEN ROWS OF THIS SEAT. 4 by the template 'for every input the law returns true; each argument reads behind the call as it read before'; 0 by the template 'total and deterministic' (their statements: YtafkdbogfgffbaaTotals.lean).
  GIVEN WITH THE SEED: the statements are not yours to turn. If you find one false, say at which input.
  Laid BY PROGRAM, IN A SANDBOX (cutbox-rows.mjs): the forced cells as the released guide's own fill.sh prints them over the translation 3d874691c71ca5ae… (all of the seat's roots in one cut). By AI agents, Wed Nov 11 2026. No macro, syntax, notation, axiom, sorry.
-/
import Derived.Test.YtafkdbogfgffbaaChecked
import GoSem.Claim
import GoSem.ClaimJoined
import GoSem.ClaimMapViews
import Derived.JoinedTies
import Derived.KernelRfl
namespace Go.Proofs.Ytafkdbogfgffbaa
/- THE CELL 'sum', in the pinned program and in every row, IS THE sha256 OF THE DUMP (.gsa) THAT YtafkdbogfgffbaaProg.lean LOADS. Nothing in Lean hashes anything: it is a label: what it is worth is what the hold of that sum in a sandbox is worth. -/
noncomputable def Try.pinned : Pinned := { name := "ytafkdbogfgffbaa", sum := "3d874691c71ca5ae8c6b117447e40e6a80608c0eb4deaac81e96996e77d8eacd", checked := Try.checked }
namespace Rows
def none {H : Type} : Left H := { results := [], args := [] }

/-- 'rostrumlaw.TapeSnaps': WHATEVER THE INPUT: true; the input reads as it did. -/
def tapeSnapsSpec : ChangeSpec := { name := "tapeSnaps", fn := fun _ => fun
  | [d] => { results := [.lit (.bool true)], args := [d] }
  | _ => none }
def tapeSnapsRow : OpenClaim := { program := "ytafkdbogfgffbaa", sum := "3d874691c71ca5ae8c6b117447e40e6a80608c0eb4deaac81e96996e77d8eacd", func := "rostrum/rostrumlaw.TapeSnaps", spec := "tapeSnaps", unfollowed := true, recurses := true, apart := false }
def TapeSnapsSaid : Prop := tapeSnapsRow.holds Try.pinned (OpenSpec.ofChange tapeSnapsSpec)

/-- ITS FALSE NEIGHBOUR: 'it returns false'. Refute it at one input. -/
def tapeSnapsWrong : ChangeSpec := { name := "tapeSnaps", fn := fun _ => fun
  | [d] => { results := [.lit (.bool false)], args := [d] }
  | _ => none }
def TapeSnapsWrongFalsely : Prop := tapeSnapsRow.holds Try.pinned (OpenSpec.ofChange tapeSnapsWrong)

/-- 'rostrumlaw.TapeSyncs': WHATEVER THE INPUT: true; the input reads as it did. -/
def tapeSyncsSpec : ChangeSpec := { name := "tapeSyncs", fn := fun _ => fun
  | [d] => { results := [.lit (.bool true)], args := [d] }
  | _ => none }
def tapeSyncsRow : OpenClaim := { program := "ytafkdbogfgffbaa", sum := "3d874691c71ca5ae8c6b117447e40e6a80608c0eb4deaac81e96996e77d8eacd", func := "rostrum/rostrumlaw.TapeSyncs", spec := "tapeSyncs", apart := false }
def TapeSyncsSaid : Prop := tapeSyncsRow.holds Try.pinned (OpenSpec.ofChange tapeSyncsSpec)

/-- ITS FALSE NEIGHBOUR: 'it returns false'. Refute it at one input. -/
def tapeSyncsWrong : ChangeSpec := { name := "tapeSyncs", fn := fun _ => fun
  | [d] => { results := [.lit (.bool false)], args := [d] }
  | _ => none }
def TapeSyncsWrongFalsely : Prop := tapeSyncsRow.holds Try.pinned (OpenSpec.ofChange tapeSyncsWrong)

/-- 'rostrumlaw.TapeCrashes': WHATEVER THE INPUT: true; the input reads as it did. -/
def tapeCrashesSpec : ChangeSpec := { name := "tapeCrashes", fn := fun _ => fun
  | [d1, d2] => { results := [.lit (.bool true)], args := [d1, d2] }
  | _ => none }
def tapeCrashesRow : OpenClaim := { program := "ytafkdbogfgffbaa", sum := "3d874691c71ca5ae8c6b117447e40e6a80608c0eb4deaac81e96996e77d8eacd", func := "rostrum/rostrumlaw.TapeCrashes", spec := "tapeCrashes", apart := false }
def TapeCrashesSaid : Prop := tapeCrashesRow.holds Try.pinned (OpenSpec.ofChange tapeCrashesSpec)

/-- ITS FALSE NEIGHBOUR: 'it returns false'. Refute it at one input. -/
def tapeCrashesWrong : ChangeSpec := { name := "tapeCrashes", fn := fun _ => fun
  | [d1, d2] => { results := [.lit (.bool false)], args := [d1, d2] }
  | _ => none }
def TapeCrashesWrongFalsely : Prop := tapeCrashesRow.holds Try.pinned (OpenSpec.ofChange tapeCrashesWrong)

/-- 'rostrumlaw.TapeNews': WHATEVER THE INPUT: true; the input reads as it did. -/
def tapeNewsSpec : ChangeSpec := { name := "tapeNews", fn := fun _ => fun
  | [] => { results := [.lit (.bool true)], args := [] }
  | _ => none }
def tapeNewsRow : OpenClaim := { program := "ytafkdbogfgffbaa", sum := "3d874691c71ca5ae8c6b117447e40e6a80608c0eb4deaac81e96996e77d8eacd", func := "rostrum/rostrumlaw.TapeNews", spec := "tapeNews", apart := false }
def TapeNewsSaid : Prop := tapeNewsRow.holds Try.pinned (OpenSpec.ofChange tapeNewsSpec)

/-- ITS FALSE NEIGHBOUR: 'it returns false'. Refute it at one input. -/
def tapeNewsWrong : ChangeSpec := { name := "tapeNews", fn := fun _ => fun
  | [] => { results := [.lit (.bool false)], args := [] }
  | _ => none }
def TapeNewsWrongFalsely : Prop := tapeNewsRow.holds Try.pinned (OpenSpec.ofChange tapeNewsWrong)

/- THE SECOND FORM. 'bulk': how many values and letters a reading holds, each counted each time it is reached (what is shared counts as often as it is met; a slice's spare places count too). A statement '..UptoSaid' is the law's where the arguments, and the package variables that the reading takes, are together of bulk at most 1048576: NARROWER than '..Said'. Prove '..Said' where nothing that the law and all that it calls make is longer than what came in: it says more and counts as full. Else prove '..UptoSaid'. A law counts once. -/
mutual
def uptoBulk {H : Type} : DataW H → Nat
  | .lit (.string bytes) => bytes.length + 1
  | .lit _ => 1
  | .nil => 1
  | .ptr d => uptoBulk d + 1
  | .slice elems spare => uptoBulkAll elems + uptoBulkAll spare + 1
  | .agg parts => uptoBulkAll parts + 1
  | .iface _ d => uptoBulk d + 1
  | .map entries => uptoBulkEntries entries + 1
  | .held _ => 1
def uptoBulkAll {H : Type} : List (DataW H) → Nat
  | [] => 0
  | d :: r => uptoBulk d + uptoBulkAll r
def uptoBulkEntries {H : Type} : List (Lit × DataW H) → Nat
  | [] => 0
  | x :: r => uptoBulkEntry x + uptoBulkEntries r
def uptoBulkEntry {H : Type} : Lit × DataW H → Nat
  | (.string bytes, d) => bytes.length + uptoBulk d + 1
  | (_, d) => uptoBulk d + 1
 end
def uptoSmall : (H : Type) → List (DataW H) → Bool := fun _ ds => decide (uptoBulkAll ds ≤ 1048576)
def OpenSpec.upto (s : _root_.Go.ChangeSpec) : _root_.Go.OpenSpec := { _root_.Go.OpenSpec.ofChange s with cond := some uptoSmall }

/-- 'rostrumlaw.TapeSnaps', WHERE WHAT IT READS IS OF BULK AT MOST 1048576: true; the input reads as it did. -/
def tapeSnapsUptoRow : OpenClaim := { program := "ytafkdbogfgffbaa", sum := "3d874691c71ca5ae8c6b117447e40e6a80608c0eb4deaac81e96996e77d8eacd", func := "rostrum/rostrumlaw.TapeSnaps", spec := "tapeSnaps", unfollowed := true, recurses := true, apart := false, narrowed := true }
def TapeSnapsUptoSaid : Prop := tapeSnapsUptoRow.holds Try.pinned (OpenSpec.upto tapeSnapsSpec)

/-- 'rostrumlaw.TapeSyncs', WHERE WHAT IT READS IS OF BULK AT MOST 1048576: true; the input reads as it did. -/
def tapeSyncsUptoRow : OpenClaim := { program := "ytafkdbogfgffbaa", sum := "3d874691c71ca5ae8c6b117447e40e6a80608c0eb4deaac81e96996e77d8eacd", func := "rostrum/rostrumlaw.TapeSyncs", spec := "tapeSyncs", apart := false, narrowed := true }
def TapeSyncsUptoSaid : Prop := tapeSyncsUptoRow.holds Try.pinned (OpenSpec.upto tapeSyncsSpec)

/-- 'rostrumlaw.TapeCrashes', WHERE WHAT IT READS IS OF BULK AT MOST 1048576: true; the input reads as it did. -/
def tapeCrashesUptoRow : OpenClaim := { program := "ytafkdbogfgffbaa", sum := "3d874691c71ca5ae8c6b117447e40e6a80608c0eb4deaac81e96996e77d8eacd", func := "rostrum/rostrumlaw.TapeCrashes", spec := "tapeCrashes", apart := false, narrowed := true }
def TapeCrashesUptoSaid : Prop := tapeCrashesUptoRow.holds Try.pinned (OpenSpec.upto tapeCrashesSpec)

/-- 'rostrumlaw.TapeNews', WHERE WHAT IT READS IS OF BULK AT MOST 1048576: true; the input reads as it did. -/
def tapeNewsUptoRow : OpenClaim := { program := "ytafkdbogfgffbaa", sum := "3d874691c71ca5ae8c6b117447e40e6a80608c0eb4deaac81e96996e77d8eacd", func := "rostrum/rostrumlaw.TapeNews", spec := "tapeNews", apart := false, narrowed := true }
def TapeNewsUptoSaid : Prop := tapeNewsUptoRow.holds Try.pinned (OpenSpec.upto tapeNewsSpec)

end Rows
end Go.Proofs.Ytafkdbogfgffbaa
