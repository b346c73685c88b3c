/- Logs that are the same: sameLog at equal logs. -/
import Derived.Test.YtpbgadojocgefaaHh
import Derived.Test.YtpbgadojocgefaaTw
import Derived.Deep.RegionHeld3
import Derived.Deep.RegionWith
namespace Go.Proofs.Ytpbgadojocgefaa
open Go.RowKit
set_option linter.unusedVariables false
set_option maxRecDepth 100000

set_option maxHeartbeats 4000000 in
theorem sameLogK (b t : Int) (s s' : Value) (l : List Itm) (w : World) (hr : RowI w s l) (hr' : RowI w s' l) :
    Calls Try.prog 13 #[logV b t s, logV b t s'] w fun e w' => e = .returned (.bool true) ∧ Below w.heap.size w w' := by
  have HS : Hid (∀ W, Below w.heap.size w W → Calls Try.prog 14 #[s, s'] W fun e w' => e = .returned (.bool true) ∧ Below W.heap.size W w') := fun W hW => sameItemsK s s' l W (hr.below hW) (hr'.below hW)
  clear hr hr'
  go_enter Try.func13, Try.ntmps13
  go_wp2_with fail
  refine (HS.out _ ((balloc _ _).alloc (by simp) _)).mono ?_
  rintro e w1 ⟨rfl, hb1⟩
  have hB1 := bstep ((balloc w (logO b t s)).alloc (by simp) (logO b t s')) hb1
  go_wp2_with fail
  go_ret
  exact ⟨rfl, hB1⟩
set_option maxHeartbeats 4000000 in
theorem sameLogL (b t : Int) (s s' : Value) (l : List Itm) (w : World) (hr : RowI w s l) (hr' : RowI w s' l) :
    Calls Try.prog 9 #[logV b t s, logV b t s'] w fun e w' => e = .returned (.bool true) ∧ Below w.heap.size w w' := by
  have HS : Hid (∀ W, Below w.heap.size w W → Calls Try.prog 22 #[s, s'] W fun e w' => e = .returned (.bool true) ∧ Below W.heap.size W w') := fun W hW => sameItemsL s s' l W (hr.below hW) (hr'.below hW)
  clear hr hr'
  go_enter Try.func9, Try.ntmps9
  go_wp2_with fail
  refine (HS.out _ ((balloc _ _).alloc (by simp) _)).mono ?_
  rintro e w1 ⟨rfl, hb1⟩
  have hB1 := bstep ((balloc w (logO b t s)).alloc (by simp) (logO b t s')) hb1
  go_wp2_with fail
  go_ret
  exact ⟨rfl, hB1⟩
end Go.Proofs.Ytpbgadojocgefaa
