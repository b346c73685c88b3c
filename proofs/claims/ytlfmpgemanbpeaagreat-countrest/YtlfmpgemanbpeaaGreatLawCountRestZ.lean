/- What is added and taken away again leaves the count as it was: for all two numbers the law returns true. No condition. -/
import Derived.Test.YtlfmpgemanbpeaaGreatLawCountRest
namespace Go.Proofs.YtlfmpgemanbpeaaGreat.countRestDone
open Go.ChangeShapes Go.WideShapes Go.ChangeAt Go.RowKit
open Go.Proofs.YtlfmpgemanbpeaaGreat
theorem over : Rows.countRestRow.holds Tryz.pinned (OpenSpec.ofChange Rows.countRestSpec) :=
  OpenClaim.holds_of_wide 16 Tryz.f16 rfl rfl rfl rfl rfl rfl rfl ⟨rfl, rfl, rfl, rfl, rfl⟩ rfl rfl rfl rfl rfl (by kernel_rfl) Tryz.func16 (by kernel_rfl)
    (of_decide_eq_true (by kernel_rfl)) (by unfold Func.isWrapper; first | (rw [if_pos (by decide +kernel)]; kernel_rfl) | (rw [if_neg (by decide +kernel)]; exact ⟨rfl, rfl⟩))
    (fun os started H enc _ => lifted os started H enc)

end Go.Proofs.YtlfmpgemanbpeaaGreat.countRestDone
namespace Go.Proofs.YtlfmpgemanbpeaaGreat
theorem CountRest_holds : Rows.CountRestSaid := countRestDone.over
end Go.Proofs.YtlfmpgemanbpeaaGreat
