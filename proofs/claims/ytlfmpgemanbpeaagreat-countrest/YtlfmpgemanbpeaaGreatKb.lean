/- Adding to nothing, and to a count. -/
import Derived.Test.YtlfmpgemanbpeaaGreatWh
import Derived.Test.YtlfmpgemanbpeaaGreatKp
namespace Go.Proofs.YtlfmpgemanbpeaaGreat
open Go.RowKit
set_option linter.unusedVariables false

def cnt (k : Int) : Val := ⟨2, ⟨#[]⟩, k, [], [], []⟩
def cmdAdd (n : Int) : Cmd := ⟨3, ⟨#[107]⟩, ⟨#[]⟩, ⟨#[]⟩, n⟩
theorem size_k : (⟨#[107]⟩ : ByteArray).size = 1 := rfl
theorem size_e : (⟨#[]⟩ : ByteArray).size = 0 := rfl
theorem of_isCountB {n : Int} (h : isCountB n = true) : -1099511627776 ≤ n ∧ n ≤ 1099511627776 := by simpa [isCountB] using h

theorem cnt_none (k : Int) : (cnt k).none = false := by simp [cnt, Val.none, noneN]
theorem empty_none : (emptyVal 0).none = true := by simp [emptyVal, Val.none, noneN, Val.size]
theorem cnt_size (k : Int) : (cnt k).size = 0 := rfl
theorem cnt_fault (k : Int) (h : isCountB k = true) : (cnt k).fault = 0 := by
  simp [cnt, Val.fault, Val.foreign, foreignN, Val.sizesB, Val.numbersB, Val.orderB, holdsB, isTextB, size_e, anyB, h, Val.size]
theorem add_fault (n : Int) (h : isCountB n = true) : (cmdAdd n).fault = 0 := by
  simp [cmdAdd, Cmd.fault, cmdFault, foreignB, partsB, hasKeyB, hasFieldB, hasTextB, hasNumberB, isNameB, isTextB, size_k, size_e, h]
theorem add_refusal_none (n : Int) (h : isCountB n = true) : refusalI (emptyVal 0) (cmdAdd n) = 0 := by
  simp [refusalI, empty_none, add_fault n h]
  simp [cmdAdd, ofStoreB]
theorem add_refusal_cnt (k n : Int) (hk : isCountB k = true) (h : isCountB n = true) : refusalI (cnt k) (cmdAdd n) = 0 := by
  simp [refusalI, cnt_fault k hk, add_fault n h]
  simp [cmdAdd, ofStoreB]

theorem do_add_none (n : Int) (h : isCountB n = true) : DoOk (emptyVal 0) (cmdAdd n) (cnt n) { n := n } 0 := by
  have hb := of_isCountB h
  have hp := perf_add (emptyVal 2) (cmdAdd n) rfl (by simp [emptyVal, Val.size]) (by simp [emptyVal]) (by simp [emptyVal]) hb.1 hb.2
  have hv : addV (emptyVal 2) (cmdAdd n).n = (cnt n, { n := n }) := by simp [addV, emptyVal, cmdAdd, h, cnt]
  rw [hv] at hp
  have ha := ans_makes (emptyVal 0) (cmdAdd n) _ _ empty_none (by simp [cmdAdd, makesB]) (by simpa [cmdAdd, kindOfI] using hp)
  have := do_ok _ _ _ _ (add_refusal_none n h) ha rfl
  simpa [keptV, cnt, holdsB] using this

theorem do_add_cnt (k n : Int) (hk : isCountB k = true) (h : isCountB n = true) (hs : isCountB (k + n) = true) : DoOk (cnt k) (cmdAdd n) (cnt (k + n)) { n := k + n } 0 := by
  have hb := of_isCountB h
  have hkb := of_isCountB hk
  have hp := perf_add (cnt k) (cmdAdd n) rfl (by simp [cnt_size]) hkb.1 hkb.2 hb.1 hb.2
  have hv : addV (cnt k) (cmdAdd n).n = (cnt (k + n), { n := k + n }) := by simp [addV, cmdAdd, cnt, hs]
  rw [hv] at hp
  have ha := ans_fits (cnt k) (cmdAdd n) _ _ (cnt_none k) (by simp [cmdAdd, fitsB, cnt, kindOfI]) (by simp [cnt_size]) hp
  have := do_ok _ _ _ _ (add_refusal_cnt k n hk h) ha rfl
  simpa [keptV, cnt, holdsB] using this

theorem do_add_over (k n : Int) (hk : isCountB k = true) (h : isCountB n = true) (hs : isCountB (k + n) = false) : DoOk (cnt k) (cmdAdd n) (cnt k) { code := 7 } 0 := by
  have hb := of_isCountB h
  have hkb := of_isCountB hk
  have hp := perf_add (cnt k) (cmdAdd n) rfl (by simp [cnt_size]) hkb.1 hkb.2 hb.1 hb.2
  have hv : addV (cnt k) (cmdAdd n).n = (cnt k, { code := 7 }) := by simp [addV, cmdAdd, cnt, hs]
  rw [hv] at hp
  have ha := ans_fits (cnt k) (cmdAdd n) _ _ (cnt_none k) (by simp [cmdAdd, fitsB, cnt, kindOfI]) (by simp [cnt_size]) hp
  exact do_err _ _ _ (add_refusal_cnt k n hk h) (by simp [cnt_size]) ha.err (by decide)
end Go.Proofs.YtlfmpgemanbpeaaGreat
