/- Values of one element: what makes them, and what takes the element. -/
import Derived.Test.YtlfmpgemanbpeaaGreatPd
import Derived.Test.YtlfmpgemanbpeaaGreatNs
import Derived.Test.YtlfmpgemanbpeaaGreatKb
namespace Go.Proofs.YtlfmpgemanbpeaaGreat
open Go.RowKit
set_option linter.unusedVariables false
set_option linter.unusedSimpArgs false

theorem bytesLess_self : ∀ l : List UInt8, Op.bytesLess l l = false
  | [] => rfl
  | a :: r => by simp [Op.bytesLess, bytesLess_self r]
theorem ltS_self (a : ByteArray) : ltS a a = false := bytesLess_self _
theorem cmpS_self (a : ByteArray) : cmpS a a = 0 := by simp [cmpS, ltS_self]

abbrev fF : ByteArray := ⟨#[102]⟩
abbrev kK : ByteArray := ⟨#[107]⟩
abbrev eE : ByteArray := ⟨#[]⟩
def one3 (t : ByteArray) : Val := { emptyVal 3 with pairs := [(fF, t)] }
def one4 (t : ByteArray) : Val := { emptyVal 4 with items := [t] }
def one5 (t : ByteArray) : Val := { emptyVal 5 with items := [t] }
def one6 (t : ByteArray) : Val := { emptyVal 6 with scores := [(t, 3)] }

theorem size_f : fF.size = 1 := rfl
theorem fault3 (t : ByteArray) (h : t.size ≤ 20) : (one3 t).fault = 0 := by
  simp [one3, emptyVal, Val.fault, Val.foreign, foreignN, Val.sizesB, Val.numbersB, Val.orderB, holdsB, isTextB, isNameB, isCountB, size_e, size_f, anyB, wrongP, Val.size, risesB, h]
theorem fault4 (t : ByteArray) (h : t.size ≤ 20) : (one4 t).fault = 0 := by
  simp [one4, emptyVal, Val.fault, Val.foreign, foreignN, Val.sizesB, Val.numbersB, Val.orderB, holdsB, isTextB, isNameB, isCountB, size_e, anyB, wrongI, Val.size, risesB, h]
theorem fault5 (t : ByteArray) (h : t.size ≤ 20) : (one5 t).fault = 0 := by
  simp [one5, emptyVal, Val.fault, Val.foreign, foreignN, Val.sizesB, Val.numbersB, Val.orderB, holdsB, isTextB, isNameB, isCountB, size_e, anyB, wrongI, Val.size, risesB, h]
theorem fault6 (t : ByteArray) (h : t.size ≤ 20) : (one6 t).fault = 0 := by
  simp [one6, emptyVal, Val.fault, Val.foreign, foreignN, Val.sizesB, Val.numbersB, Val.orderB, holdsB, isTextB, isNameB, isCountB, size_e, anyB, wrongS, wrongN, Val.size, risesB, Val.names, h]
  have h1 := length_sortT [t]
  cases hs : sortT [t] with
  | nil => rfl
  | cons a r => cases r with
    | nil => rfl
    | cons b r => rw [hs] at h1; simp at h1

theorem part0 {α : Type} (cm : α → Int) (x : α) (h : cm x = 0) : Parts cm [x] 0 := ⟨by simp, fun a ha => by
  obtain rfl : a = 0 := by simpa using ha
  simp [h]⟩
theorem hit0 {α : Type} (cm : α → Int) (x : α) (h : cm x = 0) : hitB cm [x] 0 = true := by simp [hitB, h]

/-- The commands. -/
def put3 (t : ByteArray) : Cmd := ⟨4, kK, fF, t, 0⟩
def put4 (t : ByteArray) : Cmd := ⟨7, kK, eE, t, 0⟩
def put4' (t : ByteArray) : Cmd := ⟨8, kK, eE, t, 0⟩
def put5 (t : ByteArray) : Cmd := ⟨11, kK, eE, t, 0⟩
def put6 (t : ByteArray) : Cmd := ⟨14, kK, eE, t, 3⟩
def take3 : Cmd := ⟨6, kK, fF, eE, 0⟩
def take4 : Cmd := ⟨9, kK, eE, eE, 0⟩
def take4' : Cmd := ⟨10, kK, eE, eE, 0⟩
def take5 (t : ByteArray) : Cmd := ⟨12, kK, eE, t, 0⟩
def take6 (t : ByteArray) : Cmd := ⟨15, kK, eE, t, 0⟩

theorem do_put3 (t : ByteArray) (h : t.size ≤ 20) : DoOk (emptyVal 0) (put3 t) (one3 t) { n := 1 } 0 := by
  have hf : (put3 t).fault = 0 := by
    simp [put3, Cmd.fault, cmdFault, foreignB, partsB, hasKeyB, hasFieldB, hasTextB, hasNumberB, isNameB, isTextB, isCountB, kindOfI, size_k, size_e, size_f, h]
  have hr : refusalI (emptyVal 0) (put3 t) = 0 := by
    rw [refusalI, hf]
    simp [empty_none]
    simp [put3, ofStoreB]
  have hp := perf_hset_nil (put3 t) rfl
  have := do_ok _ _ _ _ hr (ans_makes (emptyVal 0) (put3 t) _ _ empty_none (by simp [put3, makesB]) hp) rfl
  rw [show keptV _ = one3 t from by simp [keptV, emptyVal, holdsB, Val.size, one3, put3]] at this
  exact this
theorem do_put4 (t : ByteArray) (h : t.size ≤ 20) : DoOk (emptyVal 0) (put4 t) (one4 t) { n := 1 } 0 := by
  have hf : (put4 t).fault = 0 := by
    simp [put4, Cmd.fault, cmdFault, foreignB, partsB, hasKeyB, hasFieldB, hasTextB, hasNumberB, isNameB, isTextB, isCountB, kindOfI, size_k, size_e, size_f, h]
  have hr : refusalI (emptyVal 0) (put4 t) = 0 := by
    rw [refusalI, hf]
    simp [empty_none]
    simp [put4, ofStoreB]
  have hp := perf_push_nil (put4 t) rfl
  have := do_ok _ _ _ _ hr (ans_makes (emptyVal 0) (put4 t) _ _ empty_none (by simp [put4, makesB]) hp) rfl
  rw [show keptV _ = one4 t from by simp [keptV, emptyVal, holdsB, Val.size, one4, put4]] at this
  exact this
theorem do_put4' (t : ByteArray) (h : t.size ≤ 20) : DoOk (emptyVal 0) (put4' t) (one4 t) { n := 1 } 0 := by
  have hf : (put4' t).fault = 0 := by
    simp [put4', Cmd.fault, cmdFault, foreignB, partsB, hasKeyB, hasFieldB, hasTextB, hasNumberB, isNameB, isTextB, isCountB, kindOfI, size_k, size_e, size_f, h]
  have hr : refusalI (emptyVal 0) (put4' t) = 0 := by
    rw [refusalI, hf]
    simp [empty_none]
    simp [put4', ofStoreB]
  have hp := perf_front_nil (put4' t) rfl
  have := do_ok _ _ _ _ hr (ans_makes (emptyVal 0) (put4' t) _ _ empty_none (by simp [put4', makesB]) hp) rfl
  rw [show keptV _ = one4 t from by simp [keptV, emptyVal, holdsB, Val.size, one4, put4']] at this
  exact this
theorem do_put5 (t : ByteArray) (h : t.size ≤ 20) : DoOk (emptyVal 0) (put5 t) (one5 t) { n := 1 } 0 := by
  have hf : (put5 t).fault = 0 := by
    simp [put5, Cmd.fault, cmdFault, foreignB, partsB, hasKeyB, hasFieldB, hasTextB, hasNumberB, isNameB, isTextB, isCountB, kindOfI, size_k, size_e, size_f, h]
  have hr : refusalI (emptyVal 0) (put5 t) = 0 := by
    rw [refusalI, hf]
    simp [empty_none]
    simp [put5, ofStoreB]
  have hp := perf_sadd_nil (put5 t) rfl
  have := do_ok _ _ _ _ hr (ans_makes (emptyVal 0) (put5 t) _ _ empty_none (by simp [put5, makesB]) hp) rfl
  rw [show keptV _ = one5 t from by simp [keptV, emptyVal, holdsB, Val.size, one5, put5]] at this
  exact this
theorem do_put6 (t : ByteArray) (h : t.size ≤ 20) : DoOk (emptyVal 0) (put6 t) (one6 t) { n := 1 } 0 := by
  have hf : (put6 t).fault = 0 := by
    simp [put6, Cmd.fault, cmdFault, foreignB, partsB, hasKeyB, hasFieldB, hasTextB, hasNumberB, isNameB, isTextB, isCountB, kindOfI, size_k, size_e, size_f, h]
  have hr : refusalI (emptyVal 0) (put6 t) = 0 := by
    rw [refusalI, hf]
    simp [empty_none]
    simp [put6, ofStoreB]
  have hp := perf_zadd_nil (put6 t) rfl
  have := do_ok _ _ _ _ hr (ans_makes (emptyVal 0) (put6 t) _ _ empty_none (by simp [put6, makesB]) hp) rfl
  rw [show keptV _ = one6 t from by simp [keptV, emptyVal, holdsB, Val.size, one6, put6]] at this
  exact this

theorem do_take3 (t : ByteArray) (h : t.size ≤ 20) : DoOk (one3 t) (take3) (emptyVal 0) { n := 1 } 0 := by
  have hf : (take3).fault = 0 := by
    simp [take3, Cmd.fault, cmdFault, foreignB, partsB, hasKeyB, hasFieldB, hasTextB, hasNumberB, isNameB, isTextB, isCountB, kindOfI, size_k, size_e, size_f, h]
  have hn : (one3 t).none = false := by simp [one3, emptyVal, Val.none, noneN]
  have hr : refusalI (one3 t) (take3) = 0 := by
    rw [refusalI, hf, fault3 t h]
    simp [hn]
    simp [take3, ofStoreB]
  have hd : Does _ (one3 t) (take3) (emptyVal 3) { n := 1 } := hash_del _ take3 0 rfl (by simp [one3]) rfl rfl (part0 _ _ (cmpS_self _)) (by simp [one3]) (hit0 _ _ (cmpS_self _))
  have hp := perf_hash (one3 t) (take3) _ _ rfl (by simp [ofKind, take3]) hd
  have := do_ok _ _ _ _ hr (ans_fits (one3 t) (take3) _ _ hn (by simp [take3, one3, fitsB, kindOfI, emptyVal]) (by simp [one3, Val.size, emptyVal]) hp) rfl
  rw [show keptV (emptyVal 3) = emptyVal 0 from by simp [keptV, emptyVal, holdsB, Val.size]] at this
  exact this
theorem do_take4 (t : ByteArray) (h : t.size ≤ 20) : DoOk (one4 t) (take4) (emptyVal 0) { text := t } 0 := by
  have hf : (take4).fault = 0 := by
    simp [take4, Cmd.fault, cmdFault, foreignB, partsB, hasKeyB, hasFieldB, hasTextB, hasNumberB, isNameB, isTextB, isCountB, kindOfI, size_k, size_e, size_f, h]
  have hn : (one4 t).none = false := by simp [one4, emptyVal, Val.none, noneN]
  have hr : refusalI (one4 t) (take4) = 0 := by
    rw [refusalI, hf, fault4 t h]
    simp [hn]
    simp [take4, ofStoreB]
  have hd : Does _ (one4 t) (take4) (emptyVal 4) { text := t } := list_pop (one4 t) take4 rfl (by simp [one4]) rfl rfl (by simp [one4])
  have hp := perf_list (one4 t) (take4) _ _ rfl (by simp [ofKind, take4]) hd
  have := do_ok _ _ _ _ hr (ans_fits (one4 t) (take4) _ _ hn (by simp [take4, one4, fitsB, kindOfI, emptyVal]) (by simp [one4, Val.size, emptyVal]) hp) rfl
  rw [show keptV (emptyVal 4) = emptyVal 0 from by simp [keptV, emptyVal, holdsB, Val.size]] at this
  exact this
theorem do_take4' (t : ByteArray) (h : t.size ≤ 20) : DoOk (one4 t) (take4') (emptyVal 0) { text := t } 0 := by
  have hf : (take4').fault = 0 := by
    simp [take4', Cmd.fault, cmdFault, foreignB, partsB, hasKeyB, hasFieldB, hasTextB, hasNumberB, isNameB, isTextB, isCountB, kindOfI, size_k, size_e, size_f, h]
  have hn : (one4 t).none = false := by simp [one4, emptyVal, Val.none, noneN]
  have hr : refusalI (one4 t) (take4') = 0 := by
    rw [refusalI, hf, fault4 t h]
    simp [hn]
    simp [take4', ofStoreB]
  have hd : Does _ (one4 t) (take4') (emptyVal 4) { text := t } := list_shift (one4 t) take4' rfl (by simp [one4]) rfl rfl (by simp [one4])
  have hp := perf_list (one4 t) (take4') _ _ rfl (by simp [ofKind, take4']) hd
  have := do_ok _ _ _ _ hr (ans_fits (one4 t) (take4') _ _ hn (by simp [take4', one4, fitsB, kindOfI, emptyVal]) (by simp [one4, Val.size, emptyVal]) hp) rfl
  rw [show keptV (emptyVal 4) = emptyVal 0 from by simp [keptV, emptyVal, holdsB, Val.size]] at this
  exact this
theorem do_take5 (t : ByteArray) (h : t.size ≤ 20) : DoOk (one5 t) (take5 t) (emptyVal 0) { n := 1 } 0 := by
  have hf : (take5 t).fault = 0 := by
    simp [take5, Cmd.fault, cmdFault, foreignB, partsB, hasKeyB, hasFieldB, hasTextB, hasNumberB, isNameB, isTextB, isCountB, kindOfI, size_k, size_e, size_f, h]
  have hn : (one5 t).none = false := by simp [one5, emptyVal, Val.none, noneN]
  have hr : refusalI (one5 t) (take5 t) = 0 := by
    rw [refusalI, hf, fault5 t h]
    simp [hn]
    simp [take5, ofStoreB]
  have hd : Does _ (one5 t) (take5 t) (emptyVal 5) { n := 1 } := set_del _ (take5 t) 0 rfl (by simp [one5]) rfl rfl (part0 _ _ (cmpS_self _)) (by simp [one5]) (hit0 _ _ (cmpS_self _))
  have hp := perf_set (one5 t) (take5 t) _ _ rfl (by simp [ofKind, take5]) hd
  have := do_ok _ _ _ _ hr (ans_fits (one5 t) (take5 t) _ _ hn (by simp [take5, one5, fitsB, kindOfI, emptyVal]) (by simp [one5, Val.size, emptyVal]) hp) rfl
  rw [show keptV (emptyVal 5) = emptyVal 0 from by simp [keptV, emptyVal, holdsB, Val.size]] at this
  exact this
theorem do_take6 (t : ByteArray) (h : t.size ≤ 20) : DoOk (one6 t) (take6 t) (emptyVal 0) { n := 1 } 0 := by
  have hf : (take6 t).fault = 0 := by
    simp [take6, Cmd.fault, cmdFault, foreignB, partsB, hasKeyB, hasFieldB, hasTextB, hasNumberB, isNameB, isTextB, isCountB, kindOfI, size_k, size_e, size_f, h]
  have hn : (one6 t).none = false := by simp [one6, emptyVal, Val.none, noneN]
  have hr : refusalI (one6 t) (take6 t) = 0 := by
    rw [refusalI, hf, fault6 t h]
    simp [hn]
    simp [take6, ofStoreB]
  have hd : Does _ (one6 t) (take6 t) (emptyVal 6) { n := 1 } := rank_del (one6 t) (take6 t) 0 rfl (by simp [one6]) rfl rfl (by simp [one6]) (by simp [one6, idxI, isMember, take6])
  have hp := perf_rank (one6 t) (take6 t) _ _ rfl (by simp [ofKind, take6]) hd
  have := do_ok _ _ _ _ hr (ans_fits (one6 t) (take6 t) _ _ hn (by simp [take6, one6, fitsB, kindOfI, emptyVal]) (by simp [one6, Val.size, emptyVal]) hp) rfl
  rw [show keptV (emptyVal 6) = emptyVal 0 from by simp [keptV, emptyVal, holdsB, Val.size]] at this
  exact this
end Go.Proofs.YtlfmpgemanbpeaaGreat
