/- Small stores: one key, made, changed, run out: plain lists alone. -/
import Derived.Test.YtfnephnecighaaaGreatSw
namespace Go.Proofs.YtfnephnecighaaaGreat
open Go.RowKit
set_option linter.unusedVariables false

theorem do_new {c : Cmd} {y : Val} {r : Rep} (hc : c.fault = 0) (hm : makesB c.k = true) (hp : performV (emptyVal (kindOfI c.k)) c = (y, r)) (h0 : r.code = 0) (hk : keptV y = y) : doV (emptyVal 0) c = y ∧ doR (emptyVal 0) c = r := by
  have hk2 : c.k = 1 ∨ c.k = 3 ∨ c.k = 4 ∨ c.k = 7 ∨ c.k = 8 ∨ c.k = 11 ∨ c.k = 14 := by simpa [makesB] using hm
  have hr := (show Well (emptyVal 0) from .inl rfl).ref hc (show ofStoreB c.k = false by simp [ofStoreB]; omega)
  have ha : answerV (emptyVal 0) c = (y, r) := by unfold answerV; rw [if_pos none_empty, if_pos hm, hp]
  refine ⟨?_, ?_⟩
  · unfold doV; rw [if_neg (by omega), ha, if_neg (by simp [h0])]; exact hk
  · unfold doR; rw [if_neg (by omega), ha, if_neg (by simp [h0])]
theorem do_fit {x : Val} {c : Cmd} {y : Val} {r : Rep} (hx : OkVal x) (hc : c.fault = 0) (hs : ofStoreB c.k = false) (hf : fitsB x.kind c.k = true) (hp : performV x c = (y, r)) (h0 : r.code = 0) (hk : keptV y = y) : doV x c = y ∧ doR x c = r := by
  have hr := (show Well x from .inr hx).ref hc hs
  have ha : answerV x c = (y, r) := by unfold answerV; rw [hx.not_none, if_neg (by simp), if_pos hf, hp]
  refine ⟨?_, ?_⟩
  · unfold doV; rw [if_neg (by omega), ha, if_neg (by simp [h0])]; exact hk
  · unfold doR; rw [if_neg (by omega), ha, if_neg (by simp [h0])]

abbrev keyA : ByteArray := ⟨#[97]⟩
abbrev addA (n : Int) : Cmd := ⟨3, keyA, ⟨#[]⟩, ⟨#[]⟩, n⟩
abbrev expA (n : Int) : Cmd := ⟨20, keyA, ⟨#[]⟩, ⟨#[]⟩, n⟩
abbrev lifeA : Cmd := ⟨21, keyA, ⟨#[]⟩, ⟨#[]⟩, 0⟩
abbrev keysC : Cmd := ⟨22, ⟨#[]⟩, ⟨#[]⟩, ⟨#[]⟩, 0⟩
abbrev putA (t : ByteArray) : Cmd := ⟨1, keyA, ⟨#[]⟩, t, 0⟩
abbrev pushA (t : ByteArray) : Cmd := ⟨7, keyA, ⟨#[]⟩, t, 0⟩
abbrev cntV (n : Int) : Val := ⟨2, ⟨#[]⟩, n, [], [], []⟩
abbrev txtV (t : ByteArray) : Val := ⟨1, t, 0, [], [], []⟩
abbrev lisV (l : List ByteArray) : Val := ⟨4, ⟨#[]⟩, 0, [], l, []⟩
theorem sizeA : keyA.size = 1 := by decide +kernel
theorem fault_addA {n : Int} (h : isCountB n = true) : (addA n).fault = 0 := by simp [Cmd.fault, cmdFault, foreignB, partsB, hasKeyB, hasFieldB, hasTextB, hasNumberB, isNameB, isTextB, sizeA, show (⟨#[]⟩ : ByteArray).size = 0 from rfl, h]
theorem fault_expA {n : Int} (h : isCountB n = true) : (expA n).fault = 0 := by simp [Cmd.fault, cmdFault, foreignB, partsB, hasKeyB, hasFieldB, hasTextB, hasNumberB, isNameB, isTextB, sizeA, show (⟨#[]⟩ : ByteArray).size = 0 from rfl, h]
theorem fault_putA {t : ByteArray} (h : t.size ≤ 20) : (putA t).fault = 0 := by simp [Cmd.fault, cmdFault, foreignB, partsB, hasKeyB, hasFieldB, hasTextB, hasNumberB, isNameB, isTextB, isCountB, sizeA, h]
theorem fault_pushA {t : ByteArray} (h : t.size ≤ 20) : (pushA t).fault = 0 := by simp [Cmd.fault, cmdFault, foreignB, partsB, hasKeyB, hasFieldB, hasTextB, hasNumberB, isNameB, isTextB, isCountB, sizeA, h]
theorem fault_lifeA : lifeA.fault = 0 := by decide +kernel
theorem fault_keysC : keysC.fault = 0 := by decide +kernel
theorem kept_cnt (n : Int) : keptV (cntV n) = cntV n := kept_small (by simp [holdsB])
theorem kept_txt (t : ByteArray) : keptV (txtV t) = txtV t := kept_small (by simp [holdsB])
theorem do_addA_new {n : Int} (h : isCountB n = true) : doV (emptyVal 0) (addA n) = cntV n ∧ doR (emptyVal 0) (addA n) = { n := n } :=
  do_new (fault_addA h) rfl (by simp [performV, kindOfI, addV, emptyVal, h]) rfl (kept_cnt n)
theorem do_addA_old {m n : Int} (hm : isCountB m = true) (hn : isCountB n = true) (h : isCountB (m + n) = true) : doV (cntV m) (addA n) = cntV (m + n) ∧ doR (cntV m) (addA n) = { n := m + n } :=
  do_fit (ok_count hm) (fault_addA hn) rfl rfl (by simp [performV, addV, h]) rfl (kept_cnt _)
theorem do_putA {x : Val} (hx : OkVal x) {t : ByteArray} (h : t.size ≤ 20) : doV x (putA t) = txtV t ∧ doR x (putA t) = {} :=
  do_fit hx (fault_putA h) rfl (by simp [fitsB]) (by simp [performV, emptyVal]) rfl (kept_txt _)
theorem do_pushA_new {t : ByteArray} (h : t.size ≤ 20) : doV (emptyVal 0) (pushA t) = lisV [t] ∧ doR (emptyVal 0) (pushA t) = { n := 1 } :=
  do_new (fault_pushA h) rfl (by simp [performV, kindOfI, listV, emptyVal, layAt, Val.size]) rfl (by simp [keptV, Val.size])
theorem count1 : isCountB 1 = true := by decide
theorem count2 : isCountB 2 = true := by decide
theorem countK {k : Int} (h1 : 1 ≤ k) (h2 : k ≤ 90) : isCountB k = true := by simp [isCountB]; omega
theorem sto_keyA {now til : Int} {x : Val} (h0 : 0 ≤ now) (h1 : now ≤ 1073741824) (hx : OkVal x) (ht : til = 0 ∨ (now < til ∧ til ≤ 1073741824)) : OkSto ⟨now, [⟨keyA, x, til⟩]⟩ :=
  ⟨h0, h1, by simp, fun e he => by simp at he; subst he; exact wrong_iff.2 ⟨by simp [isNameB, sizeA], hx, ht⟩, by simp [Rise]⟩
theorem sto_nil {now : Int} (h0 : 0 ≤ now) (h1 : now ≤ 1073741824) : OkSto ⟨now, []⟩ := ⟨h0, h1, by simp, fun e he => by simp at he, List.Pairwise.nil⟩
end Go.Proofs.YtfnephnecighaaaGreat
