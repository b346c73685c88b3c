/- The document's answer on commands: what it returns is what the program's own check returns. -/
import Derived.Test.YtpbgadojocgefaaCb
import Derived.Test.YtpbgadojocgefaaCr
namespace Go.Proofs.Ytpbgadojocgefaa
open Go.RowKit
set_option linter.unusedVariables false

theorem hide {p : Prop} (h : p) : Hid p := h
theorem inB_text (k : Int) (h1 : ¬k = 1) (h4 : ¬k = 4) (h7 : ¬k = 7) (h8 : ¬k = 8) : (k == 1 || k == 4 || k == 7 || k == 8 || inB k 11 16) = hasTextB k := by
  rw [Bool.eq_iff_iff]; simp [hasTextB, inB]; omega
theorem of_inB {n lo hi : Int} (h : inB n lo hi = true) : lo ≤ n ∧ n ≤ hi := by simpa [inB] using h
theorem inB_field (k : Int) : inB k 4 6 = hasFieldB k := by
  rw [Bool.eq_iff_iff]; simp [hasFieldB, inB]; omega
theorem is_number (k : Int) : (k == 3 || k == 14 || k == 20) = hasNumberB k := by
  rw [Bool.eq_iff_iff]; simp [hasNumberB]; omega

theorem foreign_eq {k : Int} {key fld txt : ByteArray} {n : Int} {T F M K : Bool} (hT : Hid (hasTextB k = T)) (hF : Hid (hasFieldB k = F)) (hM : Hid (hasNumberB k = M)) (hK : Hid (hasKeyB k = K)) :
    ((!T && !txt.toList.isEmpty) || (!F && !fld.toList.isEmpty) || (!M && n != 0) || (!K && !key.toList.isEmpty)) = foreignB k key fld txt n := by
  rw [← hT.out, ← hF.out, ← hM.out, ← hK.out, foreignB]
  generalize (!hasTextB k && !txt.toList.isEmpty) = a
  generalize (!hasFieldB k && !fld.toList.isEmpty) = b
  generalize (!hasNumberB k && n != 0) = c
  generalize (!hasKeyB k && !key.toList.isEmpty) = d
  cases a <;> cases b <;> cases c <;> cases d <;> rfl
theorem parts_eq {k : Int} {key fld txt : ByteArray} {F K : Bool} (hF : Hid (hasFieldB k = F)) (hK : Hid (hasKeyB k = K)) :
    ((K && !isNameB key) || (F && !isNameB fld) || !isTextB txt) = !partsB k key fld txt := by
  rw [← hF.out, ← hK.out, partsB]
  cases hasKeyB k <;> cases hasFieldB k <;> cases isNameB key <;> cases isNameB fld <;> cases isTextB txt <;> rfl

abbrev cmdO (k : Int) (key fld txt : ByteArray) (n : Int) : Obj := .cells #[.int .i64 k, .string key, .string fld, .string txt, .int .i64 n] 42

theorem in_field (k : Int) (w : World) :
    Calls Try.prog 32 #[.int .i64 k, .int .i64 4, .int .i64 6] w fun e w' => e = .returned (.bool (hasFieldB k)) ∧ w = w' := by
  rw [← inB_field]; exact in_any _ _ _ _

set_option maxHeartbeats 2000000 in
set_option maxRecDepth 100000 in
theorem commandFault_in (k : Int) (key fld txt : ByteArray) (n : Int) (w : World) (hk : inB k 1 22 = true) :
    Calls Try.prog 44 #[cmdV k key fld txt n] w fun e w' => e = .returned (.int .i64 (cmdFault k key fld txt n)) ∧ Below w.heap.size w w' := by
  go_enter Try.func44, Try.ntmps44
  go_upto_region 3 with (go_at_call 32; refine (in_any _ _ _ _).mono ?_; rintro e w3 ⟨rfl, rfl⟩)
  go_cut [0, 3] (fun _ t wx => t = .bool (hasTextB k) ∧ wx = w.alloc (cmdO k key fld txt n))
  case first =>
    go_wp2_with (go_at_call 32; refine (in_any _ _ _ _).mono ?_; rintro e w3 ⟨rfl, rfl⟩)
    all_goals go_meet
    all_goals try (case rel => refine ⟨?_, ?_⟩ <;> first | (simp_all [hasTextB]; done) | (rw [inB_text k ‹_› ‹_› ‹_› ‹_›]))
  case rest =>
    obtain ⟨rfl, rfl⟩ := hcut
    generalize hT : hasTextB k = T
    have HT := hide hT
    clear hT
    go_upto_region 5 with (go_at_call 32; refine (in_field _ _).mono ?_; rintro e w3 ⟨rfl, rfl⟩)
    generalize hF : hasFieldB k = F
    have HF := hide hF
    clear hF
    go_cut [0, 34, 35, 36, 5] (fun _ _ _ _ t wx => t = .bool (hasNumberB k) ∧ wx = w.alloc (cmdO k key fld txt n))
    case first =>
      go_wp2_with (go_at_call 32; refine (in_any _ _ _ _).mono ?_; rintro e w3 ⟨rfl, rfl⟩)
      all_goals go_meet
      all_goals try (case rel => refine ⟨?_, ?_⟩ <;> first | (simp_all [hasNumberB]; done) | (rw [is_number]))
    case rest =>
      obtain ⟨rfl, rfl⟩ := hcut
      generalize hM : hasNumberB k = M
      have HM := hide hM
      clear hM
      go_upto_region 7 with fail
      rw [show (k != 22) = hasKeyB k from by rw [Bool.eq_iff_iff]; simp [hasKeyB]]
      generalize hK : hasKeyB k = K
      have HK := hide hK
      clear hK
      go_cut [3, 4, 5, 6, 86] (fun t3 t4 t5 t6 t wx => t3 = .bool T ∧ t4 = .bool F ∧ t5 = .bool M ∧ t6 = .bool K ∧ t = .bool ((!T && !txt.toList.isEmpty) || (!F && !fld.toList.isEmpty) || (!M && n != 0) || (!K && !key.toList.isEmpty)) ∧ wx = w.alloc (cmdO k key fld txt n))
      case first =>
        go_wp2_with fail
        all_goals go_meet
        all_goals try (case rel => simp_all)
      case rest =>
        obtain ⟨rfl, rfl, rfl, rfl, rfl, rfl⟩ := hcut
        rw [foreign_eq HT HF HM HK]
        go_upto_region 9 with fail
        · go_ret
          exact ⟨ret_int (by have := of_inB hk; rw [cmdFault, if_neg (by omega), if_pos (by assumption)]), balloc _ _⟩
        · go_cut [4, 6, 108] (fun t4 t6 t wx => t4 = .bool F ∧ t6 = .bool K ∧ t = .bool ((K && !isNameB key) || (F && !isNameB fld) || !isTextB txt) ∧ wx = w.alloc (cmdO k key fld txt n))
          case first =>
            go_wp2_with (first
              | (go_at_call 48; refine (fieldMay_any _ _).mono ?_; rintro e w3 ⟨rfl, rfl⟩)
              | (go_at_call 49; refine (textMay_any _ _).mono ?_; rintro e w3 ⟨rfl, rfl⟩))
            all_goals go_meet
            all_goals try (case rel => simp_all)
          case rest =>
            obtain ⟨rfl, rfl, rfl, rfl⟩ := hcut
            rw [parts_eq HF HK]
            go_wp2_with (go_at_call 50; refine (countMay_any _ _).mono ?_; rintro e w3 ⟨rfl, rfl⟩)
            all_goals
              go_ret
              refine ⟨ret_int ?_, balloc _ _⟩
              have := of_inB hk
              rw [cmdFault, if_neg (by omega), if_neg (by simp_all)]
              simp_all

set_option maxHeartbeats 400000 in
theorem commandFault_any (k : Int) (key fld txt : ByteArray) (n : Int) (w : World) :
    Calls Try.prog 44 #[cmdV k key fld txt n] w fun e w' => e = .returned (.int .i64 (cmdFault k key fld txt n)) ∧ Below w.heap.size w w' := by
  by_cases hk : inB k 1 22 = true
  · exact commandFault_in k key fld txt n w hk
  · have hk : inB k 1 22 = false := by simpa using hk
    have ho : k < 1 ∨ 22 < k := by simp [inB] at hk; omega
    go_enter Try.func44, Try.ntmps44
    go_wp2_with (go_at_call 32; refine (in_any _ _ _ _).mono ?_; rintro e w3 ⟨rfl, rfl⟩)
    go_ret
    exact ⟨ret_int (by rw [cmdFault, if_pos ho]), balloc _ _⟩
end Go.Proofs.Ytpbgadojocgefaa
