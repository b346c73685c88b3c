/- Replies: what the document's answer says of them, be the list a slice that came in. -/
import Derived.Test.YtnbgncmedippbaaRt
import Derived.Test.YtnbgncmedippbaaDc
import Derived.Test.YtnbgncmedippbaaCr
namespace Go.Proofs.Ytnbgncmedippbaa
open Go.RowKit
set_option linter.unusedVariables false

theorem any_take {α : Type} (pr : α → Bool) (l : List α) (k : Nat) (hk : k < l.length) : anyB pr (l.take (k + 1)) = (anyB pr (l.take k) || pr l[k]) := by
  unfold anyB
  rw [List.take_succ_eq_append_getElem hk, List.any_append]
  simp
theorem any_of_take {α : Type} (pr : α → Bool) (l : List α) (k : Nat) (h : anyB pr (l.take k) = true) : anyB pr l = true := by
  unfold anyB at *
  rw [List.any_eq_true] at *
  obtain ⟨x, hx, hp⟩ := h
  exact ⟨x, List.mem_of_mem_take hx, hp⟩

set_option maxHeartbeats 4000000 in
theorem replyFault_in (code : Int) (text : ByteArray) (n : Int) (ls : Value) (l : List ByteArray) (w : World) (h : RowT w ls l) :
    Calls Try.prog 23 #[.agg #[.int .i64 code, .string text, .int .i64 n, ls]] w fun e w' => e = .returned (.int .i64 (replyFault code text n l)) ∧ Below w.heap.size w w' := by
  obtain ⟨hll, la, lc, rfl, h1, h2, h3⟩ := h
  have hb0 := balloc w (.cells #[.int .i64 code, .string text, .int .i64 n, .slice la l.length lc] 45)
  have hfin : ∀ F : Int, (if code < 0 ∨ 13 < code then 3 else if (!isTextB text || decide (20 < l.length) || anyB wrongI l) = true then 1 else if isCountB n = false then 2 else 0) = F → replyFault code text n l = F := fun F h => h
  have HFIN : Hid (∀ F : Int, (if code < 0 ∨ 13 < code then 3 else if (!isTextB text || decide (20 < l.length) || anyB wrongI l) = true then 1 else if isCountB n = false then 2 else 0) = F → replyFault code text n l = F) := hfin
  clear hfin
  by_cases hcode : code < 0 ∨ 13 < code
  · have e0 : inB code 0 13 = false := by simp [inB]; omega
    go_enter Try.func23, Try.ntmps23
    go_wp2_with (go_at_call 34; refine (in_any _ _ _ _).mono ?_; rintro e w1 ⟨rfl, rfl⟩; rw [e0])
    go_ret
    exact ⟨ret_int (HFIN.out _ (if_pos hcode)).symm, hb0⟩
  have e0 : inB code 0 13 = true := by simp [inB]; omega
  by_cases ht : isTextB text = false ∨ 20 < l.length
  · have hone : (!isTextB text || decide (20 < l.length) || anyB wrongI l) = true := by
      rcases ht with h | h
      · simp [h]
      · simp [h]
    have HONE : Hid ((!isTextB text || decide (20 < l.length) || anyB wrongI l) = true) := hone
    clear hone h3
    have hlong : isTextB text = true → (20 : Int) < (l.length : Int) := fun h => by rcases ht with h' | h'; simp [h] at h'; omega
    have hF : Hid (isTextB text = true → (20 : Int) < (l.length : Int)) := hlong
    clear hlong ht
    cases ht' : isTextB text
    · have HT : Hid (isTextB text = false) := ht'
      clear ht' hF
      go_enter Try.func23, Try.ntmps23
      go_wp2_with (first
        | (go_at_call 34; refine (in_any _ _ _ _).mono ?_; rintro e w1 ⟨rfl, rfl⟩; rw [e0])
        | (go_at_call 36; refine (textMay_any _ _).mono ?_; rintro e w1 ⟨rfl, rfl⟩; rw [HT.out]))
      go_ret
      exact ⟨ret_int (HFIN.out _ (by rw [if_neg hcode, if_pos HONE.out])).symm, hb0⟩
    · have h20 := hF.out ht'
      have HT : Hid (isTextB text = true) := ht'
      clear ht' hF
      go_enter Try.func23, Try.ntmps23
      go_wp2_with (first
        | (go_at_call 34; refine (in_any _ _ _ _).mono ?_; rintro e w1 ⟨rfl, rfl⟩; rw [e0])
        | (go_at_call 36; refine (textMay_any _ _).mono ?_; rintro e w1 ⟨rfl, rfl⟩; rw [HT.out]))
      go_ret
      exact ⟨ret_int (HFIN.out _ (by rw [if_neg hcode, if_pos HONE.out])).symm, hb0⟩
  have t1 : isTextB text = true := by simpa using (not_or.1 ht).1
  have t2 : l.length ≤ 20 := by omega
  go_enter Try.func23, Try.ntmps23
  go_wp2_with (first
    | (go_at_call 34; refine (in_any _ _ _ _).mono ?_; rintro e w1 ⟨rfl, rfl⟩; rw [e0])
    | (go_at_call 36; refine (textMay_any _ _).mono ?_; rintro e w1 ⟨rfl, rfl⟩; rw [t1]))
  go_loop [3] (fun c => ∃ k : Nat, k ≤ l.length ∧ c = .int .i64 k ∧ anyB wrongI (l.take k) = false) (fun c => l.length - (intOf c).toNat)
  case atStart => exact ⟨0, Nat.zero_le _, rfl, rfl⟩
  case round =>
    obtain ⟨k, hk, rfl, hno⟩ := hrel
    have HN : Hid (anyB wrongI (l.take k) = false) := hno
    clear hno
    by_cases hlt : k < l.length
    · rcases h3 with rfl | ⟨b, off, rfl, hbk, hc⟩
      · simp at hlt
      · have c0 := (hb0.cell (p := ⟨b, off + k * 1 + 0, none⟩) hbk).trans (hc k hlt 0 (by omega))
        simp only [encI, List.getElem?_cons_zero, Nat.add_zero, Nat.mul_one] at c0
        clear hc
        have hT := any_take wrongI l k hlt
        rw [HN.out, Bool.false_or] at hT
        have HT : Hid (anyB wrongI (l.take (k + 1)) = wrongI l[k]) := hT
        clear hT
        cases hp : isTextB l[k]
        · have HP : Hid (isTextB l[k] = false) := hp
          clear hp
          have hany : anyB wrongI l = true := any_of_take wrongI l (k + 1) (by rw [HT.out, wrongI, HP.out]; rfl)
          have HA : Hid (anyB wrongI l = true) := hany
          clear hany
          go_wp2_with (go_at_call 36; refine (textMay_any _ _).mono ?_; rintro e w1 ⟨rfl, rfl⟩; rw [HP.out])
          go_ret
          exact ⟨ret_int (HFIN.out _ (by rw [if_neg hcode, if_pos (by rw [HA.out]; simp)])).symm, hb0⟩
        · have HP : Hid (isTextB l[k] = true) := hp
          clear hp
          go_wp2_with (go_at_call 36; refine (textMay_any _ _).mono ?_; rintro e w1 ⟨rfl, rfl⟩; rw [HP.out])
          go_round
          case rel => exact ⟨k + 1, by omega, by go_num, by rw [HT.out, wrongI, HP.out]; rfl⟩
          case measure => simp [intOf]; omega
    · have hall : anyB wrongI l = false := by have := HN.out; rwa [List.take_of_length_le (by omega)] at this
      have HA : Hid (anyB wrongI l = false) := hall
      clear hall h3
      cases hn : isCountB n
      · have HC : Hid (isCountB n = false) := hn
        clear hn
        go_wp2_with (go_at_call 38; refine (countMay_any _ _).mono ?_; rintro e w1 ⟨rfl, rfl⟩; rw [HC.out])
        go_ret
        exact ⟨ret_int (HFIN.out _ (by rw [if_neg hcode, if_neg (by rw [HA.out, t1]; simp; omega), if_pos HC.out])).symm, hb0⟩
      · have HC : Hid (isCountB n = true) := hn
        clear hn
        go_wp2_with (go_at_call 38; refine (countMay_any _ _).mono ?_; rintro e w1 ⟨rfl, rfl⟩; rw [HC.out])
        go_ret
        exact ⟨ret_int (HFIN.out _ (by rw [if_neg hcode, if_neg (by rw [HA.out, t1]; simp; omega), if_neg (by rw [HC.out]; simp)])).symm, hb0⟩
end Go.Proofs.Ytnbgncmedippbaa
