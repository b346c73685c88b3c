/- The document's small functions on values: sizes, scores, members. -/
import Derived.Test.YtnlaehpldmkdoaaVr
import Derived.Test.YtnlaehpldmkdoaaRx
import Derived.Test.YtnlaehpldmkdoaaCr
import Derived.Test.YtnlaehpldmkdoaaCd
namespace Go.Proofs.Ytnlaehpldmkdoaa
open Go.RowKit
set_option linter.unusedVariables false
set_option maxRecDepth 100000

set_option maxHeartbeats 400000 in
theorem sizeOf_any (kind : Int) (text : ByteArray) (count : Int) (pa ia sa : Option Addr) (np pc ni ic ns sc : Nat) (w : World)
    (b1 : np ≤ 140737488355328) (b2 : ni ≤ 140737488355328) (b3 : ns ≤ 140737488355328) :
    Calls Try.prog 44 #[valV kind text count (.slice pa np pc) (.slice ia ni ic) (.slice sa ns sc)] w fun e w' => e = .returned (.int .i64 ((np + ni + ns : Nat) : Int)) ∧ Below w.heap.size w w' := by
  go_enter Try.func44, Try.ntmps44
  go_wp2
  go_ret
  exact ⟨ret_int (by simp), balloc _ _⟩

set_option maxHeartbeats 1000000 in
theorem scoreAhead_any (a b : ByteArray × Int) (w : World) :
    Calls Try.prog 48 #[valS a, valS b] w fun e w' => e = .returned (.bool (ltSc a b)) ∧ Below w.heap.size w w' := by
  obtain ⟨a1, a2⟩ := a
  obtain ⟨b1, b2⟩ := b
  have hl : ltSc (a1, a2) (b1, b2) = if a2 = b2 then ltS a1 b1 else decide (a2 < b2) := by
    rw [Bool.eq_iff_iff, ltSc_iff]
    by_cases h : a2 = b2
    · simp [h]
    · simp [h]
  have HL : Hid (ltSc (a1, a2) (b1, b2) = if a2 = b2 then ltS a1 b1 else decide (a2 < b2)) := hl
  clear hl
  by_cases h : a2 = b2
  · subst h
    go_enter Try.func48, Try.ntmps48
    go_wp2
    go_ret
    exact ⟨ret_bool (by rw [HL.out]; simp [ltS]), (balloc _ _).alloc (by simp) _⟩
  · have hb : (a2 != b2) = true := by simpa using h
    go_enter Try.func48, Try.ntmps48
    go_wp2
    go_ret
    exact ⟨ret_bool (by rw [HL.out, if_neg h]), (balloc _ _).alloc (by simp) _⟩

set_option maxHeartbeats 1000000 in
theorem memberAt_any (s : Value) (l : List (ByteArray × Int)) (m : ByteArray) (w : World) (h : RowW 2 encS w s l) :
    Calls Try.prog 49 #[s, .string m] w fun e w' => e = .returned (.int .i64 (idxI (fun p => p.1.toList == m.toList) l)) ∧ w = w' := by
  obtain ⟨hl, a, cap, rfl, h1, h2, h3⟩ := h
  go_enter Try.func49, Try.ntmps49
  go_wp2
  go_loop [5] (fun c => ∃ k : Nat, k ≤ l.length ∧ c = .int .i64 k ∧ ∀ j (hj : j < k) (hl : j < l.length), (l[j].1.toList == m.toList) = false) (fun c => l.length - (intOf c).toNat)
  case atStart => exact ⟨0, Nat.zero_le _, rfl, fun j hj => absurd hj (Nat.not_lt_zero _)⟩
  case round =>
    obtain ⟨k, hk, rfl, hno⟩ := hrel
    have HN : Hid (∀ j (hj : j < k) (hl : j < l.length), (l[j].1.toList == m.toList) = false) := hno
    clear hno
    by_cases hlt : k < l.length
    · rcases h3 with rfl | ⟨b, off, rfl, hbk, hc⟩
      · simp at hlt
      · have c0 := hc k hlt 0 (by omega)
        have c1 := hc k hlt 1 (by omega)
        simp only [encS, List.getElem?_cons_zero, List.getElem?_cons_succ, Nat.add_zero] at c0 c1
        clear hc
        cases hp : (l[k].1.toList == m.toList)
        · have HP : Hid ((l[k].1.toList == m.toList) = false) := hp
          go_wp2_with fail
          go_round
          case rel => exact ⟨k + 1, by omega, by go_num, fun j hj hl => by
            by_cases e : j = k
            · subst e; exact HP.out
            · exact HN.out j (by omega) hl⟩
          case measure => simp [intOf]; omega
        · have HP : Hid ((l[k].1.toList == m.toList) = true) := hp
          go_wp2_with fail
          go_ret
          exact ⟨ret_int (idxI_found (fun p : ByteArray × Int => p.1.toList == m.toList) l k hlt (fun j hj => HN.out j hj (by omega)) HP.out).symm, rfl⟩
    · go_wp2_with fail
      go_ret
      exact ⟨ret_int (idxI_none (fun p : ByteArray × Int => p.1.toList == m.toList) l (fun j hj => HN.out j (by omega) hj)).symm, rfl⟩
theorem member_yes {l : List (ByteArray × Int)} {m : Nat} {t : ByteArray} (hm : m + 1 < l.length) (h : anyB (fun p => p.1.toList == t.toList) (l.take (m + 1)) = true) : ∃ j, ∃ hj : j ≤ m, (l[j]'(by omega)).1 = t := by
  unfold anyB at h
  rw [List.any_eq_true] at h
  obtain ⟨x, hx, hp⟩ := h
  obtain ⟨j, hj, rfl⟩ := List.getElem_of_mem hx
  rw [List.length_take] at hj
  refine ⟨j, by omega, ?_⟩
  rw [List.getElem_take] at hp
  exact bytes_ext (by simpa using hp)
theorem member_no {l : List (ByteArray × Int)} {m : Nat} {t : ByteArray} (hm : m + 1 < l.length) (h : anyB (fun p => p.1.toList == t.toList) (l.take (m + 1)) = false) : ∀ j (hj : j ≤ m), (l[j]'(by omega)).1 ≠ t := by
  intro j hj e
  unfold anyB at h
  rw [List.any_eq_false] at h
  have := h (l[j]'(by omega)) (by
    have h2 : (l.take (m + 1))[j]'(by rw [List.length_take]; omega) = l[j]'(by omega) := List.getElem_take
    rw [← h2]; exact List.getElem_mem _)
  rw [e] at this
  simp at this
end Go.Proofs.Ytnlaehpldmkdoaa
