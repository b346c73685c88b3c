/- Tapes: copies, cuts, whether they may be, whether they are the same. -/
import Derived.Test.YtafkdbogfgffbaaBb
import Derived.Deep.RegionHeld3
namespace Go.Proofs.Ytafkdbogfgffbaa
open Go.RowKit
set_option linter.unusedVariables false
set_option maxRecDepth 100000

abbrev tapV (s : Value) (n : Int) : Value := .agg #[s, .int .i64 n]
abbrev tapO (s : Value) (n : Int) : Obj := .cells #[s, .int .i64 n] 36

theorem two_at (w : World) (o0 o1 : Obj) : ((w.alloc o0).alloc o1).heap[w.heap.size]? = some o0 ∧ ((w.alloc o0).alloc o1).heap[w.heap.size + 1]? = some o1 ∧ Below w.heap.size w ((w.alloc o0).alloc o1) ∧ ((w.alloc o0).alloc o1).heap.size = w.heap.size + 2 := by
  refine ⟨?_, ?_, (balloc _ _).alloc (by simp) _, by simp⟩
  · rw [Below.heap_alloc _ _ _ (by simp)]
    show ((_ : Array Obj).push _)[_]? = _
    simp
  · show ((_ : Array Obj).push _)[_]? = _
    rw [Array.getElem?_push, if_pos (by simp)]

set_option maxHeartbeats 2000000 in
theorem octets_any (s : Value) (l : List UInt8) (w : World) (h : RowB w s l) :
    Calls Try.prog 24 #[s] w fun e w' => ∃ r, e = .returned r ∧ OwnB w.heap.size w' r l ∧ Below w.heap.size w w' := by
  have hm := h.1
  go_enter Try.func24, Try.ntmps24
  go_wp2_with (at_builtin; refine wpList_append_bytes _ rfl _ _ rfl w.heap.size (.slice none 0 0) [] rfl (OwnB.nil _ _) s l rfl h ?_ ?_ ?_)
  · simpa using hm
  · simp
  intro v1 w1 hown1 hg1
  have hb1 : Below w.heap.size w w1 := (Below.refl _ _).grown hg1 (Nat.le_refl _) (fun k hk => by cases hk)
  obtain ⟨sa, sc, rfl⟩ := hown1.shape
  clear hg1
  have ho : OwnB w.heap.size w1 (.slice sa ([] ++ l).length sc) l := by simpa using hown1
  simp only [List.nil_append] at ho ⊢
  clear hown1
  go_wp2_with fail
  go_ret
  exact ⟨_, rfl, ho, hb1⟩
set_option maxHeartbeats 2000000 in
theorem listB_any (s : Value) (l : List UInt8) (w : World) (h : RowB w s l) :
    Calls Try.prog 43 #[s] w fun e w' => ∃ r, e = .returned r ∧ OwnB w.heap.size w' r l ∧ Below w.heap.size w w' := by
  have hm := h.1
  go_enter Try.func43, Try.ntmps43
  go_wp2_with (at_builtin; refine wpList_append_bytes _ rfl _ _ rfl w.heap.size (.slice none 0 0) [] rfl (OwnB.nil _ _) s l rfl h ?_ ?_ ?_)
  · simpa using hm
  · simp
  intro v1 w1 hown1 hg1
  have hb1 : Below w.heap.size w w1 := (Below.refl _ _).grown hg1 (Nat.le_refl _) (fun k hk => by cases hk)
  obtain ⟨sa, sc, rfl⟩ := hown1.shape
  clear hg1
  have ho : OwnB w.heap.size w1 (.slice sa ([] ++ l).length sc) l := by simpa using hown1
  simp only [List.nil_append] at ho ⊢
  clear hown1
  go_wp2_with fail
  go_ret
  exact ⟨_, rfl, ho, hb1⟩

def tapB (n : Nat) (y : Int) : Bool := decide (n ≤ 400000) && decide (0 ≤ y) && decide (y ≤ n)

set_option maxHeartbeats 2000000 in
theorem checkTape_any (a : Option Addr) (n c : Nat) (y : Int) (w : World) :
    Calls Try.prog 25 #[tapV (.slice a n c) y] w fun e w' => e = .returned (.int .i64 (if tapB n y = true then 0 else 13)) ∧ Below w.heap.size w w' := by
  have hB0 := balloc w (tapO (.slice a n c) y)
  by_cases h1 : n ≤ 400000
  · have g1 : ¬ (400000 < (n : Int)) := by omega
    by_cases h2 : 0 ≤ y
    · have g2 : ¬ y < 0 := by omega
      by_cases h3 : y ≤ (n : Int)
      · have g3 : ¬ (n : Int) < y := by omega
        rw [if_pos (by simp [tapB, h1, h2, h3])]
        go_enter Try.func25, Try.ntmps25
        go_wp2_with fail
        go_ret
        exact ⟨rfl, hB0⟩
      · have g3 : (n : Int) < y := by omega
        rw [if_neg (by simp [tapB, h3])]
        go_enter Try.func25, Try.ntmps25
        go_wp2_with fail
        go_ret
        exact ⟨rfl, hB0⟩
    · have g2 : y < 0 := by omega
      rw [if_neg (by simp [tapB, h2])]
      go_enter Try.func25, Try.ntmps25
      go_wp2_with fail
      go_ret
      exact ⟨rfl, hB0⟩
  · have g1 : 400000 < (n : Int) := by omega
    rw [if_neg (by simp [tapB, h1])]
    go_enter Try.func25, Try.ntmps25
    go_wp2_with fail
    go_ret
    exact ⟨rfl, hB0⟩

set_option maxHeartbeats 1000000 in
theorem inB_any (n lo hi : Int) (w : World) : Calls Try.prog 40 #[.int .i64 n, .int .i64 lo, .int .i64 hi] w fun e w' => e = .returned (.bool (decide (lo ≤ n) && decide (n ≤ hi))) ∧ w = w' := by
  go_enter Try.func40, Try.ntmps40
  go_wp2
  all_goals (go_ret; exact ⟨ret_bool (by (try simp_all) <;> (try omega)), rfl⟩)

set_option maxHeartbeats 2000000 in
theorem tapeMay_any (a : Option Addr) (n c : Nat) (y : Int) (w : World) :
    Calls Try.prog 27 #[tapV (.slice a n c) y] w fun e w' => e = .returned (.bool (tapB n y)) ∧ Below w.heap.size w w' := by
  have hB0 := balloc w (tapO (.slice a n c) y)
  have HI : Hid (∀ W, Calls Try.prog 40 #[.int .i64 y, .int .i64 0, .int .i64 (n : Int)] W fun e w' => e = .returned (.bool (decide (0 ≤ y) && decide (y ≤ (n : Int)))) ∧ W = w') := fun W => inB_any y 0 n W
  by_cases h1 : n ≤ 400000
  · have g1 : (n : Int) ≤ 400000 := by omega
    have e1 : tapB n y = (decide (0 ≤ y) && decide (y ≤ (n : Int))) := by simp [tapB, h1]
    rw [e1]
    generalize (decide (0 ≤ y) && decide (y ≤ (n : Int))) = q at *
    go_enter Try.func27, Try.ntmps27
    go_wp2_with fail
    refine (HI.out _).mono ?_
    rintro e w1 ⟨rfl, rfl⟩
    go_wp2_with fail
    go_ret
    exact ⟨rfl, hB0⟩
  · have g1 : ¬ (n : Int) ≤ 400000 := by omega
    have e1 : tapB n y = false := by simp [tapB, h1]
    rw [e1]
    go_enter Try.func27, Try.ntmps27
    go_wp2_with fail
    go_ret
    exact ⟨rfl, hB0⟩

set_option maxHeartbeats 4000000 in
theorem sameTape_any (s s' : Value) (l : List UInt8) (y : Int) (w : World) (h : RowB w s l) (h' : RowB w s' l) :
    Calls Try.prog 13 #[tapV s y, tapV s' y] w fun e w' => e = .returned (.bool true) ∧ Below w.heap.size w w' := by
  obtain ⟨a, c, rfl⟩ := h.shape
  obtain ⟨a', c', rfl⟩ := h'.shape
  have hB0 := (balloc w (tapO (.slice a l.length c) y)).alloc (by simp) (tapO (.slice a' l.length c') y)
  have t1 := run_text (h.below hB0)
  have t2 := run_text (h'.below hB0)
  clear h h'
  go_enter Try.func13, Try.ntmps13
  go_wp2_with fail
  go_ret
  exact ⟨ret_bool (by simp), hB0⟩
end Go.Proofs.Ytafkdbogfgffbaa
