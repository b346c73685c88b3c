/- Crash, and the document's answer to it. -/
import Derived.Test.YtafkdbogfgffbaaBe
namespace Go.Proofs.Ytafkdbogfgffbaa
open Go.RowKit
set_option linter.unusedVariables false
set_option maxRecDepth 100000

/-- How many bytes a crash leaves. -/
def leftN (n : Nat) (y z : Int) : Nat := (y + min z (n - y)).toNat
theorem leftN_le {n : Nat} {y z : Int} (hk : tapB n y = true) (h0 : 0 ≤ z) : leftN n y z ≤ n ∧ (leftN n y z : Int) = y + min z (n - y) := by
  simp [tapB] at hk
  unfold leftN
  omega

set_option maxHeartbeats 4000000 in
theorem crash_bad (a : Option Addr) (n c : Nat) (y z : Int) (w : World) (hk : tapB n y = false) :
    Calls Try.prog 14 #[tapV (.slice a n c) y, .int .i64 z] w fun e w' => e = .returned (.tuple #[tapV (.slice none 0 0) 0, .int .i64 13]) ∧ Below w.heap.size w w' := by
  have HC : Hid (∀ W, Calls Try.prog 25 #[tapV (.slice a n c) y] W fun e w' => e = .returned (.int .i64 13) ∧ Below W.heap.size W w') := fun W => by
    have := checkTape_any a n c y W; rwa [hk, if_neg (by decide)] at this
  clear hk
  go_enter Try.func14, Try.ntmps14
  go_wp2_with fail
  obtain ⟨n0, n1, hB0, hs0⟩ := two_at w (tapO (.slice a n c) y) (tapO (.slice none 0 0) 0)
  generalize (w.alloc (tapO (.slice a n c) y)).alloc (tapO (.slice none 0 0) 0) = V at n0 n1 hB0 hs0 ⊢
  refine (HC.out _).mono ?_
  rintro e w1 ⟨rfl, hb1⟩
  have hB1 := bstep hB0 hb1
  have m1 := (hb1.block _ (lt_at n1)).trans n1
  obtain ⟨c1, f1⟩ := cellsB m1
  have hz1 := lt_at m1
  clear hb1 n0 n1 hB0 hs0 HC m1
  go_wp2_with fail
  refine bodyPost_ret (v := .tuple #[tapV (.slice none 0 0) 0, .int .i64 13]) (by simp [results, Try.results14, go_sem, c1]) rfl ⟨rfl, ?_⟩
  first | exact hB1 | exact (hB1.setCell (by simp) _).setCell (by simp) _

set_option maxHeartbeats 4000000 in
theorem crashed_bad (a : Option Addr) (n c : Nat) (y z : Int) (w : World) (hk : tapB n y = false) :
    Calls Try.prog 15 #[tapV (.slice a n c) y, .int .i64 z] w fun e w' => e = .returned (.tuple #[tapV (.slice none 0 0) 0, .int .i64 13]) ∧ Below w.heap.size w w' := by
  have HC : Hid (∀ W, Calls Try.prog 27 #[tapV (.slice a n c) y] W fun e w' => e = .returned (.bool false) ∧ Below W.heap.size W w') := fun W => by
    have := tapeMay_any a n c y W; rwa [hk] at this
  clear hk
  go_enter Try.func15, Try.ntmps15
  go_wp2_with fail
  obtain ⟨n0, n1, hB0, hs0⟩ := two_at w (tapO (.slice a n c) y) (tapO (.slice none 0 0) 0)
  generalize (w.alloc (tapO (.slice a n c) y)).alloc (tapO (.slice none 0 0) 0) = V at n0 n1 hB0 hs0 ⊢
  refine (HC.out _).mono ?_
  rintro e w1 ⟨rfl, hb1⟩
  have hB1 := bstep hB0 hb1
  have m1 := (hb1.block _ (lt_at n1)).trans n1
  obtain ⟨c1, f1⟩ := cellsB m1
  have hz1 := lt_at m1
  clear hb1 n0 n1 hB0 hs0 HC m1
  go_wp2_with fail
  refine bodyPost_ret (v := .tuple #[tapV (.slice none 0 0) 0, .int .i64 13]) (by simp [results, Try.results15, go_sem, c1]) rfl ⟨rfl, ?_⟩
  first | exact hB1 | exact (hB1.setCell (by simp) _).setCell (by simp) _

set_option maxHeartbeats 4000000 in
theorem crash_neg (s : Value) (l : List UInt8) (y z : Int) (w : World) (h : RowB w s l) (hk : tapB l.length y = true) (h0 : z < 0) :
    Calls Try.prog 14 #[tapV s y, .int .i64 z] w fun e w' => e = .returned (.tuple #[tapV (.slice none 0 0) 0, .int .i64 2]) ∧ Below w.heap.size w w' := by
  obtain ⟨a, c, rfl⟩ := h.shape
  have HC : Hid (∀ W, Calls Try.prog 25 #[tapV (.slice a l.length c) y] W fun e w' => e = .returned (.int .i64 0) ∧ Below W.heap.size W w') := fun W => by
    have := checkTape_any a l.length c y W; rwa [hk, if_pos rfl] at this
  clear hk h
  go_enter Try.func14, Try.ntmps14
  go_wp2_with fail
  obtain ⟨n0, n1, hB0, hs0⟩ := two_at w (tapO (.slice a l.length c) y) (tapO (.slice none 0 0) 0)
  generalize (w.alloc (tapO (.slice a l.length c) y)).alloc (tapO (.slice none 0 0) 0) = V at n0 n1 hB0 hs0 ⊢
  refine (HC.out _).mono ?_
  rintro e w1 ⟨rfl, hb1⟩
  have hB1 := bstep hB0 hb1
  have m1 := (hb1.block _ (lt_at n1)).trans n1
  obtain ⟨c1, f1⟩ := cellsB m1
  have hz1 := lt_at m1
  clear hb1 n0 n1 hB0 hs0 HC m1
  go_wp2_with fail
  refine bodyPost_ret (v := .tuple #[tapV (.slice none 0 0) 0, .int .i64 2]) (by simp [results, Try.results14, go_sem, c1]) rfl ⟨rfl, ?_⟩
  first | exact hB1 | exact (hB1.setCell (by simp) _).setCell (by simp) _

set_option maxHeartbeats 4000000 in
theorem crashed_neg (s : Value) (l : List UInt8) (y z : Int) (w : World) (h : RowB w s l) (hk : tapB l.length y = true) (h0 : z < 0) :
    Calls Try.prog 15 #[tapV s y, .int .i64 z] w fun e w' => e = .returned (.tuple #[tapV (.slice none 0 0) 0, .int .i64 2]) ∧ Below w.heap.size w w' := by
  obtain ⟨a, c, rfl⟩ := h.shape
  have HC : Hid (∀ W, Calls Try.prog 27 #[tapV (.slice a l.length c) y] W fun e w' => e = .returned (.bool true) ∧ Below W.heap.size W w') := fun W => by
    have := tapeMay_any a l.length c y W; rwa [hk] at this
  clear hk h
  go_enter Try.func15, Try.ntmps15
  go_wp2_with fail
  obtain ⟨n0, n1, hB0, hs0⟩ := two_at w (tapO (.slice a l.length c) y) (tapO (.slice none 0 0) 0)
  generalize (w.alloc (tapO (.slice a l.length c) y)).alloc (tapO (.slice none 0 0) 0) = V at n0 n1 hB0 hs0 ⊢
  refine (HC.out _).mono ?_
  rintro e w1 ⟨rfl, hb1⟩
  have hB1 := bstep hB0 hb1
  have m1 := (hb1.block _ (lt_at n1)).trans n1
  obtain ⟨c1, f1⟩ := cellsB m1
  have hz1 := lt_at m1
  clear hb1 n0 n1 hB0 hs0 HC m1
  go_wp2_with fail
  refine bodyPost_ret (v := .tuple #[tapV (.slice none 0 0) 0, .int .i64 2]) (by simp [results, Try.results15, go_sem, c1]) rfl ⟨rfl, ?_⟩
  first | exact hB1 | exact (hB1.setCell (by simp) _).setCell (by simp) _

set_option maxHeartbeats 4000000 in
theorem crash_ok (s : Value) (l : List UInt8) (y z : Int) (w : World) (h : RowB w s l) (hk : tapB l.length y = true) (h0 : 0 ≤ z) (h9 : z ≤ 9223372036854775807) :
    Calls Try.prog 14 #[tapV s y, .int .i64 z] w fun e w' => ∃ r, e = .returned (.tuple #[tapV r (leftN l.length y z : Int), .int .i64 0]) ∧ OwnB w.heap.size w' r (l.take (leftN l.length y z)) ∧ Below w.heap.size w w' := by
  have HC : Hid (∀ W, Calls Try.prog 25 #[tapV s y] W fun e w' => e = .returned (.int .i64 0) ∧ Below W.heap.size W w') := fun W => by
    obtain ⟨a, c, rfl⟩ := h.shape
    have := checkTape_any a l.length c y W; rwa [hk, if_pos rfl] at this
  have hle := leftN_le hk h0
  have hlen : (l.take (leftN l.length y z)).length = leftN l.length y z := by simp; omega
  have HT : Hid (∀ W, Below w.heap.size w W → Calls Try.prog 26 #[tapV s y, .int .i64 (leftN l.length y z : Int), .int .i64 (leftN l.length y z : Int)] W fun e w' => ∃ r, e = .returned (tapV r (leftN l.length y z : Int)) ∧ OwnB W.heap.size w' r (l.take (leftN l.length y z)) ∧ Below W.heap.size W w') := fun W hW =>
    cut_any s l y (leftN l.length y z) (leftN l.length y z : Int) W (h.below hW) hle.1
  obtain ⟨a, c, rfl⟩ := h.shape
  simp [tapB] at hk
  have hsum := hle.2
  generalize leftN l.length y z = k at *
  generalize l.take k = L at *
  have q1 : IntKind.i64.wrap ((l.length : Int) - y) = (l.length : Int) - y := by rw [IntKind.wrap_i64]; omega
  have hz0 : ¬ z < 0 := by omega
  have HLn : Hid (L.length = k) := hlen
  have hyy : 0 ≤ y ∧ y ≤ (l.length : Int) ∧ l.length ≤ 400000 := by omega
  by_cases hlt : z < (l.length : Int) - y
  · have q2 : min z ((l.length : Int) - y) = z := by omega
    have q3 : y + z = (k : Int) := by omega
    have q4 : IntKind.i64.wrap (y + z) = (k : Int) := by rw [IntKind.wrap_i64]; omega
    clear hk h hle hlen hsum
    go_enter Try.func14, Try.ntmps14
    go_wp2_with fail
    obtain ⟨n0, n1, hB0, hs0⟩ := two_at w (tapO (.slice a l.length c) y) (tapO (.slice none 0 0) 0)
    generalize (w.alloc (tapO (.slice a l.length c) y)).alloc (tapO (.slice none 0 0) 0) = V at n0 n1 hB0 hs0 ⊢
    have hz : w.heap.size + 2 ≤ V.heap.size := by omega
    refine (HC.out _).mono ?_
    rintro e w1 ⟨rfl, hb1⟩
    have hB1 := bstep hB0 hb1
    have m0 := (hb1.block _ (lt_at n0)).trans n0
    have m1 := (hb1.block _ (lt_at n1)).trans n1
    have hz1 := Nat.le_trans hz hb1.size
    obtain ⟨c0, f0⟩ := cellsB m0
    clear hb1 n0 n1 hB0 hs0 HC hz
    go_wp2_with fail
    refine (HT.out _ hB1).mono ?_
    rintro e w2 ⟨r, rfl, hown, hb2⟩
    have hB2 := bstep hB1 hb2
    have k1 := (hb2.block _ (lt_at m1)).trans m1
    have ho := OwnB.base hown hz1
    obtain ⟨sa, sc, hsv⟩ := hown.shape
    rw [HLn.out] at hsv
    subst hsv
    obtain ⟨c1, f1⟩ := cellsB k1
    have hz2 := lt_at k1
    clear hown hb2 m0 m1 c0 f0 HT hB1 k1
    go_wp2_with fail
    refine bodyPost_ret (v := .tuple #[tapV (.slice sa k sc) (k : Int), .int .i64 0]) (by simp [results, Try.results14, go_sem, c1]) rfl ⟨_, rfl, ?_, ?_⟩
    · refine OwnB.base (B := w.heap.size + 2) ?_ (by omega)
      refine OwnB.setCell (OwnB.setCell ho ?_ _) ?_ _ <;> (show w.heap.size + 1 < w.heap.size + 2; omega)
    · exact (hB2.setCell (by simp) _).setCell (by simp) _
  · obtain rfl : k = l.length := by omega
    have q3 : y + ((l.length : Int) - y) = (l.length : Int) := by omega
    have q4 : IntKind.i64.wrap (y + ((l.length : Int) - y)) = (l.length : Int) := by rw [IntKind.wrap_i64]; omega
    by_cases heq : z = (l.length : Int) - y
    · subst heq
      clear hk h hle hlen hsum hlt
      go_enter Try.func14, Try.ntmps14
      go_wp2_with fail
      obtain ⟨n0, n1, hB0, hs0⟩ := two_at w (tapO (.slice a l.length c) y) (tapO (.slice none 0 0) 0)
      generalize (w.alloc (tapO (.slice a l.length c) y)).alloc (tapO (.slice none 0 0) 0) = V at n0 n1 hB0 hs0 ⊢
      have hz : w.heap.size + 2 ≤ V.heap.size := by omega
      refine (HC.out _).mono ?_
      rintro e w1 ⟨rfl, hb1⟩
      have hB1 := bstep hB0 hb1
      have m0 := (hb1.block _ (lt_at n0)).trans n0
      have m1 := (hb1.block _ (lt_at n1)).trans n1
      have hz1 := Nat.le_trans hz hb1.size
      obtain ⟨c0, f0⟩ := cellsB m0
      clear hb1 n0 n1 hB0 hs0 HC hz
      go_wp2_with fail
      refine (HT.out _ hB1).mono ?_
      rintro e w2 ⟨r, rfl, hown, hb2⟩
      have hB2 := bstep hB1 hb2
      have k1 := (hb2.block _ (lt_at m1)).trans m1
      have ho := OwnB.base hown hz1
      obtain ⟨sa, sc, hsv⟩ := hown.shape
      rw [HLn.out] at hsv
      subst hsv
      obtain ⟨c1, f1⟩ := cellsB k1
      have hz2 := lt_at k1
      clear hown hb2 m0 m1 c0 f0 HT hB1 k1
      go_wp2_with fail
      refine bodyPost_ret (v := .tuple #[tapV (.slice sa l.length sc) (l.length : Int), .int .i64 0]) (by simp [results, Try.results14, go_sem, c1]) rfl ⟨_, rfl, ?_, ?_⟩
      · refine OwnB.base (B := w.heap.size + 2) ?_ (by omega)
        refine OwnB.setCell (OwnB.setCell ho ?_ _) ?_ _ <;> (show w.heap.size + 1 < w.heap.size + 2; omega)
      · exact (hB2.setCell (by simp) _).setCell (by simp) _
    · have q2 : min z ((l.length : Int) - y) = (l.length : Int) - y := by omega
      have q5 : ¬ z ≤ (l.length : Int) - y := by omega
      have q6 : (l.length : Int) - y < z := by omega
      clear hk h hle hlen hsum
      go_enter Try.func14, Try.ntmps14
      go_wp2_with fail
      obtain ⟨n0, n1, hB0, hs0⟩ := two_at w (tapO (.slice a l.length c) y) (tapO (.slice none 0 0) 0)
      generalize (w.alloc (tapO (.slice a l.length c) y)).alloc (tapO (.slice none 0 0) 0) = V at n0 n1 hB0 hs0 ⊢
      have hz : w.heap.size + 2 ≤ V.heap.size := by omega
      refine (HC.out _).mono ?_
      rintro e w1 ⟨rfl, hb1⟩
      have hB1 := bstep hB0 hb1
      have m0 := (hb1.block _ (lt_at n0)).trans n0
      have m1 := (hb1.block _ (lt_at n1)).trans n1
      have hz1 := Nat.le_trans hz hb1.size
      obtain ⟨c0, f0⟩ := cellsB m0
      clear hb1 n0 n1 hB0 hs0 HC hz
      go_wp2_with fail
      refine (HT.out _ hB1).mono ?_
      rintro e w2 ⟨r, rfl, hown, hb2⟩
      have hB2 := bstep hB1 hb2
      have k1 := (hb2.block _ (lt_at m1)).trans m1
      have ho := OwnB.base hown hz1
      obtain ⟨sa, sc, hsv⟩ := hown.shape
      rw [HLn.out] at hsv
      subst hsv
      obtain ⟨c1, f1⟩ := cellsB k1
      have hz2 := lt_at k1
      clear hown hb2 m0 m1 c0 f0 HT hB1 k1
      go_wp2_with fail
      refine bodyPost_ret (v := .tuple #[tapV (.slice sa l.length sc) (l.length : Int), .int .i64 0]) (by simp [results, Try.results14, go_sem, c1]) rfl ⟨_, rfl, ?_, ?_⟩
      · refine OwnB.base (B := w.heap.size + 2) ?_ (by omega)
        refine OwnB.setCell (OwnB.setCell ho ?_ _) ?_ _ <;> (show w.heap.size + 1 < w.heap.size + 2; omega)
      · exact (hB2.setCell (by simp) _).setCell (by simp) _

set_option maxHeartbeats 8000000 in
theorem crashed_ok (s : Value) (l : List UInt8) (y z : Int) (w : World) (h : RowB w s l) (hk : tapB l.length y = true) (h0 : 0 ≤ z) (h9 : z ≤ 9223372036854775807) :
    Calls Try.prog 15 #[tapV s y, .int .i64 z] w fun e w' => ∃ r, e = .returned (.tuple #[tapV r (leftN l.length y z : Int), .int .i64 0]) ∧ OwnB w.heap.size w' r (l.take (leftN l.length y z)) ∧ Below w.heap.size w w' := by
  have HC : Hid (∀ W, Calls Try.prog 27 #[tapV s y] W fun e w' => e = .returned (.bool true) ∧ Below W.heap.size W w') := fun W => by
    obtain ⟨a, c, rfl⟩ := h.shape
    have := tapeMay_any a l.length c y W; rwa [hk] at this
  have hle := leftN_le hk h0
  have hlen : (l.take (leftN l.length y z)).length = leftN l.length y z := by simp; omega
  obtain ⟨a, c, rfl⟩ := h.shape
  have hc : l.length ≤ c ∧ c ≤ 9223372036854775807 := by
    obtain ⟨-, a', c', he, q1, q2, -⟩ := h
    simp only [Value.slice.injEq, true_and] at he
    omega
  have HL : Hid (∀ W, Below w.heap.size w W → Calls Try.prog 28 #[.slice a (leftN l.length y z) c, .slice none 0 0] W fun e w' => ∃ r, e = .returned r ∧ OwnB W.heap.size w' r (l.take (leftN l.length y z)) ∧ Below W.heap.size W w') := fun W hW => by
    have hh := h.1
    have := joined_any (.slice a (leftN l.length y z) c) (.slice none 0 0) (l.take (leftN l.length y z)) [] W (h.take hW _ c hle.1 (by omega) hc.2) (RowB.nil W) (by rw [hlen]; simp; omega); rwa [List.append_nil] at this
  simp [tapB] at hk
  have hsum := hle.2
  have hkl := hle.1
  generalize leftN l.length y z = k at *
  generalize l.take k = L at *
  have w1 : IntKind.i64.wrap ((l.length : Int) - y) = (l.length : Int) - y := by rw [IntKind.wrap_i64]; omega
  have hz0 : ¬ z < 0 := by omega
  have HLn : Hid (L.length = k) := hlen
  have v1 : (0 : Int) ≤ (k : Int) := by omega
  have v2 : (k : Int) ≤ (c : Int) := by omega
  have HW : Hid ((z < (l.length : Int) - y → y + z = (k : Int)) ∧ (¬ z < (l.length : Int) - y → l.length = k)) := ⟨fun _ => by omega, fun _ => by omega⟩
  have HK2 : Hid (tapB l.length y = tapB l.length y) := rfl
  have hyy : 0 ≤ y ∧ y ≤ (l.length : Int) ∧ l.length ≤ 400000 := by omega
  clear h hle hlen hsum hk
  go_enter Try.func15, Try.ntmps15
  go_wp2_with fail
  obtain ⟨n0, n1, hB0, hs0⟩ := two_at w (tapO (.slice a l.length c) y) (tapO (.slice none 0 0) 0)
  generalize (w.alloc (tapO (.slice a l.length c) y)).alloc (tapO (.slice none 0 0) 0) = V0 at n0 n1 hB0 hs0 ⊢
  have hz : w.heap.size + 2 ≤ V0.heap.size := by omega
  refine (HC.out _).mono ?_
  rintro e V ⟨rfl, hb1⟩
  have hB1 := bstep hB0 hb1
  have m0 := (hb1.block _ (lt_at n0)).trans n0
  have m1 := (hb1.block _ (lt_at n1)).trans n1
  have hz1 := Nat.le_trans hz hb1.size
  obtain ⟨c0, f0⟩ := cellsB m0
  clear hb1 n0 n1 hB0 hs0 HC hz
  by_cases hlt : z < (l.length : Int) - y
  · have w2 : IntKind.i64.wrap (y + z) = (k : Int) := by have := HW.out.1 hlt; rw [IntKind.wrap_i64]; omega
    have w3 : y + z = (k : Int) := HW.out.1 hlt
    go_wp2_with fail
    refine (HL.out _ hB1).mono ?_
    rintro e w2 ⟨r, rfl, hown, hb2⟩
    have hB2 := bstep hB1 hb2
    have k1 := (hb2.block _ (lt_at m1)).trans m1
    have ho := OwnB.base hown hz1
    obtain ⟨sa, sc, hsv⟩ := hown.shape
    rw [HLn.out] at hsv
    subst hsv
    obtain ⟨c1, f1⟩ := cellsB k1
    have hz2 := lt_at k1
    clear hown hb2 m0 m1 c0 f0 HL hB1 k1
    go_wp2_with fail
    refine bodyPost_ret (v := .tuple #[tapV (.slice sa k sc) (k : Int), .int .i64 0]) (by simp [results, Try.results15, go_sem, c1]) rfl ⟨_, rfl, ?_, ?_⟩
    · refine OwnB.base (B := w.heap.size + 2) ?_ (by omega)
      refine OwnB.setCell (OwnB.setCell ho ?_ _) ?_ _ <;> (show w.heap.size + 1 < w.heap.size + 2; omega)
    · exact (hB2.setCell (by simp) _).setCell (by simp) _
  · have hkk := HW.out.2 (by omega)
    subst hkk
    go_wp2_with fail
    refine (HL.out _ hB1).mono ?_
    rintro e w2 ⟨r, rfl, hown, hb2⟩
    have hB2 := bstep hB1 hb2
    have k1 := (hb2.block _ (lt_at m1)).trans m1
    have ho := OwnB.base hown hz1
    obtain ⟨sa, sc, hsv⟩ := hown.shape
    rw [HLn.out] at hsv
    subst hsv
    obtain ⟨c1, f1⟩ := cellsB k1
    have hz2 := lt_at k1
    clear hown hb2 m0 m1 c0 f0 HL hB1 k1
    go_wp2_with fail
    refine bodyPost_ret (v := .tuple #[tapV (.slice sa l.length sc) (l.length : Int), .int .i64 0]) (by simp [results, Try.results15, go_sem, c1]) rfl ⟨_, rfl, ?_, ?_⟩
    · refine OwnB.base (B := w.heap.size + 2) ?_ (by omega)
      refine OwnB.setCell (OwnB.setCell ho ?_ _) ?_ _ <;> (show w.heap.size + 1 < w.heap.size + 2; omega)
    · exact (hB2.setCell (by simp) _).setCell (by simp) _
end Go.Proofs.Ytafkdbogfgffbaa
