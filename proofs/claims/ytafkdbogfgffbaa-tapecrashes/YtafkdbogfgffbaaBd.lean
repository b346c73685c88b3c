/- Tapes: first, cut, the copies of the laws, the document's joined. -/
import Derived.Test.YtafkdbogfgffbaaBc
namespace Go.Proofs.Ytafkdbogfgffbaa
open Go.RowKit
set_option linter.unusedVariables false
set_option maxRecDepth 100000

theorem RowB.take {w W : World} {a : Option Addr} {cap : Nat} {l : List UInt8} (h : RowB w (.slice a l.length cap) l) (hW : Below w.heap.size w W) (k c : Nat) (hk : k ≤ l.length) (hc : k ≤ c) (hc' : c ≤ 9223372036854775807) : RowB W (.slice a k c) (l.take k) := by
  obtain ⟨hl, a', cap', hs, h1, h2, h3⟩ := h
  simp only [Value.slice.injEq, true_and] at hs
  obtain ⟨rfl, rfl⟩ := hs
  have hlen : (l.take k).length = k := by simp; omega
  refine ⟨by omega, a, c, by rw [hlen], by omega, hc', ?_⟩
  rcases h3 with rfl | ⟨b, off, ha, hb, hcl⟩
  · exact .inl (by simp)
  · exact .inr ⟨b, off, ha, bsize hW hb, fun i hi => by
      have hi' : i < l.length := by omega
      have := (hW.cell (p := ⟨b, off + i, none⟩) hb).trans (hcl i hi')
      rw [this]; simp⟩

set_option maxHeartbeats 1000000 in
theorem first_any (a : Option Addr) (n c k : Nat) (w : World) (hk : k ≤ n) (hn : n ≤ c) (hc : c ≤ 9223372036854775807) :
    Calls Try.prog 44 #[.slice a n c, .int .i64 (k : Int)] w fun e w' => e = .returned (.slice a k k) ∧ w = w' := by
  have v1 : (0 : Int) ≤ (k : Int) := by omega
  have v2 : (k : Int) ≤ (c : Int) := by omega
  cases a with
  | none =>
    go_enter Try.func44, Try.ntmps44
    go_wp2_with fail
    go_ret
    exact ⟨by simp, rfl⟩
  | some ad =>
    go_enter Try.func44, Try.ntmps44
    go_wp2_with fail
    go_ret
    exact ⟨by simp, rfl⟩

set_option maxHeartbeats 4000000 in
theorem cut_any (s : Value) (l : List UInt8) (y : Int) (k : Nat) (z : Int) (w : World) (h : RowB w s l) (hk : k ≤ l.length) :
    Calls Try.prog 26 #[tapV s y, .int .i64 (k : Int), .int .i64 z] w fun e w' => ∃ r, e = .returned (tapV r z) ∧ OwnB w.heap.size w' r (l.take k) ∧ Below w.heap.size w w' := by
  obtain ⟨a, c, rfl⟩ := h.shape
  have hc : l.length ≤ c ∧ c ≤ 9223372036854775807 := by
    obtain ⟨-, a', c', he, q1, q2, -⟩ := h
    simp only [Value.slice.injEq, true_and] at he
    omega
  have HF : Hid (∀ W, Calls Try.prog 44 #[.slice a l.length c, .int .i64 (k : Int)] W fun e w' => e = .returned (.slice a k k) ∧ W = w') := fun W => first_any a _ c k W hk hc.1 hc.2
  have HL : Hid (∀ W, Below w.heap.size w W → Calls Try.prog 43 #[.slice a k k] W fun e w' => ∃ r, e = .returned r ∧ OwnB W.heap.size w' r (l.take k) ∧ Below W.heap.size W w') := fun W hW => listB_any _ _ W (h.take hW k k hk (Nat.le_refl _) (by omega))
  generalize l.take k = L at *
  clear h
  go_enter Try.func26, Try.ntmps26
  go_wp2_with fail
  obtain ⟨n0, n1, hB0, hs0⟩ := two_at w (tapO (.slice a l.length c) y) (tapO (.slice none 0 0) 0)
  generalize (w.alloc (tapO (.slice a l.length c) y)).alloc (tapO (.slice none 0 0) 0) = V at n0 n1 hB0 hs0 ⊢
  refine (HF.out _).mono ?_
  rintro e w1 ⟨rfl, rfl⟩
  go_wp2_with fail
  refine (HL.out _ hB0).mono ?_
  rintro e w1 ⟨r, rfl, hown, hb1⟩
  have hB1 := bstep hB0 hb1
  have m1 := (hb1.block _ (lt_at n1)).trans n1
  have ho : OwnB (w.heap.size + 2) w1 r L := by rw [← hs0]; exact hown
  obtain ⟨sa, sc, rfl⟩ := hown.shape
  obtain ⟨c1, f1⟩ := cellsB m1
  have hz1 := lt_at m1
  clear hown hb1 n0 n1 hB0 hs0 HF HL m1
  go_wp2_with fail
  refine bodyPost_ret (v := tapV (.slice sa L.length sc) z) (by simp [results, Try.results26, go_sem, c1]) rfl ⟨_, rfl, ?_, ?_⟩
  · refine OwnB.base (B := w.heap.size + 2) ?_ (by omega)
    refine OwnB.setCell (OwnB.setCell ho ?_ _) ?_ _ <;> (show w.heap.size + 1 < w.heap.size + 2; omega)
  · exact (hB1.setCell (by simp) _).setCell (by simp) _

set_option maxHeartbeats 8000000 in
theorem tapes_any (s : Value) (l : List UInt8) (y : Int) (w : World) (h : RowB w s l) :
    Calls Try.prog 10 #[tapV s y] w fun e w' => ∃ r, e = .returned (tapV r y) ∧ OwnB w.heap.size w' r l ∧ Below w.heap.size w w' := by
  have HL : Hid (∀ W, Below w.heap.size w W → Calls Try.prog 24 #[s] W fun e w' => ∃ r, e = .returned r ∧ OwnB W.heap.size w' r l ∧ Below W.heap.size W w') := fun W hW => octets_any _ _ W (h.below hW)
  obtain ⟨a, c, rfl⟩ := h.shape
  clear h
  go_enter Try.func10, Try.ntmps10
  go_wp2_with fail
  obtain ⟨n0, n1, hB0, hs0⟩ := two_at w (tapO (.slice a l.length c) y) (tapO (.slice none 0 0) 0)
  generalize (w.alloc (tapO (.slice a l.length c) y)).alloc (tapO (.slice none 0 0) 0) = V at n0 n1 hB0 hs0 ⊢
  obtain ⟨c0, f0⟩ := cellsB n0
  obtain ⟨c1, f1⟩ := cellsB n1
  have HK : Hid (V.heap[w.heap.size + 1]? = some (tapO (.slice none 0 0) 0)) := n1
  have HZ : Hid (w.heap.size + 2 ≤ V.heap.size) := by show w.heap.size + 2 ≤ V.heap.size; omega
  have hz0 := lt_at n0
  have hz1 := lt_at n1
  have hBL : w.heap.size ≤ w.heap.size + 1 := by omega
  have hne : ¬ w.heap.size + 1 = w.heap.size := by omega
  have hne' : ¬ w.heap.size = w.heap.size + 1 := by omega
  have HB1 : Hid (w.heap.size + 1 < w.heap.size + 2) := by show w.heap.size + 1 < w.heap.size + 2; omega
  obtain ⟨r0, r1⟩ : V.cell? ⟨w.heap.size, 0, none⟩ = some (.slice a l.length c) ∧ V.cell? ⟨w.heap.size, 1, none⟩ = some (.int .i64 y) := ⟨c0 0, c0 1⟩
  clear c0 n0 n1 hs0
  generalize w.heap.size + 1 = b1 at *
  generalize hb0 : w.heap.size = b0 at r0 r1 hne hne' hz0 f0 ⊢
  have HB0 : Hid (w.heap.size = b0) := hb0
  clear hb0
  go_region_held3 (fun w' => w'.cell? ⟨b0, 0, none⟩ = some (.slice a l.length c) ∧ w'.cell? ⟨b0, 1, none⟩ = some (.int .i64 y)) (go_keep) (first
    | (go_at_call 24; (with_reducible refine (HL.out _ hB0.drew).mono ?_); rintro e w5 ⟨r, rfl, hown, hb5⟩; obtain ⟨sa, sc, rfl⟩ := hown.shape; obtain ⟨x1, x2⟩ := same_block (hb5.block b0 hz0); obtain ⟨x3, x4⟩ := same_block (hb5.block b1 hz1)))
  have n5 := (hb5.block b1 hz1).trans HK.out
  have hB5 : Below w.heap.size w w5 := bstep hB0.drew hb5
  have ho5 : OwnB (w.heap.size + 2) w5 (.slice sa l.length sc) l := OwnB.base hown HZ.out
  obtain ⟨y1, y2⟩ := cellsB n5
  clear x1 x2 x3 x4 hown hb5
  go_wp2_with fail
  refine bodyPost_ret (v := tapV (.slice sa l.length sc) y) (by simp [results, Try.results10, go_sem, y1]) rfl ⟨_, rfl, ?_, ?_⟩
  · refine OwnB.base (B := w.heap.size + 2) ?_ (by omega)
    exact OwnB.setCell (OwnB.setCell ho5 HB1.out _) HB1.out _
  · exact (hB5.setCell hBL _).setCell hBL _

/-- One byte in a new row. -/
theorem row_byte (w : World) (x : UInt8) : RowB (w.alloc (.cells #[byteV x] 5)) (.slice (some ⟨w.heap.size, 0, none⟩) 1 1) [x] := by
  refine ⟨by simp, _, 1, rfl, by simp, by omega, .inr ⟨w.heap.size, 0, rfl, by simp, fun i hi => ?_⟩⟩
  obtain rfl : i = 0 := by simpa using hi
  exact (cellsB (alloc_at w (.cells #[byteV x] 5))).1 0
end Go.Proofs.Ytafkdbogfgffbaa
