/- The document's joined; Sync, and the document's answer to it. -/
import Derived.Test.YtafkdbogfgffbaaBd
namespace Go.Proofs.Ytafkdbogfgffbaa
open Go.RowKit
set_option linter.unusedVariables false
set_option maxRecDepth 100000

set_option maxHeartbeats 8000000 in
theorem joined_any (s1 s2 : Value) (l1 l2 : List UInt8) (w : World) (h1 : RowB w s1 l1) (h2 : RowB w s2 l2) (hm : l1.length + l2.length ≤ 140737488355328) :
    Calls Try.prog 28 #[s1, s2] w fun e w' => ∃ r, e = .returned r ∧ OwnB w.heap.size w' r (l1 ++ l2) ∧ Below w.heap.size w w' := by
  obtain ⟨-, a1, c1, rfl, -, -, k1⟩ := h1
  obtain ⟨-, a2, c2, rfl, -, -, k2⟩ := h2
  go_enter Try.func28, Try.ntmps28
  go_wp2_with fail
  go_loopw [5, 6] (fun sv c wr => ∃ m : Nat, c = .int .i64 (m : Int) ∧ m ≤ l1.length ∧ OwnB w.heap.size wr sv (l1.take m) ∧ Below w.heap.size w wr) (fun _ c _ => l1.length - (intOf c).toNat)
  case atStart => exact ⟨0, by simp, by omega, by simpa using OwnB.nil _ _, Below.refl _ _⟩
  case round =>
    obtain ⟨m, rfl, hmm, hown, hb⟩ := hrel
    obtain ⟨va, vc, rfl⟩ := hown.shape
    have hsz := hb.size
    have hlen : (l1.take m).length = m := by simp; omega
    have HO : Hid (OwnB w.heap.size wr (.slice va (l1.take m).length vc) (l1.take m)) := hown
    clear hown
    rw [hlen] at HO ⊢
    by_cases hlt : m < l1.length
    · have hi0 : (m : Int) < (l1.length : Int) := by omega
      rcases k1 with rfl | ⟨bk, off, rfl, hbk, hc⟩
      · simp at hlt
      · have q1 : wr.cell? ⟨bk, off + m, none⟩ = some (byteV l1[m]) := (hb.cell (p := ⟨bk, off + m, none⟩) hbk).trans (hc m hlt)
        have htk : l1.take m ++ [l1[m]] = l1.take (m + 1) := (List.take_succ_eq_append_getElem hlt).symm
        have HTK : Hid (l1.take m ++ [l1[m]] = l1.take (m + 1)) := htk
        have hlen2 : (l1.take (m + 1)).length = m + 1 := by simp; omega
        have HLN : Hid ((l1.take (m + 1)).length = m + 1) := hlen2
        clear hc htk hlen2
        have HRN : Hid (RowB (wr.alloc (.cells #[byteV l1[m]] 5)) (.slice (some ⟨wr.heap.size, 0, none⟩) 1 1) [l1[m]]) := row_byte wr _
        generalize l1[m] = x at *
        have HO' : Hid (OwnB w.heap.size wr (.slice va m vc) (l1.take m)) := HO.out
        clear hlen
        go_wp2_with (at_builtin; refine wpList_append_bytes _ rfl _ _ rfl w.heap.size _ (l1.take m) rfl (World.ownsRow.alloc HO'.out (.cells #[byteV x] 5)) _ [x] rfl HRN.out ?_ ?_ ?_)
        · simp; omega
        · have := hsz; simp; omega
        intro v1 w2 hown1 hg1
        have hB2 : Below w.heap.size w w2 := (hb.alloc hb.size (.cells #[byteV x] 5)).trans (OwnB.below (World.ownsRow.alloc HO'.out (.cells #[byteV x] 5)) (by simp; omega) hg1)
        rw [HTK.out] at hown1
        obtain ⟨ya, yc, hy⟩ := hown1.shape
        have HO1 : Hid (OwnB w.heap.size w2 v1 (l1.take (m + 1))) := hown1
        rw [HLN.out] at hy
        subst hy
        clear hown1 hg1 HO HO' HRN HTK
        go_wp2_with fail
        exact ⟨⟨m + 1, by go_num, by omega, HO1.out, hB2⟩, by simp [intOf]; omega⟩
    · have hge : ¬ (m : Int) < (l1.length : Int) := by omega
      have hml : m = l1.length := by omega
      have ho := HO.out
      rw [hml, List.take_length] at ho
      have HO2 : Hid (OwnB w.heap.size wr (.slice va l1.length vc) l1) := ho
      have HB2 : Hid (Below w.heap.size w wr) := hb
      subst hml
      clear ho HO hlen k1
      go_wp2_with fail
      go_loopw [5, 7] (fun sv c wq => ∃ m : Nat, c = .int .i64 (m : Int) ∧ m ≤ l2.length ∧ OwnB w.heap.size wq sv (l1 ++ l2.take m) ∧ Below w.heap.size w wq) (fun _ c _ => l2.length - (intOf c).toNat)
      case atStart => exact ⟨0, by simp, by omega, by simpa using HO2.out, HB2.out⟩
      case round =>
        obtain ⟨m, rfl, hmm2, hown, hb2⟩ := hrel
        obtain ⟨va, vc, rfl⟩ := hown.shape
        have hsz2 := hb2.size
        have hlen : (l1 ++ l2.take m).length = l1.length + m := by simp; omega
        have HO : Hid (OwnB w.heap.size wr (.slice va (l1 ++ l2.take m).length vc) (l1 ++ l2.take m)) := hown
        clear hown
        rw [hlen] at HO ⊢
        by_cases hlt : m < l2.length
        · have hi0 : (m : Int) < (l2.length : Int) := by omega
          rcases k2 with rfl | ⟨bk, off, rfl, hbk, hc⟩
          · simp at hlt
          · have q1 : wr.cell? ⟨bk, off + m, none⟩ = some (byteV l2[m]) := (hb2.cell (p := ⟨bk, off + m, none⟩) hbk).trans (hc m hlt)
            have htk : l1 ++ (l2.take m ++ [l2[m]]) = l1 ++ l2.take (m + 1) := by rw [List.take_succ_eq_append_getElem hlt]
            have HTK : Hid (l1 ++ (l2.take m ++ [l2[m]]) = l1 ++ l2.take (m + 1)) := htk
            have hlen2 : (l1 ++ l2.take (m + 1)).length = l1.length + (m + 1) := by simp; omega
            have HLN : Hid ((l1 ++ l2.take (m + 1)).length = l1.length + (m + 1)) := hlen2
            have HL1 : Hid ((l1 ++ l2.take m).length = l1.length + m) := hlen
            clear hc htk hlen2
            have HRN : Hid (RowB (wr.alloc (.cells #[byteV l2[m]] 5)) (.slice (some ⟨wr.heap.size, 0, none⟩) 1 1) [l2[m]]) := row_byte wr _
            generalize l2[m] = x at *
            clear hlen
            go_wp2_with (at_builtin; refine wpList_append_bytes _ rfl _ _ rfl w.heap.size _ (l1 ++ l2.take m) rfl (World.ownsRow.alloc HO.out (.cells #[byteV x] 5)) _ [x] rfl HRN.out ?_ ?_ ?_)
            · rw [HL1.out]; simp; omega
            · have := hsz2; simp; omega
            intro v1 w2 hown1 hg1
            have hB2 : Below w.heap.size w w2 := (hb2.alloc hb2.size (.cells #[byteV x] 5)).trans (OwnB.below (World.ownsRow.alloc HO.out (.cells #[byteV x] 5)) (by simp; omega) hg1)
            rw [HTK.out] at hown1
            obtain ⟨ya, yc, hy⟩ := hown1.shape
            have HO1 : Hid (OwnB w.heap.size w2 v1 (l1 ++ l2.take (m + 1))) := hown1
            rw [HLN.out] at hy
            subst hy
            clear hown1 hg1 HO HRN HTK
            go_wp2_with fail
            exact ⟨⟨m + 1, by go_num, by omega, HO1.out, hB2⟩, by simp [intOf]; omega⟩
        · have hge2 : ¬ (m : Int) < (l2.length : Int) := by omega
          have hml : m = l2.length := by omega
          have ho := HO.out
          rw [hml, List.take_length] at ho
          have HO3 : Hid (OwnB w.heap.size wr (.slice va (l1.length + l2.length) vc) (l1 ++ l2)) := ho
          subst hml
          clear ho HO hlen k2
          go_wp2_with fail
          go_ret
          exact ⟨_, rfl, HO3.out, hb2⟩

set_option maxHeartbeats 4000000 in
theorem sync_bad (a : Option Addr) (n c : Nat) (y : Int) (w : World) (hk : tapB n y = false) :
    Calls Try.prog 11 #[tapV (.slice a n c) y] w fun e w' => e = .returned (.tuple #[tapV (.slice none 0 0) 0, .int .i64 13]) ∧ Below w.heap.size w w' := by
  have HC : Hid (∀ W, Calls Try.prog 25 #[tapV (.slice a n c) y] W fun e w' => e = .returned (.int .i64 13) ∧ Below W.heap.size W w') := fun W => by
    have := checkTape_any a n c y W; rwa [hk, if_neg (by decide)] at this
  clear hk
  go_enter Try.func11, Try.ntmps11
  go_wp2_with fail
  obtain ⟨n0, n1, hB0, hs0⟩ := two_at w (tapO (.slice a n c) y) (tapO (.slice none 0 0) 0)
  generalize (w.alloc (tapO (.slice a n c) y)).alloc (tapO (.slice none 0 0) 0) = V at n0 n1 hB0 hs0 ⊢
  refine (HC.out _).mono ?_
  rintro e w1 ⟨rfl, hb1⟩
  have hB1 := bstep hB0 hb1
  have m1 := (hb1.block _ (lt_at n1)).trans n1
  obtain ⟨c1, f1⟩ := cellsB m1
  have hz1 := lt_at m1
  clear hb1 n0 n1 hB0 hs0 HC m1
  go_wp2_with fail
  refine bodyPost_ret (v := .tuple #[tapV (.slice none 0 0) 0, .int .i64 13]) (by simp [results, Try.results11, go_sem, c1]) rfl ⟨rfl, ?_⟩
  first | exact hB1 | exact (hB1.setCell (by simp) _).setCell (by simp) _

set_option maxHeartbeats 4000000 in
theorem sync_ok (s : Value) (l : List UInt8) (y : Int) (w : World) (h : RowB w s l) (hk : tapB l.length y = true) :
    Calls Try.prog 11 #[tapV s y] w fun e w' => ∃ r, e = .returned (.tuple #[tapV r (l.length : Int), .int .i64 0]) ∧ OwnB w.heap.size w' r l ∧ Below w.heap.size w w' := by
  have HC : Hid (∀ W, Calls Try.prog 25 #[tapV s y] W fun e w' => e = .returned (.int .i64 0) ∧ Below W.heap.size W w') := fun W => by
    obtain ⟨a, c, rfl⟩ := h.shape
    have := checkTape_any a l.length c y W; rwa [hk, if_pos rfl] at this
  have HT : Hid (∀ W, Below w.heap.size w W → Calls Try.prog 26 #[tapV s y, .int .i64 (l.length : Int), .int .i64 (l.length : Int)] W fun e w' => ∃ r, e = .returned (tapV r (l.length : Int)) ∧ OwnB W.heap.size w' r l ∧ Below W.heap.size W w') := fun W hW => by
    have := cut_any s l y l.length (l.length : Int) W (h.below hW) (Nat.le_refl _); rwa [List.take_length] at this
  obtain ⟨a, c, rfl⟩ := h.shape
  clear hk h
  go_enter Try.func11, Try.ntmps11
  go_wp2_with fail
  obtain ⟨n0, n1, hB0, hs0⟩ := two_at w (tapO (.slice a l.length c) y) (tapO (.slice none 0 0) 0)
  generalize (w.alloc (tapO (.slice a l.length c) y)).alloc (tapO (.slice none 0 0) 0) = V at n0 n1 hB0 hs0 ⊢
  have hz : w.heap.size + 2 ≤ V.heap.size := by omega
  refine (HC.out _).mono ?_
  rintro e w1 ⟨rfl, hb1⟩
  have hB1 := bstep hB0 hb1
  have m0 := (hb1.block _ (lt_at n0)).trans n0
  have m1 := (hb1.block _ (lt_at n1)).trans n1
  have hz1 := Nat.le_trans hz hb1.size
  obtain ⟨c0, f0⟩ := cellsB m0
  clear hb1 n0 n1 hB0 hs0 HC hz
  go_wp2_with fail
  refine (HT.out _ hB1).mono ?_
  rintro e w2 ⟨r, rfl, hown, hb2⟩
  have hB2 := bstep hB1 hb2
  have k1 := (hb2.block _ (lt_at m1)).trans m1
  have ho := OwnB.base hown hz1
  obtain ⟨sa, sc, rfl⟩ := hown.shape
  obtain ⟨c1, f1⟩ := cellsB k1
  have hz2 := lt_at k1
  clear hown hb2 m0 m1 c0 f0 HT hB1 k1
  go_wp2_with fail
  refine bodyPost_ret (v := .tuple #[tapV (.slice sa l.length sc) (l.length : Int), .int .i64 0]) (by simp [results, Try.results11, go_sem, c1]) rfl ⟨_, rfl, ?_, ?_⟩
  · refine OwnB.base (B := w.heap.size + 2) ?_ (by omega)
    refine OwnB.setCell (OwnB.setCell ho ?_ _) ?_ _ <;> (show w.heap.size + 1 < w.heap.size + 2; omega)
  · exact (hB2.setCell (by simp) _).setCell (by simp) _

set_option maxHeartbeats 4000000 in
theorem synced_bad (a : Option Addr) (n c : Nat) (y : Int) (w : World) (hk : tapB n y = false) :
    Calls Try.prog 12 #[tapV (.slice a n c) y] w fun e w' => e = .returned (.tuple #[tapV (.slice none 0 0) 0, .int .i64 13]) ∧ Below w.heap.size w w' := by
  have HC : Hid (∀ W, Calls Try.prog 27 #[tapV (.slice a n c) y] W fun e w' => e = .returned (.bool false) ∧ Below W.heap.size W w') := fun W => by
    have := tapeMay_any a n c y W; rwa [hk] at this
  clear hk
  go_enter Try.func12, Try.ntmps12
  go_wp2_with fail
  obtain ⟨n0, n1, hB0, hs0⟩ := two_at w (tapO (.slice a n c) y) (tapO (.slice none 0 0) 0)
  generalize (w.alloc (tapO (.slice a n c) y)).alloc (tapO (.slice none 0 0) 0) = V at n0 n1 hB0 hs0 ⊢
  refine (HC.out _).mono ?_
  rintro e w1 ⟨rfl, hb1⟩
  have hB1 := bstep hB0 hb1
  have m1 := (hb1.block _ (lt_at n1)).trans n1
  obtain ⟨c1, f1⟩ := cellsB m1
  have hz1 := lt_at m1
  clear hb1 n0 n1 hB0 hs0 HC m1
  go_wp2_with fail
  refine bodyPost_ret (v := .tuple #[tapV (.slice none 0 0) 0, .int .i64 13]) (by simp [results, Try.results12, go_sem, c1]) rfl ⟨rfl, ?_⟩
  first | exact hB1 | exact (hB1.setCell (by simp) _).setCell (by simp) _

set_option maxHeartbeats 8000000 in
theorem synced_ok (s : Value) (l : List UInt8) (y : Int) (w : World) (h : RowB w s l) (hk : tapB l.length y = true) :
    Calls Try.prog 12 #[tapV s y] w fun e w' => ∃ r, e = .returned (.tuple #[tapV r (l.length : Int), .int .i64 0]) ∧ OwnB w.heap.size w' r l ∧ Below w.heap.size w w' := by
  have HC : Hid (∀ W, Calls Try.prog 27 #[tapV s y] W fun e w' => e = .returned (.bool true) ∧ Below W.heap.size W w') := fun W => by
    obtain ⟨a, c, rfl⟩ := h.shape
    have := tapeMay_any a l.length c y W; rwa [hk] at this
  have HL : Hid (∀ W, Below w.heap.size w W → Calls Try.prog 28 #[s, .slice none 0 0] W fun e w' => ∃ r, e = .returned r ∧ OwnB W.heap.size w' r l ∧ Below W.heap.size W w') := fun W hW => by
    have := joined_any s (.slice none 0 0) l [] W (h.below hW) (RowB.nil W) (by have := h.1; simp; omega); rwa [List.append_nil] at this
  obtain ⟨a, c, rfl⟩ := h.shape
  clear hk h
  go_enter Try.func12, Try.ntmps12
  go_wp2_with fail
  obtain ⟨n0, n1, hB0, hs0⟩ := two_at w (tapO (.slice a l.length c) y) (tapO (.slice none 0 0) 0)
  generalize (w.alloc (tapO (.slice a l.length c) y)).alloc (tapO (.slice none 0 0) 0) = V0 at n0 n1 hB0 hs0 ⊢
  have hz : w.heap.size + 2 ≤ V0.heap.size := by omega
  refine (HC.out _).mono ?_
  rintro e V ⟨rfl, hb1⟩
  have hB1 := bstep hB0 hb1
  have m0 := (hb1.block _ (lt_at n0)).trans n0
  have m1 := (hb1.block _ (lt_at n1)).trans n1
  have HZ : Hid (w.heap.size + 2 ≤ V.heap.size) := Nat.le_trans hz hb1.size
  clear hb1 n0 n1 hB0 hs0 HC hz
  obtain ⟨c0, f0⟩ := cellsB m0
  obtain ⟨c1, f1⟩ := cellsB m1
  have HK : Hid (V.heap[w.heap.size + 1]? = some (tapO (.slice none 0 0) 0)) := m1
  have hz0 := lt_at m0
  have hz1 := lt_at m1
  have hBL : w.heap.size ≤ w.heap.size + 1 := by omega
  have hne : ¬ w.heap.size + 1 = w.heap.size := by omega
  have hne' : ¬ w.heap.size = w.heap.size + 1 := by omega
  have HB1 : Hid (w.heap.size + 1 < w.heap.size + 2) := by show w.heap.size + 1 < w.heap.size + 2; omega
  obtain ⟨r0, r1⟩ : V.cell? ⟨w.heap.size, 0, none⟩ = some (.slice a l.length c) ∧ V.cell? ⟨w.heap.size, 1, none⟩ = some (.int .i64 y) := ⟨c0 0, c0 1⟩
  clear c0 m0 m1
  generalize w.heap.size + 1 = b1 at *
  generalize hb0 : w.heap.size = b0 at r0 r1 hne hne' hz0 f0 ⊢
  have HB0 : Hid (w.heap.size = b0) := hb0
  clear hb0
  go_wp2_with fail
  go_region_held3 (fun w' => w'.cell? ⟨b0, 0, none⟩ = some (.slice a l.length c) ∧ w'.cell? ⟨b0, 1, none⟩ = some (.int .i64 y)) (go_keep) (first
    | (go_at_call 28; (with_reducible refine (HL.out _ hB1.drew).mono ?_); rintro e w5 ⟨r, rfl, hown, hb5⟩; obtain ⟨sa, sc, rfl⟩ := hown.shape; obtain ⟨x1, x2⟩ := same_block (hb5.block b0 hz0); obtain ⟨x3, x4⟩ := same_block (hb5.block b1 hz1)))
  have n5 := (hb5.block b1 hz1).trans HK.out
  have hB5 : Below w.heap.size w w5 := bstep hB1.drew hb5
  have ho5 : OwnB (w.heap.size + 2) w5 (.slice sa l.length sc) l := OwnB.base hown HZ.out
  obtain ⟨y1, y2⟩ := cellsB n5
  clear x1 x2 x3 x4 hown hb5
  go_wp2_with fail
  refine bodyPost_ret (v := .tuple #[tapV (.slice sa l.length sc) (l.length : Int), .int .i64 0]) (by simp [results, Try.results12, go_sem, y1]) rfl ⟨_, rfl, ?_, ?_⟩
  · refine OwnB.base (B := w.heap.size + 2) ?_ (by omega)
    exact OwnB.setCell (OwnB.setCell ho5 HB1.out _) HB1.out _
  · exact (hB5.setCell hBL _).setCell hBL _
end Go.Proofs.Ytafkdbogfgffbaa
