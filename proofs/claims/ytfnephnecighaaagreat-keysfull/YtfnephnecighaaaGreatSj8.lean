/- slices of entries (Sj at eight cells). -/
import Derived.Test.YtfnephnecighaaaGreatSiJ
namespace Go.Proofs.YtfnephnecighaaaGreat
open Go.RowKit
set_option linter.unusedVariables false

set_option maxRecDepth 100000 in
set_option maxHeartbeats 4000000 in
theorem insert_growE (g vb i r : Nat) (A C X : List Value) (w : World) (hr : 0 < r) (hA : A.length = i * 8) (hC : C.length = r * 8) (hX : X.length = 8)
    (hg : w.heap[g]? = some (.cells (A ++ C).toArray 57 (0, 0))) (hv : w.heap[vb]? = some (.cells X.toArray 57 (0, 0))) (hsm : i + r ≤ 1048576)
    (h1 : ∀ v ∈ C, v.oneCell' = true) (hx1 : ∀ v ∈ X, v.oneCell' = true) :
    Calls Tryz.prog 146 #[.slice (some ⟨g, 0, none⟩) (i + r) (i + r), .int .i64 (i : Int), .slice (some ⟨vb, 0, none⟩) 1 1] w fun e w' =>
      ∃ c2 S2, e = .returned (.slice (some ⟨w.heap.size, 0, none⟩) (i + r + 1) c2) ∧ i + r + 1 ≤ c2 ∧ c2 ≤ maxLen ∧ S2.length = (c2 - (i + r + 1)) * 8 ∧ w'.heap[w.heap.size]? = some (.cells (A ++ (X ++ (C ++ S2))).toArray 57 (0, 0)) ∧ Below w.heap.size w w' := by
  obtain ⟨ti, hti, hz, hsz, hby⟩ := info_parts info_entry
  have q1 : ¬ ((i : Int) = (i : Int) + (r : Int)) := by omega
  have q2 : ((i : Int) + (r : Int) < (i : Int) + (r : Int) + 1) := by omega
  have q3 : (i : Int) ≤ (i : Int) + (r : Int) := by omega
  have q4 : (0 : Int) ≤ (i : Int) := by omega
  have q5 : i ≤ i + r := by omega
  have q9 : IntKind.i64.wrap ((i : Int) + (r : Int) + 1) = (i : Int) + (r : Int) + 1 := by rw [IntKind.wrap_i64]; omega
  have q10 : IntKind.i64.wrap ((i : Int) + 1) = (i : Int) + 1 := by rw [IntKind.wrap_i64]; omega
  have q11 : (0 : Int) ≤ (i : Int) + 1 := by omega
  have q12 : ((i : Int) + 1).toNat = i + 1 := by omega
  have q17 : IntKind.i64.wrap ((i : Int) + (r : Int) + 1 - (i : Int)) = (r : Int) + 1 := by rw [IntKind.wrap_i64]; omega
  have q18 : ¬ (i + r = i) := by omega
  have q19 : ¬ (r = 0) := by omega
  have HG : Hid (w.heap[g]? = some (.cells (A ++ C).toArray 57 (0, 0))) := hg
  have HV : Hid (w.heap[vb]? = some (.cells X.toArray 57 (0, 0))) := hv
  have hmk : ∀ ty, (Builtin.append_ #[38, 3] ty #[.slice (some ⟨g, 0, none⟩) i (i + r), .int .i64 ((r : Int) + 1)]).run Tryz.prog w = .ok (.slice (some ⟨w.heap.size, 0, none⟩) (i + (r + 1)) (grownCap w (i + (r + 1)) (i + r) 57))
      (w.drew.alloc (.cells (A.toArray ++ Builtin.zeroCells (Value.agg #[.string ByteArray.empty, .int .i64 0, .string ByteArray.empty, .int .i64 0, .slice none 0 0, .slice none 0 0, .slice none 0 0, .int .i64 0]).cells (r + 1) ++ Builtin.zeroCells (Value.agg #[.string ByteArray.empty, .int .i64 0, .string ByteArray.empty, .int .i64 0, .slice none 0 0, .slice none 0 0, .slice none 0 0, .int .i64 0]).cells (grownCap w (i + (r + 1)) (i + r) 57 - (i + (r + 1)))) 57)) := by
    intro ty
    have := run_appendMake (P := Tryz.prog) w 38 3 ty 57 ti (Value.agg #[.string ByteArray.empty, .int .i64 0, .string ByteArray.empty, .int .i64 0, .slice none 0 0, .slice none 0 0, .slice none 0 0, .int .i64 0]) .i64 .i64 Tryz.underlying38 Tryz.underlying3 hti hz ⟨g, 0, none⟩ i (i + r) A (by rw [hA, hsz]) ?_ (r + 1) (by omega) (by rw [hsz]; omega) (by omega) (by omega) ?_ (by rw [hby]; omega)
    · exact this
    · intro j u hu
      refine cells_of_row (w := w) (cur := A ++ C) hg 0 j u ?_
      rw [Nat.zero_add, List.getElem?_append_left (List.getElem?_eq_some_iff.1 hu).1]
      exact hu
    · rw [hby]
      have := nextslicecap_le (need := i + (r + 1)) (old := i + r) (by omega)
      omega
  have hge := grownCap_ge w (i + (r + 1)) (i + r) 57
  have hle := grownCap_le_maxLen w (i + (r + 1)) (i + r) 57 (by unfold maxLen; omega)
  generalize grownCap w (i + (r + 1)) (i + r) 57 = c2 at hmk hge hle
  obtain ⟨Z1, hZ1⟩ : ∃ Z1, (Builtin.zeroCells (Value.agg #[.string ByteArray.empty, .int .i64 0, .string ByteArray.empty, .int .i64 0, .slice none 0 0, .slice none 0 0, .slice none 0 0, .int .i64 0]).cells (r + 1)).toList = Z1 := ⟨_, rfl⟩
  obtain ⟨Z2, hZ2⟩ : ∃ Z2, (Builtin.zeroCells (Value.agg #[.string ByteArray.empty, .int .i64 0, .string ByteArray.empty, .int .i64 0, .slice none 0 0, .slice none 0 0, .slice none 0 0, .int .i64 0]).cells (c2 - (i + (r + 1)))).toList = Z2 := ⟨_, rfl⟩
  have lz1 : Z1.length = (r + 1) * 8 := by rw [← hZ1, Array.length_toList, zeros_size]; rfl
  have lz2 : Z2.length = (c2 - (i + (r + 1))) * 8 := by rw [← hZ2, Array.length_toList, zeros_size]; rfl
  have hcur : A.toArray ++ Builtin.zeroCells (Value.agg #[.string ByteArray.empty, .int .i64 0, .string ByteArray.empty, .int .i64 0, .slice none 0 0, .slice none 0 0, .slice none 0 0, .int .i64 0]).cells (r + 1) ++ Builtin.zeroCells (Value.agg #[.string ByteArray.empty, .int .i64 0, .string ByteArray.empty, .int .i64 0, .slice none 0 0, .slice none 0 0, .slice none 0 0, .int .i64 0]).cells (c2 - (i + (r + 1))) = (A ++ (Z1 ++ Z2)).toArray := by
    rw [← hZ1, ← hZ2]
    simp
  rw [hcur] at hmk
  clear hcur hZ1 hZ2
  have g0 : (w.drew.alloc (.cells (A ++ (Z1 ++ Z2)).toArray 57)).heap[w.heap.size]? = some (.cells (A ++ (Z1 ++ Z2)).toArray 57 (0, 0)) := by
    show (w.heap.push _)[_]? = _
    simp
  have hb0 : Below w.heap.size w (w.drew.alloc (.cells (A ++ (Z1 ++ Z2)).toArray 57)) := (Below.refl _ _).drew.alloc (Nat.le_refl _) _
  generalize w.drew.alloc (.cells (A ++ (Z1 ++ Z2)).toArray 57) = W0 at hmk g0 hb0
  have HM : Hid (∀ ty, (Builtin.append_ #[38, 3] ty #[.slice (some ⟨g, 0, none⟩) i (i + r), .int .i64 ((r : Int) + 1)]).run Tryz.prog w = .ok (.slice (some ⟨w.heap.size, 0, none⟩) (i + (r + 1)) c2) W0) := hmk
  have gv : W0.heap[vb]? = some (.cells X.toArray 57 (0, 0)) := (hb0.block vb (Array.getElem?_eq_some_iff.1 hv).1).trans hv
  have gg : W0.heap[g]? = some (.cells (A ++ C).toArray 57 (0, 0)) := (hb0.block g (Array.getElem?_eq_some_iff.1 hg).1).trans hg
  have hgl : g ≠ w.heap.size := by have := (Array.getElem?_eq_some_iff.1 hg).1; omega
  have k1 : ¬ (c2 = i) := by omega
  have k2 : ¬ (c2 = i + 1) := by omega
  have k3 : (i : Int) ≤ (i : Int) + ((r : Int) + 1) := by omega
  have k4 : (i : Int) + 1 ≤ (i : Int) + ((r : Int) + 1) := by omega
  have k5 : i ≤ i + (r + 1) := by omega
  have k6 : i + 1 ≤ i + (r + 1) := by omega
  have G0 : Hid (W0.heap[w.heap.size]? = some (.cells (A ++ (Z1 ++ Z2)).toArray 57 (0, 0))) := g0
  have GV : Hid (W0.heap[vb]? = some (.cells X.toArray 57 (0, 0))) := gv
  have GG : Hid (W0.heap[g]? = some (.cells (A ++ C).toArray 57 (0, 0))) := gg
  have HB : Hid (Below w.heap.size w W0) := hb0
  have hC1 : ∀ ty dl dc, 1 ≤ dl → (Builtin.copy_ #[38, 38] ty #[.slice (some ⟨w.heap.size, i * 8, none⟩) dl dc, .slice (some ⟨vb, 0, none⟩) 1 1]).run Tryz.prog W0 = .ok (goInt 1) (W0.setRow w.heap.size (laid (A ++ (Z1 ++ Z2)) (i * 8) X).toArray) := by
    intro ty dl dc hd
    have hm : Nat.min 1 dl = 1 := Nat.min_eq_left hd
    have := run_copyK (P := Tryz.prog) W0 38 38 ty 57 ti Tryz.underlying38 hti w.heap.size (i * 8) dl dc ⟨vb, 0, none⟩ 1 1 _ 57 X g0 (by rw [hm, hsz, hX]) ?_ ?_ hx1
    · rw [hm] at this
      exact this
    · intro j u hu
      refine cells_of_row (w := W0) (cur := X) gv 0 j u ?_
      simpa using hu
    · simp; omega
  have g1 := setRow_heap W0 w.heap.size _ (laid (A ++ (Z1 ++ Z2)) (i * 8) X).toArray _ _ g0
  have gg1 := (setRow_other W0 w.heap.size g (laid (A ++ (Z1 ++ Z2)) (i * 8) X).toArray hgl).trans gg
  have hb1 := below_setRow hb0 (Nat.le_refl _) (laid (A ++ (Z1 ++ Z2)) (i * 8) X).toArray
  generalize W0.setRow w.heap.size (laid (A ++ (Z1 ++ Z2)) (i * 8) X).toArray = W1 at hC1 g1 gg1 hb1
  have hlaid : laid (laid (A ++ (Z1 ++ Z2)) (i * 8) X) ((i + 1) * 8) C = A ++ (X ++ (C ++ Z2)) := by
    have := laid_two A Z1 Z2 X C (by omega)
    rw [show (i + 1) * 8 = A.length + X.length by omega, show i * 8 = A.length by omega]
    exact this
  have hC2 : ∀ (W : World), (W.heap = W1.heap) → ∀ ty dl dc sl sc, Nat.min sl dl = r → (Builtin.copy_ #[38, 38] ty #[.slice (some ⟨w.heap.size, (i + 1) * 8, none⟩) dl dc, .slice (some ⟨g, i * 8, none⟩) sl sc]).run Tryz.prog W = .ok (goInt r) (W.setRow w.heap.size (A ++ (X ++ (C ++ Z2))).toArray) := by
    intro W hW ty dl dc sl sc hm
    have := run_copyK (P := Tryz.prog) W 38 38 ty 57 ti Tryz.underlying38 hti w.heap.size ((i + 1) * 8) dl dc ⟨g, i * 8, none⟩ sl sc (laid (A ++ (Z1 ++ Z2)) (i * 8) X).toArray 57 C (by rw [hW]; exact g1) (by rw [hm, hsz, hC]) ?_ ?_ h1
    · rw [hm] at this
      rw [← hlaid]
      exact this
    · intro j u hu
      refine cells_of_row (w := W) (cur := A ++ C) (by rw [hW]; exact gg1) (i * 8) j u ?_
      rw [List.getElem?_append_right (by omega), show i * 8 + j - A.length = j by omega]
      exact hu
    · simp [laid]; omega
  have HC1 : Hid (∀ ty dl dc, 1 ≤ dl → (Builtin.copy_ #[38, 38] ty #[.slice (some ⟨w.heap.size, i * 8, none⟩) dl dc, .slice (some ⟨vb, 0, none⟩) 1 1]).run Tryz.prog W0 = .ok (goInt 1) W1) := hC1
  have HC2 : Hid (∀ (W : World), (W.heap = W1.heap) → ∀ ty dl dc sl sc, Nat.min sl dl = r → (Builtin.copy_ #[38, 38] ty #[.slice (some ⟨w.heap.size, (i + 1) * 8, none⟩) dl dc, .slice (some ⟨g, i * 8, none⟩) sl sc]).run Tryz.prog W = .ok (goInt r) (W.setRow w.heap.size (A ++ (X ++ (C ++ Z2))).toArray)) := hC2
  have G1 : Hid (W1.heap[w.heap.size]? = some (.cells (laid (A ++ (Z1 ++ Z2)) (i * 8) X).toArray 57 (0, 0))) := g1
  have HB1 : Hid (Below w.heap.size w W1) := hb1
  have LZ : Hid (Z2.length = (c2 - (i + (r + 1))) * 8) := lz2
  clear hg hv hmk g0 gv gg hb0 hC1 hC2 g1 gg1 hb1 hlaid lz1 lz2 hA hC hX h1 hx1
  go_enter Tryz.func146, Tryz.ntmps146
  go_wp2_with (at_builtin; refine wpList_append_run _ rfl _ _ 38 3 rfl _ _ rfl rfl (HM.out _) ?_)
  rw [HC1.out _ _ _ (by omega)]
  go_wp2_with fail
  go_region_law (refine step_copy_run rfl _ _ 38 38 rfl _ _ (by simp [Act.eval, Act.put]; exact ⟨rfl, rfl⟩) (by simp [Act.eval, Act.put]; exact ⟨rfl, rfl⟩) (HC2.out W1.drew rfl _ _ _ _ _ (by simp [Nat.min_def] <;> omega)) ?_)
  go_wp2_with fail
  go_ret
  refine ⟨c2, Z2, ?_, by omega, hle, LZ.out, ?_, ?_⟩
  · first | rfl | (rw [show i + r + 1 = i + (r + 1) by omega]; rfl)
  · exact setRow_heap _ w.heap.size _ _ _ _ (show W1.drew.heap[w.heap.size]? = _ from G1.out)
  · exact below_setRow HB1.out.drew (Nat.le_refl _) _
end Go.Proofs.YtfnephnecighaaaGreat
