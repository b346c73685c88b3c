/- slices of entries (Sd at eight cells). -/
import Derived.Test.YtfnephnecighaaaGreatSd
import Derived.Test.YtfnephnecighaaaGreatSt
import Derived.Deep.RegionLaw
namespace Go.Proofs.YtfnephnecighaaaGreat
open Go.RowKit
set_option linter.unusedVariables false

set_option maxRecDepth 100000 in
set_option maxHeartbeats 4000000 in
theorem delete_coreE (g i r cap : Nat) (A X C S : List Value) (w : World) (hA : A.length = i * 8) (hX : X.length = 8) (hC : C.length = r * 8)
    (hg : w.heap[g]? = some (.cells (A ++ (X ++ (C ++ S))).toArray 57 (0, 0))) (hcap : i + 1 + r ≤ cap) (hmax : cap ≤ 9223372036854775807) (hsm : i + 1 + r ≤ 1048576)
    (h1 : ∀ v ∈ C, v.oneCell' = true) :
    Calls Tryz.prog 144 #[.slice (some ⟨g, 0, none⟩) (i + 1 + r) cap, .int .i64 (i : Int), .int .i64 ((i : Int) + 1)] w fun e w' =>
      e = .returned (.slice (some ⟨g, 0, none⟩) (i + r) cap) ∧ w'.heap[g]? = some (.cells (A ++ (C ++ ([Value.string ByteArray.empty, Value.int .i64 0, Value.string ByteArray.empty, Value.int .i64 0, Value.slice none 0 0, Value.slice none 0 0, Value.slice none 0 0, Value.int .i64 0] ++ S))).toArray 57 (0, 0)) ∧ JustRow g w w' := by
  obtain ⟨ti, hti, hz, hsz, hby⟩ := info_parts info_entry
  have q1 : ¬ (i + 1 + r = i) := by omega
  have q2 : ¬ (cap = 0) := by omega
  have q3 : ((i : Int) == (i : Int) + 1) = false := by simp; omega
  by_cases hc : cap = i + 1
  · obtain rfl : r = 0 := by omega
    obtain rfl : C = [] := List.eq_nil_of_length_eq_zero (by omega)
    subst hc
    simp only [List.nil_append, Nat.add_zero] at *
    go_enter Tryz.func144, Tryz.ntmps144
    go_wp2_with fail
    have hrun : ∀ ty ad dc, (Builtin.append_ #[38, 38] ty #[.slice (some ⟨g, 0, none⟩) i (i + 1), .slice (some ad) 0 dc]).run Tryz.prog w.drew = .ok (.slice (some ⟨g, 0, none⟩) i (i + 1)) (w.drew.setRow g (laid (A ++ (X ++ S)) (i * 8) []).toArray) := by
      intro ty ad dc
      have := run_appendRoomK (P := Tryz.prog) w.drew 38 ty 57 ti Tryz.underlying38 hti g i (i + 1) ad 0 dc _ 57 [] hg (by simp) (by intro j u hu; simp at hu) (by simp) (by omega) (by simp [hA, hX, hsz])
      rw [hsz] at this
      simpa using this
    have k1 : (0 : Int) ≤ (i : Int) := by omega
    have k2 : (i : Int) ≤ (i : Int) + 1 := by omega
    have k2' : i ≤ i + 1 := by omega
    have k3 : (0 : Int) ≤ (i : Int) + 1 := by omega
    have k4 : ((i : Int) + 1).toNat = i + 1 := by omega
    have k6 : i + 1 - (i + 1) = 0 := by omega
    go_region_law (refine step_append_run rfl _ _ 38 38 rfl _ _ (by simp [Act.eval, Act.put]) (by simp [Act.eval, Act.put]; first | done | rfl | exact ⟨rfl, rfl⟩) (hrun _ _ _) ?_)
    have hg1 := setRow_heap w.drew g _ (laid (A ++ (X ++ S)) (i * 8) []).toArray _ _ hg
    have hj1 : JustRow g w (w.drew.setRow g (laid (A ++ (X ++ S)) (i * 8) []).toArray) := (JustRow.drew g w).setRow _
    generalize w.drew.setRow g (laid (A ++ (X ++ S)) (i * 8) []).toArray = W1 at hg1 hj1 ⊢
    have HG : Hid (W1.heap[g]? = some (.cells (laid (A ++ (X ++ S)) (i * 8) []).toArray 57 (0, 0))) := hg1
    have HJ : Hid (JustRow g w W1) := hj1
    have hclr : ∀ ty c, (Builtin.clear_ #[38] ty #[.slice (some ⟨g, i * 8, none⟩) 1 c]).run Tryz.prog W1 = .ok (.tuple #[]) (W1.setRow g (laid (laid (A ++ (X ++ S)) (i * 8) []) (i * 8) [Value.string ByteArray.empty, Value.int .i64 0, Value.string ByteArray.empty, Value.int .i64 0, Value.slice none 0 0, Value.slice none 0 0, Value.slice none 0 0, Value.int .i64 0]).toArray) := by
      intro ty c
      have zc : (Builtin.zeroCells (Value.agg #[.string ByteArray.empty, .int .i64 0, .string ByteArray.empty, .int .i64 0, .slice none 0 0, .slice none 0 0, .slice none 0 0, .int .i64 0]).cells 1).toList = [Value.string ByteArray.empty, Value.int .i64 0, Value.string ByteArray.empty, Value.int .i64 0, Value.slice none 0 0, Value.slice none 0 0, Value.slice none 0 0, Value.int .i64 0] := by kernel_rfl
      have := run_clearK (P := Tryz.prog) W1 38 ty 57 ti (Value.agg #[.string ByteArray.empty, .int .i64 0, .string ByteArray.empty, .int .i64 0, .slice none 0 0, .slice none 0 0, .slice none 0 0, .int .i64 0]) Tryz.underlying38 hti hz g (i * 8) 1 c _ 57 hg1 (by decide) ?_ ?_
      · rw [zc] at this
        exact this
      · rw [zc]
        simp [laid, hA, hX]
      · rw [zc]
        intro v hv
        simp at hv
        (rcases hv with rfl | rfl | rfl | rfl | rfl | rfl | rfl | rfl <;> rfl)
    have HL : Hid (∀ ty c, (Builtin.clear_ #[38] ty #[.slice (some ⟨g, i * 8, none⟩) (i + 1 - i) c]).run Tryz.prog W1 = .ok (.tuple #[]) (W1.setRow g (laid (laid (A ++ (X ++ S)) (i * 8) []) (i * 8) [Value.string ByteArray.empty, Value.int .i64 0, Value.string ByteArray.empty, Value.int .i64 0, Value.slice none 0 0, Value.slice none 0 0, Value.slice none 0 0, Value.int .i64 0]).toArray)) := by rw [show i + 1 - i = 1 by omega]; exact hclr
    clear hrun hg1 hj1 hg k6
    have hlaid : laid (laid (A ++ (X ++ S)) (i * 8) []) (i * 8) [Value.string ByteArray.empty, Value.int .i64 0, Value.string ByteArray.empty, Value.int .i64 0, Value.slice none 0 0, Value.slice none 0 0, Value.slice none 0 0, Value.int .i64 0] = A ++ ([Value.string ByteArray.empty, Value.int .i64 0, Value.string ByteArray.empty, Value.int .i64 0, Value.slice none 0 0, Value.slice none 0 0, Value.slice none 0 0, Value.int .i64 0] ++ S) := by
      rw [show i * 8 = A.length by omega]
      simpa using laid_twice A X [] S [Value.string ByteArray.empty, Value.int .i64 0, Value.string ByteArray.empty, Value.int .i64 0, Value.slice none 0 0, Value.slice none 0 0, Value.slice none 0 0, Value.int .i64 0] (by simp [hX])
    have HLA : Hid (laid (laid (A ++ (X ++ S)) (i * 8) []) (i * 8) [Value.string ByteArray.empty, Value.int .i64 0, Value.string ByteArray.empty, Value.int .i64 0, Value.slice none 0 0, Value.slice none 0 0, Value.slice none 0 0, Value.int .i64 0] = A ++ ([Value.string ByteArray.empty, Value.int .i64 0, Value.string ByteArray.empty, Value.int .i64 0, Value.slice none 0 0, Value.slice none 0 0, Value.slice none 0 0, Value.int .i64 0] ++ S)) := hlaid
    clear hlaid hA hX hC h1
    have HL1 : Hid (∀ ty c, (Builtin.clear_ #[38] ty #[.slice (some ⟨g, i * 8, none⟩) 1 c]).run Tryz.prog W1 = .ok (.tuple #[]) (W1.setRow g (laid (laid (A ++ (X ++ S)) (i * 8) []) (i * 8) [Value.string ByteArray.empty, Value.int .i64 0, Value.string ByteArray.empty, Value.int .i64 0, Value.slice none 0 0, Value.slice none 0 0, Value.slice none 0 0, Value.int .i64 0]).toArray)) := hclr
    clear hclr
    go_wp2_with fail
    first | rw [HL.out] | rw [HL1.out]
    go_wp2_with fail
    go_ret
    refine ⟨rfl, ?_, HJ.out.setRow _⟩
    have := setRow_heap W1 g _ (laid (laid (A ++ (X ++ S)) (i * 8) []) (i * 8) [Value.string ByteArray.empty, Value.int .i64 0, Value.string ByteArray.empty, Value.int .i64 0, Value.slice none 0 0, Value.slice none 0 0, Value.slice none 0 0, Value.int .i64 0]).toArray _ _ HG.out
    rw [HLA.out] at this ⊢
    exact this
  · go_enter Tryz.func144, Tryz.ntmps144
    go_wp2_with fail
    have hrun : ∀ ty dc, (Builtin.append_ #[38, 38] ty #[.slice (some ⟨g, 0, none⟩) i cap, .slice (some ⟨g, (i + 1) * 8, none⟩) r dc]).run Tryz.prog w.drew = .ok (.slice (some ⟨g, 0, none⟩) (i + r) cap) (w.drew.setRow g (laid (A ++ (X ++ (C ++ S))) (i * 8) C).toArray) := by
      intro ty dc
      have := run_appendRoomK (P := Tryz.prog) w.drew 38 ty 57 ti Tryz.underlying38 hti g i cap ⟨g, (i + 1) * 8, none⟩ r dc _ 57 C hg (by rw [hC, hsz]) ?_ h1 (by omega) (by simp [hA, hX, hC, hsz]; omega)
      · rw [hsz] at this
        simpa using this
      · intro j u hu
        refine cells_of_row (cur := A ++ (X ++ (C ++ S))) hg ((i + 1) * 8) j u ?_
        have hj : j < C.length := by
          have := List.getElem?_eq_some_iff.1 hu
          exact this.1
        rw [← List.append_assoc A X, List.getElem?_append_right (by simp only [List.length_append, hA, hX]; omega), List.getElem?_append_left (by simp only [List.length_append, hA, hX]; omega), show (i + 1) * 8 + j - (A ++ X).length = j by simp only [List.length_append, hA, hX]; omega]
        exact hu
    have k1 : (0 : Int) ≤ (i : Int) := by omega
    have k2 : (i : Int) ≤ (cap : Int) := by omega
    have k2' : i ≤ cap := by omega
    have k3 : (0 : Int) ≤ (i : Int) + 1 := by omega
    have k4 : ((i : Int) + 1).toNat = i + 1 := by omega
    have k5 : (i : Int) + 1 ≤ (i : Int) + 1 + (r : Int) := by omega
    have k6 : i + 1 + r - (i + 1) = r := by omega
    have k7 : i + 1 ≤ i + 1 + r := by omega
    go_region_law (refine step_append_run rfl _ _ 38 38 rfl _ _ (by simp [Act.eval, Act.put]) (by simp [Act.eval, Act.put]; rfl) (hrun _ _) ?_)
    have hg1 := setRow_heap w.drew g _ (laid (A ++ (X ++ (C ++ S))) (i * 8) C).toArray _ _ hg
    have hj1 : JustRow g w (w.drew.setRow g (laid (A ++ (X ++ (C ++ S))) (i * 8) C).toArray) := (JustRow.drew g w).setRow _
    generalize w.drew.setRow g (laid (A ++ (X ++ (C ++ S))) (i * 8) C).toArray = W1 at hg1 hj1 ⊢
    have HG : Hid (W1.heap[g]? = some (.cells (laid (A ++ (X ++ (C ++ S))) (i * 8) C).toArray 57 (0, 0))) := hg1
    have HJ : Hid (JustRow g w W1) := hj1
    have hclr : ∀ ty c, (Builtin.clear_ #[38] ty #[.slice (some ⟨g, (i + r) * 8, none⟩) 1 c]).run Tryz.prog W1 = .ok (.tuple #[]) (W1.setRow g (laid (laid (A ++ (X ++ (C ++ S))) (i * 8) C) ((i + r) * 8) [Value.string ByteArray.empty, Value.int .i64 0, Value.string ByteArray.empty, Value.int .i64 0, Value.slice none 0 0, Value.slice none 0 0, Value.slice none 0 0, Value.int .i64 0]).toArray) := by
      intro ty c
      have zc : (Builtin.zeroCells (Value.agg #[.string ByteArray.empty, .int .i64 0, .string ByteArray.empty, .int .i64 0, .slice none 0 0, .slice none 0 0, .slice none 0 0, .int .i64 0]).cells 1).toList = [Value.string ByteArray.empty, Value.int .i64 0, Value.string ByteArray.empty, Value.int .i64 0, Value.slice none 0 0, Value.slice none 0 0, Value.slice none 0 0, Value.int .i64 0] := by kernel_rfl
      have := run_clearK (P := Tryz.prog) W1 38 ty 57 ti (Value.agg #[.string ByteArray.empty, .int .i64 0, .string ByteArray.empty, .int .i64 0, .slice none 0 0, .slice none 0 0, .slice none 0 0, .int .i64 0]) Tryz.underlying38 hti hz g ((i + r) * 8) 1 c _ 57 hg1 (by decide) ?_ ?_
      · rw [zc] at this
        exact this
      · rw [zc]
        simp [laid, hA, hX, hC]; omega
      · rw [zc]
        intro v hv
        simp at hv
        (rcases hv with rfl | rfl | rfl | rfl | rfl | rfl | rfl | rfl <;> rfl)
    have HL : Hid (∀ ty c, (Builtin.clear_ #[38] ty #[.slice (some ⟨g, (i + r) * 8, none⟩) (i + 1 + r - (i + r)) c]).run Tryz.prog W1 = .ok (.tuple #[]) (W1.setRow g (laid (laid (A ++ (X ++ (C ++ S))) (i * 8) C) ((i + r) * 8) [Value.string ByteArray.empty, Value.int .i64 0, Value.string ByteArray.empty, Value.int .i64 0, Value.slice none 0 0, Value.slice none 0 0, Value.slice none 0 0, Value.int .i64 0]).toArray)) := by rw [show i + 1 + r - (i + r) = 1 by omega]; exact hclr
    clear hrun hg1 hj1 hg k6 hclr
    have hlaid : laid (laid (A ++ (X ++ (C ++ S))) (i * 8) C) ((i + r) * 8) [Value.string ByteArray.empty, Value.int .i64 0, Value.string ByteArray.empty, Value.int .i64 0, Value.slice none 0 0, Value.slice none 0 0, Value.slice none 0 0, Value.int .i64 0] = A ++ (C ++ ([Value.string ByteArray.empty, Value.int .i64 0, Value.string ByteArray.empty, Value.int .i64 0, Value.slice none 0 0, Value.slice none 0 0, Value.slice none 0 0, Value.int .i64 0] ++ S)) := by
      rw [show (i + r) * 8 = A.length + C.length by omega, show i * 8 = A.length by omega]
      simpa only [List.append_assoc] using laid_twice A X C S [Value.string ByteArray.empty, Value.int .i64 0, Value.string ByteArray.empty, Value.int .i64 0, Value.slice none 0 0, Value.slice none 0 0, Value.slice none 0 0, Value.int .i64 0] (by simp [hX])
    have HLA : Hid (laid (laid (A ++ (X ++ (C ++ S))) (i * 8) C) ((i + r) * 8) [Value.string ByteArray.empty, Value.int .i64 0, Value.string ByteArray.empty, Value.int .i64 0, Value.slice none 0 0, Value.slice none 0 0, Value.slice none 0 0, Value.int .i64 0] = A ++ (C ++ ([Value.string ByteArray.empty, Value.int .i64 0, Value.string ByteArray.empty, Value.int .i64 0, Value.slice none 0 0, Value.slice none 0 0, Value.slice none 0 0, Value.int .i64 0] ++ S))) := hlaid
    clear hlaid hA hX hC h1
    go_wp2_with fail
    rw [HL.out]
    go_wp2_with fail
    go_ret
    refine ⟨rfl, ?_, HJ.out.setRow _⟩
    have := setRow_heap W1 g _ (laid (laid (A ++ (X ++ (C ++ S))) (i * 8) C) ((i + r) * 8) [Value.string ByteArray.empty, Value.int .i64 0, Value.string ByteArray.empty, Value.int .i64 0, Value.slice none 0 0, Value.slice none 0 0, Value.slice none 0 0, Value.int .i64 0]).toArray _ _ HG.out
    rw [HLA.out] at this ⊢
    exact this
end Go.Proofs.YtfnephnecighaaaGreat
