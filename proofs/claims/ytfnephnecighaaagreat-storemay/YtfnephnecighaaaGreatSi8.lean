/- slices of entries (Si at eight cells). -/
import Derived.Test.YtfnephnecighaaaGreatSi
import Derived.Test.YtfnephnecighaaaGreatSd8
import Derived.Lib.Overlaps
import Derived.Laws.Externs
namespace Go.Proofs.YtfnephnecighaaaGreat
open Go.RowKit
set_option linter.unusedVariables false

set_option maxRecDepth 100000 in
set_option maxHeartbeats 4000000 in
theorem insert_roomE (g vb i r cap : Nat) (A C S X : List Value) (w : World) (hr : 0 < r) (hA : A.length = i * 8) (hC : C.length = r * 8) (hX : X.length = 8) (hvb : vb ≠ g)
    (hg : w.heap[g]? = some (.cells (A ++ (C ++ S)).toArray 57 (0, 0))) (hv : w.heap[vb]? = some (.cells X.toArray 57 (0, 0))) (hroom : i + r + 1 ≤ cap) (hS : (A ++ (C ++ S)).length = cap * 8) (hmax : cap ≤ 9223372036854775807) (hsm : i + r ≤ 1048576)
    (h1 : ∀ v ∈ C, v.oneCell' = true) (hx1 : ∀ v ∈ X, v.oneCell' = true) :
    Calls Tryz.prog 146 #[.slice (some ⟨g, 0, none⟩) (i + r) cap, .int .i64 (i : Int), .slice (some ⟨vb, 0, none⟩) 1 1] w fun e w' =>
      e = .returned (.slice (some ⟨g, 0, none⟩) (i + r + 1) cap) ∧ w'.heap[g]? = some (.cells (A ++ (X ++ (C ++ S.drop 8))).toArray 57 (0, 0)) ∧ JustRow g w w' := by
  obtain ⟨ti, hti, hz, hsz, hby⟩ := info_parts info_entry
  have q1 : ¬ ((i : Int) = (i : Int) + (r : Int)) := by omega
  have q2 : ¬ ((cap : Int) < (i : Int) + (r : Int) + 1) := by omega
  have q3 : (i : Int) ≤ (i : Int) + (r : Int) := by omega
  have q4 : (0 : Int) ≤ (i : Int) := by omega
  have q5 : i ≤ i + r := by omega
  have q6 : ((i : Int) + (r : Int) + 1) ≤ (cap : Int) := by omega
  have q7 : (0 : Int) ≤ (i : Int) + (r : Int) + 1 := by omega
  have q8 : ((i : Int) + (r : Int) + 1).toNat = i + r + 1 := by omega
  have q9 : IntKind.i64.wrap ((i : Int) + (r : Int) + 1) = (i : Int) + (r : Int) + 1 := by rw [IntKind.wrap_i64]; omega
  have q10 : IntKind.i64.wrap ((i : Int) + 1) = (i : Int) + 1 := by rw [IntKind.wrap_i64]; omega
  have q11 : (0 : Int) ≤ (i : Int) + 1 := by omega
  have q12 : ((i : Int) + 1).toNat = i + 1 := by omega
  have q13 : (i : Int) + 1 ≤ (i : Int) + (r : Int) + 1 := by omega
  have q14 : ¬ (cap = i + 1) := by omega
  have q15 : (i : Int) ≤ (i : Int) + (r : Int) + 1 := by omega
  have q16 : ¬ (cap = i) := by omega
  have HG : Hid (w.heap[g]? = some (.cells (A ++ (C ++ S)).toArray 57 (0, 0))) := hg
  have HV : Hid (w.heap[vb]? = some (.cells X.toArray 57 (0, 0))) := hv
  have hov : ∀ lb cb, (callFunc 159 #[.slice (some ⟨vb, 0, none⟩) 1 1, .slice (some ⟨g, (i + 1) * 8, none⟩) lb cb]).run Tryz.prog w = .ok (.value (.bool false)) w := by
    intro lb cb
    rw [run_callFunc_extern Tryz.func159 (by kernel_rfl) (by kernel_rfl) (by kernel_rfl) (e := Extern.SlicesOverlaps.overlaps #[38, 38] #[4]) (by kernel_rfl),
      Lib.run_overlaps_apart w 38 4 57 Tryz.underlying38 8 (fun w => by simp [sizeOf, typeInfo, hti, hsz]) ⟨vb, 0, none⟩ ⟨g, (i + 1) * 8, none⟩ 1 1 lb cb hvb 57 57 8 (cap * 8)
        (by unfold World.shape?; rw [hv]; simp [hX]) (by unfold World.shape?; rw [hg]; rw [← hS]; simp) (by omega) ((block_cells hv).2 0) ((block_cells hv).2 _)]
    rfl
  clear hg hv
  go_enter Tryz.func146, Tryz.ntmps146
  go_wp2_with (simp only [hov])
  have hcp1 : ∀ ty dl dc sl sc, Nat.min sl dl = r → (Builtin.copy_ #[38, 38] ty #[.slice (some ⟨g, (i + 1) * 8, none⟩) dl dc, .slice (some ⟨g, i * 8, none⟩) sl sc]).run Tryz.prog w.drew = .ok (goInt r) (w.drew.setRow g (laid (A ++ (C ++ S)) ((i + 1) * 8) C).toArray) := by
    intro ty dl dc sl sc hm
    have := run_copyK (P := Tryz.prog) w.drew 38 38 ty 57 ti Tryz.underlying38 hti g ((i + 1) * 8) dl dc ⟨g, i * 8, none⟩ sl sc _ 57 C HG.out (by rw [hm, hsz, hC]) ?_ ?_ h1
    · rw [hm] at this
      exact this
    · intro j u hu
      have hj : j < C.length := (List.getElem?_eq_some_iff.1 hu).1
      refine cells_of_row (w := w.drew) (cur := A ++ (C ++ S)) HG.out (i * 8) j u ?_
      rw [List.getElem?_append_right (by omega), List.getElem?_append_left (by omega), show i * 8 + j - A.length = j by omega]
      exact hu
    · rw [List.size_toArray, hS]
      omega
  go_region_law (refine step_copy_run rfl _ _ 38 38 rfl _ _ (by simp [Act.eval, Act.put]; exact ⟨rfl, rfl⟩) (by simp [Act.eval, Act.put]; exact ⟨rfl, rfl⟩) (hcp1 _ _ _ _ _ (by simp [Nat.min_def] <;> omega)) ?_)
  have hg1 := setRow_heap w.drew g _ (laid (A ++ (C ++ S)) ((i + 1) * 8) C).toArray _ _ HG.out
  have hv1 := (setRow_other w.drew g vb (laid (A ++ (C ++ S)) ((i + 1) * 8) C).toArray hvb).trans HV.out
  have hj1 : JustRow g w (w.drew.setRow g (laid (A ++ (C ++ S)) ((i + 1) * 8) C).toArray) := (JustRow.drew g w).setRow _
  generalize w.drew.setRow g (laid (A ++ (C ++ S)) ((i + 1) * 8) C).toArray = W1 at hg1 hv1 hj1 ⊢
  have HG1 : Hid (W1.heap[g]? = some (.cells (laid (A ++ (C ++ S)) ((i + 1) * 8) C).toArray 57 (0, 0))) := hg1
  have HJ : Hid (JustRow g w W1) := hj1
  have hSC : 8 ≤ C.length + S.length := by omega
  have hlaid : laid (laid (A ++ (C ++ S)) ((i + 1) * 8) C) (i * 8) X = A ++ (X ++ (C ++ S.drop 8)) := by
    have := laid_shift A C S X (by omega)
    rw [show (i + 1) * 8 = A.length + X.length by omega, show i * 8 = A.length by omega]
    rw [hX] at this ⊢
    exact this
  have HCP : Hid (∀ ty dl dc, 1 ≤ dl → (Builtin.copy_ #[38, 38] ty #[.slice (some ⟨g, i * 8, none⟩) dl dc, .slice (some ⟨vb, 0, none⟩) 1 1]).run Tryz.prog W1 = .ok (goInt 1) (W1.setRow g (A ++ (X ++ (C ++ S.drop 8))).toArray)) := by
    show ∀ ty dl dc, _
    intro ty dl dc hd
    have hm : Nat.min 1 dl = 1 := Nat.min_eq_left hd
    have := run_copyK (P := Tryz.prog) W1 38 38 ty 57 ti Tryz.underlying38 hti g (i * 8) dl dc ⟨vb, 0, none⟩ 1 1 _ 57 X hg1 (by rw [hm, hsz, hX]) ?_ ?_ hx1
    · rw [hm] at this
      rw [← hlaid]
      exact this
    · intro j u hu
      refine cells_of_row (w := W1) (cur := X) hv1 0 j u ?_
      simpa using hu
    · simp [laid]; simp at hS; omega
  clear hcp1 hg1 hv1 hj1 hlaid hA hC hX h1 hx1 hS hSC hov
  obtain ⟨S', hS'⟩ : ∃ S', S' = S.drop 8 := ⟨_, rfl⟩
  rw [← hS'] at HCP
  have HS : Hid (S' = S.drop 8) := hS'
  clear hS'
  go_wp2_with fail
  rw [HCP.out _ _ _ (by omega)]
  go_wp2_with fail
  go_ret
  exact ⟨rfl, by rw [← HS.out]; exact setRow_heap W1 g _ _ _ _ HG1.out, HJ.out.setRow _⟩
end Go.Proofs.YtfnephnecighaaaGreat
