/- slices.Insert of one element, over a row of the call's own. -/
import Derived.Test.YtfnephnecighaaaGreatSd
import Derived.Test.YtfnephnecighaaaGreatWh
import Derived.Lib.Overlaps
import Derived.Laws.Externs
namespace Go.Proofs.YtfnephnecighaaaGreat
open Go.RowKit
set_option linter.unusedVariables false

theorem laid_shift (A C S X : List Value) (h : X.length ≤ C.length + S.length) : laid (laid (A ++ (C ++ S)) (A.length + X.length) C) A.length X = A ++ (X ++ (C ++ S.drop X.length)) := by
  have h1 : ((A ++ (C ++ S)).take (A.length + X.length)).length = A.length + X.length := by simp; omega
  have h2 : (laid (A ++ (C ++ S)) (A.length + X.length) C).take A.length = A := by
    unfold laid
    rw [List.append_assoc, List.take_append_of_le_length (by omega), List.take_take, Nat.min_eq_left (by omega), List.take_left]
  have h3 : (laid (A ++ (C ++ S)) (A.length + X.length) C).drop (A.length + X.length) = C ++ S.drop X.length := by
    unfold laid
    rw [List.append_assoc, List.drop_append_of_le_length (by omega), List.drop_eq_nil_of_le (by omega), List.nil_append]
    congr 1
    rw [← List.append_assoc, List.drop_append, List.drop_eq_nil_of_le (by simp <;> omega), List.nil_append]
    congr 1
    simp <;> omega
  rw [show laid (laid (A ++ (C ++ S)) (A.length + X.length) C) A.length X = (laid (A ++ (C ++ S)) (A.length + X.length) C).take A.length ++ X ++ (laid (A ++ (C ++ S)) (A.length + X.length) C).drop (A.length + X.length) from rfl, h2, h3]
  simp

set_option maxRecDepth 100000 in
set_option maxHeartbeats 4000000 in
theorem insert_roomP (g vb i r cap : Nat) (A C S X : List Value) (w : World) (hr : 0 < r) (hA : A.length = i * 2) (hC : C.length = r * 2) (hX : X.length = 2) (hvb : vb ≠ g)
    (hg : w.heap[g]? = some (.cells (A ++ (C ++ S)).toArray 67 (0, 0))) (hv : w.heap[vb]? = some (.cells X.toArray 67 (0, 0))) (hroom : i + r + 1 ≤ cap) (hS : (A ++ (C ++ S)).length = cap * 2) (hmax : cap ≤ 9223372036854775807) (hsm : i + r ≤ 1048576)
    (h1 : ∀ v ∈ C, v.oneCell' = true) (hx1 : ∀ v ∈ X, v.oneCell' = true) :
    Calls Tryz.prog 152 #[.slice (some ⟨g, 0, none⟩) (i + r) cap, .int .i64 (i : Int), .slice (some ⟨vb, 0, none⟩) 1 1] w fun e w' =>
      e = .returned (.slice (some ⟨g, 0, none⟩) (i + r + 1) cap) ∧ w'.heap[g]? = some (.cells (A ++ (X ++ (C ++ S.drop 2))).toArray 67 (0, 0)) ∧ JustRow g w w' := by
  obtain ⟨ti, hti, hz, hsz, hby⟩ := info_parts info_pair
  have q1 : ¬ ((i : Int) = (i : Int) + (r : Int)) := by omega
  have q2 : ¬ ((cap : Int) < (i : Int) + (r : Int) + 1) := by omega
  have q3 : (i : Int) ≤ (i : Int) + (r : Int) := by omega
  have q4 : (0 : Int) ≤ (i : Int) := by omega
  have q5 : i ≤ i + r := by omega
  have q6 : ((i : Int) + (r : Int) + 1) ≤ (cap : Int) := by omega
  have q7 : (0 : Int) ≤ (i : Int) + (r : Int) + 1 := by omega
  have q8 : ((i : Int) + (r : Int) + 1).toNat = i + r + 1 := by omega
  have q9 : IntKind.i64.wrap ((i : Int) + (r : Int) + 1) = (i : Int) + (r : Int) + 1 := by rw [IntKind.wrap_i64]; omega
  have q10 : IntKind.i64.wrap ((i : Int) + 1) = (i : Int) + 1 := by rw [IntKind.wrap_i64]; omega
  have q11 : (0 : Int) ≤ (i : Int) + 1 := by omega
  have q12 : ((i : Int) + 1).toNat = i + 1 := by omega
  have q13 : (i : Int) + 1 ≤ (i : Int) + (r : Int) + 1 := by omega
  have q14 : ¬ (cap = i + 1) := by omega
  have q15 : (i : Int) ≤ (i : Int) + (r : Int) + 1 := by omega
  have q16 : ¬ (cap = i) := by omega
  have HG : Hid (w.heap[g]? = some (.cells (A ++ (C ++ S)).toArray 67 (0, 0))) := hg
  have HV : Hid (w.heap[vb]? = some (.cells X.toArray 67 (0, 0))) := hv
  have hov : ∀ lb cb, (callFunc 172 #[.slice (some ⟨vb, 0, none⟩) 1 1, .slice (some ⟨g, (i + 1) * 2, none⟩) lb cb]).run Tryz.prog w = .ok (.value (.bool false)) w := by
    intro lb cb
    rw [run_callFunc_extern Tryz.func172 (by kernel_rfl) (by kernel_rfl) (by kernel_rfl) (e := Extern.SlicesOverlaps.overlaps #[22, 22] #[4]) (by kernel_rfl),
      Lib.run_overlaps_apart w 22 4 67 Tryz.underlying22 2 (fun w => by simp [sizeOf, typeInfo, hti, hsz]) ⟨vb, 0, none⟩ ⟨g, (i + 1) * 2, none⟩ 1 1 lb cb hvb 67 67 2 (cap * 2)
        (by unfold World.shape?; rw [hv]; simp [hX]) (by unfold World.shape?; rw [hg]; rw [← hS]; simp) (by omega) ((block_cells hv).2 0) ((block_cells hv).2 _)]
    rfl
  clear hg hv
  go_enter Tryz.func152, Tryz.ntmps152
  go_wp2_with (simp only [hov])
  have hcp1 : ∀ ty dl dc sl sc, Nat.min sl dl = r → (Builtin.copy_ #[22, 22] ty #[.slice (some ⟨g, (i + 1) * 2, none⟩) dl dc, .slice (some ⟨g, i * 2, none⟩) sl sc]).run Tryz.prog w.drew = .ok (goInt r) (w.drew.setRow g (laid (A ++ (C ++ S)) ((i + 1) * 2) C).toArray) := by
    intro ty dl dc sl sc hm
    have := run_copyK (P := Tryz.prog) w.drew 22 22 ty 67 ti Tryz.underlying22 hti g ((i + 1) * 2) dl dc ⟨g, i * 2, none⟩ sl sc _ 67 C HG.out (by rw [hm, hsz, hC]) ?_ ?_ h1
    · rw [hm] at this
      exact this
    · intro j u hu
      have hj : j < C.length := (List.getElem?_eq_some_iff.1 hu).1
      refine cells_of_row (w := w.drew) (cur := A ++ (C ++ S)) HG.out (i * 2) j u ?_
      rw [List.getElem?_append_right (by omega), List.getElem?_append_left (by omega), show i * 2 + j - A.length = j by omega]
      exact hu
    · rw [List.size_toArray, hS]
      omega
  go_region_law (refine step_copy_run rfl _ _ 22 22 rfl _ _ (by simp [Act.eval, Act.put]; exact ⟨rfl, rfl⟩) (by simp [Act.eval, Act.put]; exact ⟨rfl, rfl⟩) (hcp1 _ _ _ _ _ (by simp [Nat.min_def] <;> omega)) ?_)
  have hg1 := setRow_heap w.drew g _ (laid (A ++ (C ++ S)) ((i + 1) * 2) C).toArray _ _ HG.out
  have hv1 := (setRow_other w.drew g vb (laid (A ++ (C ++ S)) ((i + 1) * 2) C).toArray hvb).trans HV.out
  have hj1 : JustRow g w (w.drew.setRow g (laid (A ++ (C ++ S)) ((i + 1) * 2) C).toArray) := (JustRow.drew g w).setRow _
  generalize w.drew.setRow g (laid (A ++ (C ++ S)) ((i + 1) * 2) C).toArray = W1 at hg1 hv1 hj1 ⊢
  have HG1 : Hid (W1.heap[g]? = some (.cells (laid (A ++ (C ++ S)) ((i + 1) * 2) C).toArray 67 (0, 0))) := hg1
  have HJ : Hid (JustRow g w W1) := hj1
  have hSC : 2 ≤ C.length + S.length := by omega
  have hlaid : laid (laid (A ++ (C ++ S)) ((i + 1) * 2) C) (i * 2) X = A ++ (X ++ (C ++ S.drop 2)) := by
    have := laid_shift A C S X (by omega)
    rw [show (i + 1) * 2 = A.length + X.length by omega, show i * 2 = A.length by omega]
    rw [hX] at this ⊢
    exact this
  have HCP : Hid (∀ ty dl dc, 1 ≤ dl → (Builtin.copy_ #[22, 22] ty #[.slice (some ⟨g, i * 2, none⟩) dl dc, .slice (some ⟨vb, 0, none⟩) 1 1]).run Tryz.prog W1 = .ok (goInt 1) (W1.setRow g (A ++ (X ++ (C ++ S.drop 2))).toArray)) := by
    show ∀ ty dl dc, _
    intro ty dl dc hd
    have hm : Nat.min 1 dl = 1 := Nat.min_eq_left hd
    have := run_copyK (P := Tryz.prog) W1 22 22 ty 67 ti Tryz.underlying22 hti g (i * 2) dl dc ⟨vb, 0, none⟩ 1 1 _ 67 X hg1 (by rw [hm, hsz, hX]) ?_ ?_ hx1
    · rw [hm] at this
      rw [← hlaid]
      exact this
    · intro j u hu
      refine cells_of_row (w := W1) (cur := X) hv1 0 j u ?_
      simpa using hu
    · simp [laid]; simp at hS; omega
  clear hcp1 hg1 hv1 hj1 hlaid hA hC hX h1 hx1 hS hSC hov
  obtain ⟨S', hS'⟩ : ∃ S', S' = S.drop 2 := ⟨_, rfl⟩
  rw [← hS'] at HCP
  have HS : Hid (S' = S.drop 2) := hS'
  clear hS'
  go_wp2_with fail
  rw [HCP.out _ _ _ (by omega)]
  go_wp2_with fail
  go_ret
  exact ⟨rfl, by rw [← HS.out]; exact setRow_heap W1 g _ _ _ _ HG1.out, HJ.out.setRow _⟩
set_option maxRecDepth 100000 in
set_option maxHeartbeats 4000000 in
theorem insert_roomI (g vb i r cap : Nat) (A C S X : List Value) (w : World) (hr : 0 < r) (hA : A.length = i * 1) (hC : C.length = r * 1) (hX : X.length = 1) (hvb : vb ≠ g)
    (hg : w.heap[g]? = some (.cells (A ++ (C ++ S)).toArray 9 (0, 0))) (hv : w.heap[vb]? = some (.cells X.toArray 9 (0, 0))) (hroom : i + r + 1 ≤ cap) (hS : (A ++ (C ++ S)).length = cap * 1) (hmax : cap ≤ 9223372036854775807) (hsm : i + r ≤ 1048576)
    (h1 : ∀ v ∈ C, v.oneCell' = true) (hx1 : ∀ v ∈ X, v.oneCell' = true) :
    Calls Tryz.prog 153 #[.slice (some ⟨g, 0, none⟩) (i + r) cap, .int .i64 (i : Int), .slice (some ⟨vb, 0, none⟩) 1 1] w fun e w' =>
      e = .returned (.slice (some ⟨g, 0, none⟩) (i + r + 1) cap) ∧ w'.heap[g]? = some (.cells (A ++ (X ++ (C ++ S.drop 1))).toArray 9 (0, 0)) ∧ JustRow g w w' := by
  obtain ⟨ti, hti, hz, hsz, hby⟩ := info_parts info_string
  have q1 : ¬ ((i : Int) = (i : Int) + (r : Int)) := by omega
  have q2 : ¬ ((cap : Int) < (i : Int) + (r : Int) + 1) := by omega
  have q3 : (i : Int) ≤ (i : Int) + (r : Int) := by omega
  have q4 : (0 : Int) ≤ (i : Int) := by omega
  have q5 : i ≤ i + r := by omega
  have q6 : ((i : Int) + (r : Int) + 1) ≤ (cap : Int) := by omega
  have q7 : (0 : Int) ≤ (i : Int) + (r : Int) + 1 := by omega
  have q8 : ((i : Int) + (r : Int) + 1).toNat = i + r + 1 := by omega
  have q9 : IntKind.i64.wrap ((i : Int) + (r : Int) + 1) = (i : Int) + (r : Int) + 1 := by rw [IntKind.wrap_i64]; omega
  have q10 : IntKind.i64.wrap ((i : Int) + 1) = (i : Int) + 1 := by rw [IntKind.wrap_i64]; omega
  have q11 : (0 : Int) ≤ (i : Int) + 1 := by omega
  have q12 : ((i : Int) + 1).toNat = i + 1 := by omega
  have q13 : (i : Int) + 1 ≤ (i : Int) + (r : Int) + 1 := by omega
  have q14 : ¬ (cap = i + 1) := by omega
  have q15 : (i : Int) ≤ (i : Int) + (r : Int) + 1 := by omega
  have q16 : ¬ (cap = i) := by omega
  have HG : Hid (w.heap[g]? = some (.cells (A ++ (C ++ S)).toArray 9 (0, 0))) := hg
  have HV : Hid (w.heap[vb]? = some (.cells X.toArray 9 (0, 0))) := hv
  have hov : ∀ lb cb, (callFunc 174 #[.slice (some ⟨vb, 0, none⟩) 1 1, .slice (some ⟨g, i + 1, none⟩) lb cb]).run Tryz.prog w = .ok (.value (.bool false)) w := by
    intro lb cb
    rw [run_callFunc_extern Tryz.func174 (by kernel_rfl) (by kernel_rfl) (by kernel_rfl) (e := Extern.SlicesOverlaps.overlaps #[23, 23] #[4]) (by kernel_rfl),
      Lib.run_overlaps_apart w 23 4 9 Tryz.underlying23 1 (fun w => by simp [sizeOf, typeInfo, hti, hsz]) ⟨vb, 0, none⟩ ⟨g, i + 1, none⟩ 1 1 lb cb hvb 9 9 1 (cap * 1)
        (by unfold World.shape?; rw [hv]; simp [hX]) (by unfold World.shape?; rw [hg]; rw [← hS]; simp) (by omega) ((block_cells hv).2 0) ((block_cells hv).2 _)]
    rfl
  clear hg hv
  go_enter Tryz.func153, Tryz.ntmps153
  go_wp2_with (simp only [hov])
  have hcp1 : ∀ ty dl dc sl sc, Nat.min sl dl = r → (Builtin.copy_ #[23, 23] ty #[.slice (some ⟨g, i + 1, none⟩) dl dc, .slice (some ⟨g, i, none⟩) sl sc]).run Tryz.prog w.drew = .ok (goInt r) (w.drew.setRow g (laid (A ++ (C ++ S)) (i + 1) C).toArray) := by
    intro ty dl dc sl sc hm
    have := run_copyK (P := Tryz.prog) w.drew 23 23 ty 9 ti Tryz.underlying23 hti g (i + 1) dl dc ⟨g, i, none⟩ sl sc _ 9 C HG.out (by rw [hm, hsz, hC]) ?_ ?_ h1
    · rw [hm] at this
      exact this
    · intro j u hu
      have hj : j < C.length := (List.getElem?_eq_some_iff.1 hu).1
      refine cells_of_row (w := w.drew) (cur := A ++ (C ++ S)) HG.out (i) j u ?_
      rw [List.getElem?_append_right (by omega), List.getElem?_append_left (by omega), show i + j - A.length = j by omega]
      exact hu
    · rw [List.size_toArray, hS]
      omega
  go_region_law (refine step_copy_run rfl _ _ 23 23 rfl _ _ (by simp [Act.eval, Act.put]; exact ⟨rfl, rfl⟩) (by simp [Act.eval, Act.put]; exact ⟨rfl, rfl⟩) (hcp1 _ _ _ _ _ (by simp [Nat.min_def] <;> omega)) ?_)
  have hg1 := setRow_heap w.drew g _ (laid (A ++ (C ++ S)) (i + 1) C).toArray _ _ HG.out
  have hv1 := (setRow_other w.drew g vb (laid (A ++ (C ++ S)) (i + 1) C).toArray hvb).trans HV.out
  have hj1 : JustRow g w (w.drew.setRow g (laid (A ++ (C ++ S)) (i + 1) C).toArray) := (JustRow.drew g w).setRow _
  generalize w.drew.setRow g (laid (A ++ (C ++ S)) (i + 1) C).toArray = W1 at hg1 hv1 hj1 ⊢
  have HG1 : Hid (W1.heap[g]? = some (.cells (laid (A ++ (C ++ S)) (i + 1) C).toArray 9 (0, 0))) := hg1
  have HJ : Hid (JustRow g w W1) := hj1
  have hSC : 1 ≤ C.length + S.length := by omega
  have hlaid : laid (laid (A ++ (C ++ S)) (i + 1) C) (i) X = A ++ (X ++ (C ++ S.drop 1)) := by
    have := laid_shift A C S X (by omega)
    rw [show i + 1 = A.length + X.length by omega, show i = A.length by omega]
    rw [hX] at this ⊢
    exact this
  have HCP : Hid (∀ ty dl dc, 1 ≤ dl → (Builtin.copy_ #[23, 23] ty #[.slice (some ⟨g, i, none⟩) dl dc, .slice (some ⟨vb, 0, none⟩) 1 1]).run Tryz.prog W1 = .ok (goInt 1) (W1.setRow g (A ++ (X ++ (C ++ S.drop 1))).toArray)) := by
    show ∀ ty dl dc, _
    intro ty dl dc hd
    have hm : Nat.min 1 dl = 1 := Nat.min_eq_left hd
    have := run_copyK (P := Tryz.prog) W1 23 23 ty 9 ti Tryz.underlying23 hti g (i) dl dc ⟨vb, 0, none⟩ 1 1 _ 9 X hg1 (by rw [hm, hsz, hX]) ?_ ?_ hx1
    · rw [hm] at this
      rw [← hlaid]
      exact this
    · intro j u hu
      refine cells_of_row (w := W1) (cur := X) hv1 0 j u ?_
      simpa using hu
    · simp [laid]; simp at hS; omega
  clear hcp1 hg1 hv1 hj1 hlaid hA hC hX h1 hx1 hS hSC hov
  obtain ⟨S', hS'⟩ : ∃ S', S' = S.drop 1 := ⟨_, rfl⟩
  rw [← hS'] at HCP
  have HS : Hid (S' = S.drop 1) := hS'
  clear hS'
  go_wp2_with fail
  rw [HCP.out _ _ _ (by omega)]
  go_wp2_with fail
  go_ret
  exact ⟨rfl, by rw [← HS.out]; exact setRow_heap W1 g _ _ _ _ HG1.out, HJ.out.setRow _⟩
set_option maxRecDepth 100000 in
set_option maxHeartbeats 4000000 in
theorem insert_roomS (g vb i r cap : Nat) (A C S X : List Value) (w : World) (hr : 0 < r) (hA : A.length = i * 2) (hC : C.length = r * 2) (hX : X.length = 2) (hvb : vb ≠ g)
    (hg : w.heap[g]? = some (.cells (A ++ (C ++ S)).toArray 69 (0, 0))) (hv : w.heap[vb]? = some (.cells X.toArray 69 (0, 0))) (hroom : i + r + 1 ≤ cap) (hS : (A ++ (C ++ S)).length = cap * 2) (hmax : cap ≤ 9223372036854775807) (hsm : i + r ≤ 1048576)
    (h1 : ∀ v ∈ C, v.oneCell' = true) (hx1 : ∀ v ∈ X, v.oneCell' = true) :
    Calls Tryz.prog 157 #[.slice (some ⟨g, 0, none⟩) (i + r) cap, .int .i64 (i : Int), .slice (some ⟨vb, 0, none⟩) 1 1] w fun e w' =>
      e = .returned (.slice (some ⟨g, 0, none⟩) (i + r + 1) cap) ∧ w'.heap[g]? = some (.cells (A ++ (X ++ (C ++ S.drop 2))).toArray 69 (0, 0)) ∧ JustRow g w w' := by
  obtain ⟨ti, hti, hz, hsz, hby⟩ := info_parts info_score
  have q1 : ¬ ((i : Int) = (i : Int) + (r : Int)) := by omega
  have q2 : ¬ ((cap : Int) < (i : Int) + (r : Int) + 1) := by omega
  have q3 : (i : Int) ≤ (i : Int) + (r : Int) := by omega
  have q4 : (0 : Int) ≤ (i : Int) := by omega
  have q5 : i ≤ i + r := by omega
  have q6 : ((i : Int) + (r : Int) + 1) ≤ (cap : Int) := by omega
  have q7 : (0 : Int) ≤ (i : Int) + (r : Int) + 1 := by omega
  have q8 : ((i : Int) + (r : Int) + 1).toNat = i + r + 1 := by omega
  have q9 : IntKind.i64.wrap ((i : Int) + (r : Int) + 1) = (i : Int) + (r : Int) + 1 := by rw [IntKind.wrap_i64]; omega
  have q10 : IntKind.i64.wrap ((i : Int) + 1) = (i : Int) + 1 := by rw [IntKind.wrap_i64]; omega
  have q11 : (0 : Int) ≤ (i : Int) + 1 := by omega
  have q12 : ((i : Int) + 1).toNat = i + 1 := by omega
  have q13 : (i : Int) + 1 ≤ (i : Int) + (r : Int) + 1 := by omega
  have q14 : ¬ (cap = i + 1) := by omega
  have q15 : (i : Int) ≤ (i : Int) + (r : Int) + 1 := by omega
  have q16 : ¬ (cap = i) := by omega
  have HG : Hid (w.heap[g]? = some (.cells (A ++ (C ++ S)).toArray 69 (0, 0))) := hg
  have HV : Hid (w.heap[vb]? = some (.cells X.toArray 69 (0, 0))) := hv
  have hov : ∀ lb cb, (callFunc 176 #[.slice (some ⟨vb, 0, none⟩) 1 1, .slice (some ⟨g, (i + 1) * 2, none⟩) lb cb]).run Tryz.prog w = .ok (.value (.bool false)) w := by
    intro lb cb
    rw [run_callFunc_extern Tryz.func176 (by kernel_rfl) (by kernel_rfl) (by kernel_rfl) (e := Extern.SlicesOverlaps.overlaps #[24, 24] #[4]) (by kernel_rfl),
      Lib.run_overlaps_apart w 24 4 69 Tryz.underlying24 2 (fun w => by simp [sizeOf, typeInfo, hti, hsz]) ⟨vb, 0, none⟩ ⟨g, (i + 1) * 2, none⟩ 1 1 lb cb hvb 69 69 2 (cap * 2)
        (by unfold World.shape?; rw [hv]; simp [hX]) (by unfold World.shape?; rw [hg]; rw [← hS]; simp) (by omega) ((block_cells hv).2 0) ((block_cells hv).2 _)]
    rfl
  clear hg hv
  go_enter Tryz.func157, Tryz.ntmps157
  go_wp2_with (simp only [hov])
  have hcp1 : ∀ ty dl dc sl sc, Nat.min sl dl = r → (Builtin.copy_ #[24, 24] ty #[.slice (some ⟨g, (i + 1) * 2, none⟩) dl dc, .slice (some ⟨g, i * 2, none⟩) sl sc]).run Tryz.prog w.drew = .ok (goInt r) (w.drew.setRow g (laid (A ++ (C ++ S)) ((i + 1) * 2) C).toArray) := by
    intro ty dl dc sl sc hm
    have := run_copyK (P := Tryz.prog) w.drew 24 24 ty 69 ti Tryz.underlying24 hti g ((i + 1) * 2) dl dc ⟨g, i * 2, none⟩ sl sc _ 69 C HG.out (by rw [hm, hsz, hC]) ?_ ?_ h1
    · rw [hm] at this
      exact this
    · intro j u hu
      have hj : j < C.length := (List.getElem?_eq_some_iff.1 hu).1
      refine cells_of_row (w := w.drew) (cur := A ++ (C ++ S)) HG.out (i * 2) j u ?_
      rw [List.getElem?_append_right (by omega), List.getElem?_append_left (by omega), show i * 2 + j - A.length = j by omega]
      exact hu
    · rw [List.size_toArray, hS]
      omega
  go_region_law (refine step_copy_run rfl _ _ 24 24 rfl _ _ (by simp [Act.eval, Act.put]; exact ⟨rfl, rfl⟩) (by simp [Act.eval, Act.put]; exact ⟨rfl, rfl⟩) (hcp1 _ _ _ _ _ (by simp [Nat.min_def] <;> omega)) ?_)
  have hg1 := setRow_heap w.drew g _ (laid (A ++ (C ++ S)) ((i + 1) * 2) C).toArray _ _ HG.out
  have hv1 := (setRow_other w.drew g vb (laid (A ++ (C ++ S)) ((i + 1) * 2) C).toArray hvb).trans HV.out
  have hj1 : JustRow g w (w.drew.setRow g (laid (A ++ (C ++ S)) ((i + 1) * 2) C).toArray) := (JustRow.drew g w).setRow _
  generalize w.drew.setRow g (laid (A ++ (C ++ S)) ((i + 1) * 2) C).toArray = W1 at hg1 hv1 hj1 ⊢
  have HG1 : Hid (W1.heap[g]? = some (.cells (laid (A ++ (C ++ S)) ((i + 1) * 2) C).toArray 69 (0, 0))) := hg1
  have HJ : Hid (JustRow g w W1) := hj1
  have hSC : 2 ≤ C.length + S.length := by omega
  have hlaid : laid (laid (A ++ (C ++ S)) ((i + 1) * 2) C) (i * 2) X = A ++ (X ++ (C ++ S.drop 2)) := by
    have := laid_shift A C S X (by omega)
    rw [show (i + 1) * 2 = A.length + X.length by omega, show i * 2 = A.length by omega]
    rw [hX] at this ⊢
    exact this
  have HCP : Hid (∀ ty dl dc, 1 ≤ dl → (Builtin.copy_ #[24, 24] ty #[.slice (some ⟨g, i * 2, none⟩) dl dc, .slice (some ⟨vb, 0, none⟩) 1 1]).run Tryz.prog W1 = .ok (goInt 1) (W1.setRow g (A ++ (X ++ (C ++ S.drop 2))).toArray)) := by
    show ∀ ty dl dc, _
    intro ty dl dc hd
    have hm : Nat.min 1 dl = 1 := Nat.min_eq_left hd
    have := run_copyK (P := Tryz.prog) W1 24 24 ty 69 ti Tryz.underlying24 hti g (i * 2) dl dc ⟨vb, 0, none⟩ 1 1 _ 69 X hg1 (by rw [hm, hsz, hX]) ?_ ?_ hx1
    · rw [hm] at this
      rw [← hlaid]
      exact this
    · intro j u hu
      refine cells_of_row (w := W1) (cur := X) hv1 0 j u ?_
      simpa using hu
    · simp [laid]; simp at hS; omega
  clear hcp1 hg1 hv1 hj1 hlaid hA hC hX h1 hx1 hS hSC hov
  obtain ⟨S', hS'⟩ : ∃ S', S' = S.drop 2 := ⟨_, rfl⟩
  rw [← hS'] at HCP
  have HS : Hid (S' = S.drop 2) := hS'
  clear hS'
  go_wp2_with fail
  rw [HCP.out _ _ _ (by omega)]
  go_wp2_with fail
  go_ret
  exact ⟨rfl, by rw [← HS.out]; exact setRow_heap W1 g _ _ _ _ HG1.out, HJ.out.setRow _⟩
end Go.Proofs.YtfnephnecighaaaGreat
