/- slices.Insert of one element, over a row of the call's own. -/
import Derived.Test.YtfnephnecighaaaGreatSdJ
import Derived.Test.YtfnephnecighaaaGreatWgJ
import Derived.Lib.Overlaps
import Derived.Laws.Externs
namespace Go.Proofs.YtfnephnecighaaaGreat
open Go.RowKit
set_option linter.unusedVariables false

theorem laid_shift (A C S X : List Value) (h : X.length ≤ C.length + S.length) : laid (laid (A ++ (C ++ S)) (A.length + X.length) C) A.length X = A ++ (X ++ (C ++ S.drop X.length)) := by
  have h1 : ((A ++ (C ++ S)).take (A.length + X.length)).length = A.length + X.length := by simp; omega
  have h2 : (laid (A ++ (C ++ S)) (A.length + X.length) C).take A.length = A := by
    unfold laid
    rw [List.append_assoc, List.take_append_of_le_length (by omega), List.take_take, Nat.min_eq_left (by omega), List.take_left]
  have h3 : (laid (A ++ (C ++ S)) (A.length + X.length) C).drop (A.length + X.length) = C ++ S.drop X.length := by
    unfold laid
    rw [List.append_assoc, List.drop_append_of_le_length (by omega), List.drop_eq_nil_of_le (by omega), List.nil_append]
    congr 1
    rw [← List.append_assoc, List.drop_append, List.drop_eq_nil_of_le (by simp <;> omega), List.nil_append]
    congr 1
    simp <;> omega
  rw [show laid (laid (A ++ (C ++ S)) (A.length + X.length) C) A.length X = (laid (A ++ (C ++ S)) (A.length + X.length) C).take A.length ++ X ++ (laid (A ++ (C ++ S)) (A.length + X.length) C).drop (A.length + X.length) from rfl, h2, h3]
  simp

set_option maxRecDepth 100000 in
set_option maxHeartbeats 4000000 in
theorem insert_roomP (g vb i r cap : Nat) (A C S X : List Value) (w : World) (hr : 0 < r) (hA : A.length = i * 2) (hC : C.length = r * 2) (hX : X.length = 2) (hvb : vb ≠ g)
    (hg : w.heap[g]? = some (.cells (A ++ (C ++ S)).toArray 67 (0, 0))) (hv : w.heap[vb]? = some (.cells X.toArray 67 (0, 0))) (hroom : i + r + 1 ≤ cap) (hS : (A ++ (C ++ S)).length = cap * 2) (hmax : cap ≤ 9223372036854775807) (hsm : i + r ≤ 1048576)
    (h1 : ∀ v ∈ C, v.oneCell' = true) (hx1 : ∀ v ∈ X, v.oneCell' = true) :
    Calls Tryz.prog 152 #[.slice (some ⟨g, 0, none⟩) (i + r) cap, .int .i64 (i : Int), .slice (some ⟨vb, 0, none⟩) 1 1] w fun e w' =>
      e = .returned (.slice (some ⟨g, 0, none⟩) (i + r + 1) cap) ∧ w'.heap[g]? = some (.cells (A ++ (X ++ (C ++ S.drop 2))).toArray 67 (0, 0)) ∧ JustRow g w w' := by
  obtain ⟨ti, hti, hz, hsz, hby⟩ := info_parts info_pair
  have q1 : ¬ ((i : Int) = (i : Int) + (r : Int)) := by omega
  have q2 : ¬ ((cap : Int) < (i : Int) + (r : Int) + 1) := by omega
  have q3 : (i : Int) ≤ (i : Int) + (r : Int) := by omega
  have q4 : (0 : Int) ≤ (i : Int) := by omega
  have q5 : i ≤ i + r := by omega
  have q6 : ((i : Int) + (r : Int) + 1) ≤ (cap : Int) := by omega
  have q7 : (0 : Int) ≤ (i : Int) + (r : Int) + 1 := by omega
  have q8 : ((i : Int) + (r : Int) + 1).toNat = i + r + 1 := by omega
  have q9 : IntKind.i64.wrap ((i : Int) + (r : Int) + 1) = (i : Int) + (r : Int) + 1 := by rw [IntKind.wrap_i64]; omega
  have q10 : IntKind.i64.wrap ((i : Int) + 1) = (i : Int) + 1 := by rw [IntKind.wrap_i64]; omega
  have q11 : (0 : Int) ≤ (i : Int) + 1 := by omega
  have q12 : ((i : Int) + 1).toNat = i + 1 := by omega
  have q13 : (i : Int) + 1 ≤ (i : Int) + (r : Int) + 1 := by omega
  have q14 : ¬ (cap = i + 1) := by omega
  have q15 : (i : Int) ≤ (i : Int) + (r : Int) + 1 := by omega
  have q16 : ¬ (cap = i) := by omega
  have HG : Hid (w.heap[g]? = some (.cells (A ++ (C ++ S)).toArray 67 (0, 0))) := hg
  have HV : Hid (w.heap[vb]? = some (.cells X.toArray 67 (0, 0))) := hv
  have hov : ∀ lb cb, (callFunc 172 #[.slice (some ⟨vb, 0, none⟩) 1 1, .slice (some ⟨g, (i + 1) * 2, none⟩) lb cb]).run Tryz.prog w = .ok (.value (.bool false)) w := by
    intro lb cb
    rw [run_callFunc_extern Tryz.func172 (by kernel_rfl) (by kernel_rfl) (by kernel_rfl) (e := Extern.SlicesOverlaps.overlaps #[22, 22] #[4]) (by kernel_rfl),
      Lib.run_overlaps_apart w 22 4 67 Tryz.underlying22 2 (fun w => by simp [sizeOf, typeInfo, hti, hsz]) ⟨vb, 0, none⟩ ⟨g, (i + 1) * 2, none⟩ 1 1 lb cb hvb 67 67 2 (cap * 2)
        (by unfold World.shape?; rw [hv]; simp [hX]) (by unfold World.shape?; rw [hg]; rw [← hS]; simp) (by omega) ((block_cells hv).2 0) ((block_cells hv).2 _)]
    rfl
  clear hg hv
  go_enter Tryz.func152, Tryz.ntmps152
  go_wp2_with (simp only [hov])
  have hcp1 : ∀ ty dl dc sl sc, Nat.min sl dl = r → (Builtin.copy_ #[22, 22] ty #[.slice (some ⟨g, (i + 1) * 2, none⟩) dl dc, .slice (some ⟨g, i * 2, none⟩) sl sc]).run Tryz.prog w.drew = .ok (goInt r) (w.drew.setRow g (laid (A ++ (C ++ S)) ((i + 1) * 2) C).toArray) := by
    intro ty dl dc sl sc hm
    have := run_copyK (P := Tryz.prog) w.drew 22 22 ty 67 ti Tryz.underlying22 hti g ((i + 1) * 2) dl dc ⟨g, i * 2, none⟩ sl sc _ 67 C HG.out (by rw [hm, hsz, hC]) ?_ ?_ h1
    · rw [hm] at this
      exact this
    · intro j u hu
      have hj : j < C.length := (List.getElem?_eq_some_iff.1 hu).1
      refine cells_of_row (w := w.drew) (cur := A ++ (C ++ S)) HG.out (i * 2) j u ?_
      rw [List.getElem?_append_right (by omega), List.getElem?_append_left (by omega), show i * 2 + j - A.length = j by omega]
      exact hu
    · rw [List.size_toArray, hS]
      omega
  go_region_law (refine step_copy_run rfl _ _ 22 22 rfl _ _ (by simp [Act.eval, Act.put]; exact ⟨rfl, rfl⟩) (by simp [Act.eval, Act.put]; exact ⟨rfl, rfl⟩) (hcp1 _ _ _ _ _ (by simp [Nat.min_def] <;> omega)) ?_)
  have hg1 := setRow_heap w.drew g _ (laid (A ++ (C ++ S)) ((i + 1) * 2) C).toArray _ _ HG.out
  have hv1 := (setRow_other w.drew g vb (laid (A ++ (C ++ S)) ((i + 1) * 2) C).toArray hvb).trans HV.out
  have hj1 : JustRow g w (w.drew.setRow g (laid (A ++ (C ++ S)) ((i + 1) * 2) C).toArray) := (JustRow.drew g w).setRow _
  generalize w.drew.setRow g (laid (A ++ (C ++ S)) ((i + 1) * 2) C).toArray = W1 at hg1 hv1 hj1 ⊢
  have HG1 : Hid (W1.heap[g]? = some (.cells (laid (A ++ (C ++ S)) ((i + 1) * 2) C).toArray 67 (0, 0))) := hg1
  have HJ : Hid (JustRow g w W1) := hj1
  have hSC : 2 ≤ C.length + S.length := by omega
  have hlaid : laid (laid (A ++ (C ++ S)) ((i + 1) * 2) C) (i * 2) X = A ++ (X ++ (C ++ S.drop 2)) := by
    have := laid_shift A C S X (by omega)
    rw [show (i + 1) * 2 = A.length + X.length by omega, show i * 2 = A.length by omega]
    rw [hX] at this ⊢
    exact this
  have HCP : Hid (∀ ty dl dc, 1 ≤ dl → (Builtin.copy_ #[22, 22] ty #[.slice (some ⟨g, i * 2, none⟩) dl dc, .slice (some ⟨vb, 0, none⟩) 1 1]).run Tryz.prog W1 = .ok (goInt 1) (W1.setRow g (A ++ (X ++ (C ++ S.drop 2))).toArray)) := by
    show ∀ ty dl dc, _
    intro ty dl dc hd
    have hm : Nat.min 1 dl = 1 := Nat.min_eq_left hd
    have := run_copyK (P := Tryz.prog) W1 22 22 ty 67 ti Tryz.underlying22 hti g (i * 2) dl dc ⟨vb, 0, none⟩ 1 1 _ 67 X hg1 (by rw [hm, hsz, hX]) ?_ ?_ hx1
    · rw [hm] at this
      rw [← hlaid]
      exact this
    · intro j u hu
      refine cells_of_row (w := W1) (cur := X) hv1 0 j u ?_
      simpa using hu
    · simp [laid]; simp at hS; omega
  clear hcp1 hg1 hv1 hj1 hlaid hA hC hX h1 hx1 hS hSC hov
  obtain ⟨S', hS'⟩ : ∃ S', S' = S.drop 2 := ⟨_, rfl⟩
  rw [← hS'] at HCP
  have HS : Hid (S' = S.drop 2) := hS'
  clear hS'
  go_wp2_with fail
  rw [HCP.out _ _ _ (by omega)]
  go_wp2_with fail
  go_ret
  exact ⟨rfl, by rw [← HS.out]; exact setRow_heap W1 g _ _ _ _ HG1.out, HJ.out.setRow _⟩
set_option maxRecDepth 100000 in
set_option maxHeartbeats 4000000 in
theorem insert_roomI (g vb i r cap : Nat) (A C S X : List Value) (w : World) (hr : 0 < r) (hA : A.length = i * 1) (hC : C.length = r * 1) (hX : X.length = 1) (hvb : vb ≠ g)
    (hg : w.heap[g]? = some (.cells (A ++ (C ++ S)).toArray 9 (0, 0))) (hv : w.heap[vb]? = some (.cells X.toArray 9 (0, 0))) (hroom : i + r + 1 ≤ cap) (hS : (A ++ (C ++ S)).length = cap * 1) (hmax : cap ≤ 9223372036854775807) (hsm : i + r ≤ 1048576)
    (h1 : ∀ v ∈ C, v.oneCell' = true) (hx1 : ∀ v ∈ X, v.oneCell' = true) :
    Calls Tryz.prog 153 #[.slice (some ⟨g, 0, none⟩) (i + r) cap, .int .i64 (i : Int), .slice (some ⟨vb, 0, none⟩) 1 1] w fun e w' =>
      e = .returned (.slice (some ⟨g, 0, none⟩) (i + r + 1) cap) ∧ w'.heap[g]? = some (.cells (A ++ (X ++ (C ++ S.drop 1))).toArray 9 (0, 0)) ∧ JustRow g w w' := by
  obtain ⟨ti, hti, hz, hsz, hby⟩ := info_parts info_string
  have q1 : ¬ ((i : Int) = (i : Int) + (r : Int)) := by omega
  have q2 : ¬ ((cap : Int) < (i : Int) + (r : Int) + 1) := by omega
  have q3 : (i : Int) ≤ (i : Int) + (r : Int) := by omega
  have q4 : (0 : Int) ≤ (i : Int) := by omega
  have q5 : i ≤ i + r := by omega
  have q6 : ((i : Int) + (r : Int) + 1) ≤ (cap : Int) := by omega
  have q7 : (0 : Int) ≤ (i : Int) + (r : Int) + 1 := by omega
  have q8 : ((i : Int) + (r : Int) + 1).toNat = i + r + 1 := by omega
  have q9 : IntKind.i64.wrap ((i : Int) + (r : Int) + 1) = (i : Int) + (r : Int) + 1 := by rw [IntKind.wrap_i64]; omega
  have q10 : IntKind.i64.wrap ((i : Int) + 1) = (i : Int) + 1 := by rw [IntKind.wrap_i64]; omega
  have q11 : (0 : Int) ≤ (i : Int) + 1 := by omega
  have q12 : ((i : Int) + 1).toNat = i + 1 := by omega
  have q13 : (i : Int) + 1 ≤ (i : Int) + (r : Int) + 1 := by omega
  have q14 : ¬ (cap = i + 1) := by omega
  have q15 : (i : Int) ≤ (i : Int) + (r : Int) + 1 := by omega
  have q16 : ¬ (cap = i) := by omega
  have HG : Hid (w.heap[g]? = some (.cells (A ++ (C ++ S)).toArray 9 (0, 0))) := hg
  have HV : Hid (w.heap[vb]? = some (.cells X.toArray 9 (0, 0))) := hv
  have hov : ∀ lb cb, (callFunc 174 #[.slice (some ⟨vb, 0, none⟩) 1 1, .slice (some ⟨g, i + 1, none⟩) lb cb]).run Tryz.prog w = .ok (.value (.bool false)) w := by
    intro lb cb
    rw [run_callFunc_extern Tryz.func174 (by kernel_rfl) (by kernel_rfl) (by kernel_rfl) (e := Extern.SlicesOverlaps.overlaps #[23, 23] #[4]) (by kernel_rfl),
      Lib.run_overlaps_apart w 23 4 9 Tryz.underlying23 1 (fun w => by simp [sizeOf, typeInfo, hti, hsz]) ⟨vb, 0, none⟩ ⟨g, i + 1, none⟩ 1 1 lb cb hvb 9 9 1 (cap * 1)
        (by unfold World.shape?; rw [hv]; simp [hX]) (by unfold World.shape?; rw [hg]; rw [← hS]; simp) (by omega) ((block_cells hv).2 0) ((block_cells hv).2 _)]
    rfl
  clear hg hv
  go_enter Tryz.func153, Tryz.ntmps153
  go_wp2_with (simp only [hov])
  have hcp1 : ∀ ty dl dc sl sc, Nat.min sl dl = r → (Builtin.copy_ #[23, 23] ty #[.slice (some ⟨g, i + 1, none⟩) dl dc, .slice (some ⟨g, i, none⟩) sl sc]).run Tryz.prog w.drew = .ok (goInt r) (w.drew.setRow g (laid (A ++ (C ++ S)) (i + 1) C).toArray) := by
    intro ty dl dc sl sc hm
    have := run_copyK (P := Tryz.prog) w.drew 23 23 ty 9 ti Tryz.underlying23 hti g (i + 1) dl dc ⟨g, i, none⟩ sl sc _ 9 C HG.out (by rw [hm, hsz, hC]) ?_ ?_ h1
    · rw [hm] at this
      exact this
    · intro j u hu
      have hj : j < C.length := (List.getElem?_eq_some_iff.1 hu).1
      refine cells_of_row (w := w.drew) (cur := A ++ (C ++ S)) HG.out (i) j u ?_
      rw [List.getElem?_append_right (by omega), List.getElem?_append_left (by omega), show i + j - A.length = j by omega]
      exact hu
    · rw [List.size_toArray, hS]
      omega
  go_region_law (refine step_copy_run rfl _ _ 23 23 rfl _ _ (by simp [Act.eval, Act.put]; exact ⟨rfl, rfl⟩) (by simp [Act.eval, Act.put]; exact ⟨rfl, rfl⟩) (hcp1 _ _ _ _ _ (by simp [Nat.min_def] <;> omega)) ?_)
  have hg1 := setRow_heap w.drew g _ (laid (A ++ (C ++ S)) (i + 1) C).toArray _ _ HG.out
  have hv1 := (setRow_other w.drew g vb (laid (A ++ (C ++ S)) (i + 1) C).toArray hvb).trans HV.out
  have hj1 : JustRow g w (w.drew.setRow g (laid (A ++ (C ++ S)) (i + 1) C).toArray) := (JustRow.drew g w).setRow _
  generalize w.drew.setRow g (laid (A ++ (C ++ S)) (i + 1) C).toArray = W1 at hg1 hv1 hj1 ⊢
  have HG1 : Hid (W1.heap[g]? = some (.cells (laid (A ++ (C ++ S)) (i + 1) C).toArray 9 (0, 0))) := hg1
  have HJ : Hid (JustRow g w W1) := hj1
  have hSC : 1 ≤ C.length + S.length := by omega
  have hlaid : laid (laid (A ++ (C ++ S)) (i + 1) C) (i) X = A ++ (X ++ (C ++ S.drop 1)) := by
    have := laid_shift A C S X (by omega)
    rw [show i + 1 = A.length + X.length by omega, show i = A.length by omega]
    rw [hX] at this ⊢
    exact this
  have HCP : Hid (∀ ty dl dc, 1 ≤ dl → (Builtin.copy_ #[23, 23] ty #[.slice (some ⟨g, i, none⟩) dl dc, .slice (some ⟨vb, 0, none⟩) 1 1]).run Tryz.prog W1 = .ok (goInt 1) (W1.setRow g (A ++ (X ++ (C ++ S.drop 1))).toArray)) := by
    show ∀ ty dl dc, _
    intro ty dl dc hd
    have hm : Nat.min 1 dl = 1 := Nat.min_eq_left hd
    have := run_copyK (P := Tryz.prog) W1 23 23 ty 9 ti Tryz.underlying23 hti g (i) dl dc ⟨vb, 0, none⟩ 1 1 _ 9 X hg1 (by rw [hm, hsz, hX]) ?_ ?_ hx1
    · rw [hm] at this
      rw [← hlaid]
      exact this
    · intro j u hu
      refine cells_of_row (w := W1) (cur := X) hv1 0 j u ?_
      simpa using hu
    · simp [laid]; simp at hS; omega
  clear hcp1 hg1 hv1 hj1 hlaid hA hC hX h1 hx1 hS hSC hov
  obtain ⟨S', hS'⟩ : ∃ S', S' = S.drop 1 := ⟨_, rfl⟩
  rw [← hS'] at HCP
  have HS : Hid (S' = S.drop 1) := hS'
  clear hS'
  go_wp2_with fail
  rw [HCP.out _ _ _ (by omega)]
  go_wp2_with fail
  go_ret
  exact ⟨rfl, by rw [← HS.out]; exact setRow_heap W1 g _ _ _ _ HG1.out, HJ.out.setRow _⟩
set_option maxRecDepth 100000 in
set_option maxHeartbeats 4000000 in
theorem insert_roomS (g vb i r cap : Nat) (A C S X : List Value) (w : World) (hr : 0 < r) (hA : A.length = i * 2) (hC : C.length = r * 2) (hX : X.length = 2) (hvb : vb ≠ g)
    (hg : w.heap[g]? = some (.cells (A ++ (C ++ S)).toArray 69 (0, 0))) (hv : w.heap[vb]? = some (.cells X.toArray 69 (0, 0))) (hroom : i + r + 1 ≤ cap) (hS : (A ++ (C ++ S)).length = cap * 2) (hmax : cap ≤ 9223372036854775807) (hsm : i + r ≤ 1048576)
    (h1 : ∀ v ∈ C, v.oneCell' = true) (hx1 : ∀ v ∈ X, v.oneCell' = true) :
    Calls Tryz.prog 157 #[.slice (some ⟨g, 0, none⟩) (i + r) cap, .int .i64 (i : Int), .slice (some ⟨vb, 0, none⟩) 1 1] w fun e w' =>
      e = .returned (.slice (some ⟨g, 0, none⟩) (i + r + 1) cap) ∧ w'.heap[g]? = some (.cells (A ++ (X ++ (C ++ S.drop 2))).toArray 69 (0, 0)) ∧ JustRow g w w' := by
  obtain ⟨ti, hti, hz, hsz, hby⟩ := info_parts info_score
  have q1 : ¬ ((i : Int) = (i : Int) + (r : Int)) := by omega
  have q2 : ¬ ((cap : Int) < (i : Int) + (r : Int) + 1) := by omega
  have q3 : (i : Int) ≤ (i : Int) + (r : Int) := by omega
  have q4 : (0 : Int) ≤ (i : Int) := by omega
  have q5 : i ≤ i + r := by omega
  have q6 : ((i : Int) + (r : Int) + 1) ≤ (cap : Int) := by omega
  have q7 : (0 : Int) ≤ (i : Int) + (r : Int) + 1 := by omega
  have q8 : ((i : Int) + (r : Int) + 1).toNat = i + r + 1 := by omega
  have q9 : IntKind.i64.wrap ((i : Int) + (r : Int) + 1) = (i : Int) + (r : Int) + 1 := by rw [IntKind.wrap_i64]; omega
  have q10 : IntKind.i64.wrap ((i : Int) + 1) = (i : Int) + 1 := by rw [IntKind.wrap_i64]; omega
  have q11 : (0 : Int) ≤ (i : Int) + 1 := by omega
  have q12 : ((i : Int) + 1).toNat = i + 1 := by omega
  have q13 : (i : Int) + 1 ≤ (i : Int) + (r : Int) + 1 := by omega
  have q14 : ¬ (cap = i + 1) := by omega
  have q15 : (i : Int) ≤ (i : Int) + (r : Int) + 1 := by omega
  have q16 : ¬ (cap = i) := by omega
  have HG : Hid (w.heap[g]? = some (.cells (A ++ (C ++ S)).toArray 69 (0, 0))) := hg
  have HV : Hid (w.heap[vb]? = some (.cells X.toArray 69 (0, 0))) := hv
  have hov : ∀ lb cb, (callFunc 176 #[.slice (some ⟨vb, 0, none⟩) 1 1, .slice (some ⟨g, (i + 1) * 2, none⟩) lb cb]).run Tryz.prog w = .ok (.value (.bool false)) w := by
    intro lb cb
    rw [run_callFunc_extern Tryz.func176 (by kernel_rfl) (by kernel_rfl) (by kernel_rfl) (e := Extern.SlicesOverlaps.overlaps #[24, 24] #[4]) (by kernel_rfl),
      Lib.run_overlaps_apart w 24 4 69 Tryz.underlying24 2 (fun w => by simp [sizeOf, typeInfo, hti, hsz]) ⟨vb, 0, none⟩ ⟨g, (i + 1) * 2, none⟩ 1 1 lb cb hvb 69 69 2 (cap * 2)
        (by unfold World.shape?; rw [hv]; simp [hX]) (by unfold World.shape?; rw [hg]; rw [← hS]; simp) (by omega) ((block_cells hv).2 0) ((block_cells hv).2 _)]
    rfl
  clear hg hv
  go_enter Tryz.func157, Tryz.ntmps157
  go_wp2_with (simp only [hov])
  have hcp1 : ∀ ty dl dc sl sc, Nat.min sl dl = r → (Builtin.copy_ #[24, 24] ty #[.slice (some ⟨g, (i + 1) * 2, none⟩) dl dc, .slice (some ⟨g, i * 2, none⟩) sl sc]).run Tryz.prog w.drew = .ok (goInt r) (w.drew.setRow g (laid (A ++ (C ++ S)) ((i + 1) * 2) C).toArray) := by
    intro ty dl dc sl sc hm
    have := run_copyK (P := Tryz.prog) w.drew 24 24 ty 69 ti Tryz.underlying24 hti g ((i + 1) * 2) dl dc ⟨g, i * 2, none⟩ sl sc _ 69 C HG.out (by rw [hm, hsz, hC]) ?_ ?_ h1
    · rw [hm] at this
      exact this
    · intro j u hu
      have hj : j < C.length := (List.getElem?_eq_some_iff.1 hu).1
      refine cells_of_row (w := w.drew) (cur := A ++ (C ++ S)) HG.out (i * 2) j u ?_
      rw [List.getElem?_append_right (by omega), List.getElem?_append_left (by omega), show i * 2 + j - A.length = j by omega]
      exact hu
    · rw [List.size_toArray, hS]
      omega
  go_region_law (refine step_copy_run rfl _ _ 24 24 rfl _ _ (by simp [Act.eval, Act.put]; exact ⟨rfl, rfl⟩) (by simp [Act.eval, Act.put]; exact ⟨rfl, rfl⟩) (hcp1 _ _ _ _ _ (by simp [Nat.min_def] <;> omega)) ?_)
  have hg1 := setRow_heap w.drew g _ (laid (A ++ (C ++ S)) ((i + 1) * 2) C).toArray _ _ HG.out
  have hv1 := (setRow_other w.drew g vb (laid (A ++ (C ++ S)) ((i + 1) * 2) C).toArray hvb).trans HV.out
  have hj1 : JustRow g w (w.drew.setRow g (laid (A ++ (C ++ S)) ((i + 1) * 2) C).toArray) := (JustRow.drew g w).setRow _
  generalize w.drew.setRow g (laid (A ++ (C ++ S)) ((i + 1) * 2) C).toArray = W1 at hg1 hv1 hj1 ⊢
  have HG1 : Hid (W1.heap[g]? = some (.cells (laid (A ++ (C ++ S)) ((i + 1) * 2) C).toArray 69 (0, 0))) := hg1
  have HJ : Hid (JustRow g w W1) := hj1
  have hSC : 2 ≤ C.length + S.length := by omega
  have hlaid : laid (laid (A ++ (C ++ S)) ((i + 1) * 2) C) (i * 2) X = A ++ (X ++ (C ++ S.drop 2)) := by
    have := laid_shift A C S X (by omega)
    rw [show (i + 1) * 2 = A.length + X.length by omega, show i * 2 = A.length by omega]
    rw [hX] at this ⊢
    exact this
  have HCP : Hid (∀ ty dl dc, 1 ≤ dl → (Builtin.copy_ #[24, 24] ty #[.slice (some ⟨g, i * 2, none⟩) dl dc, .slice (some ⟨vb, 0, none⟩) 1 1]).run Tryz.prog W1 = .ok (goInt 1) (W1.setRow g (A ++ (X ++ (C ++ S.drop 2))).toArray)) := by
    show ∀ ty dl dc, _
    intro ty dl dc hd
    have hm : Nat.min 1 dl = 1 := Nat.min_eq_left hd
    have := run_copyK (P := Tryz.prog) W1 24 24 ty 69 ti Tryz.underlying24 hti g (i * 2) dl dc ⟨vb, 0, none⟩ 1 1 _ 69 X hg1 (by rw [hm, hsz, hX]) ?_ ?_ hx1
    · rw [hm] at this
      rw [← hlaid]
      exact this
    · intro j u hu
      refine cells_of_row (w := W1) (cur := X) hv1 0 j u ?_
      simpa using hu
    · simp [laid]; simp at hS; omega
  clear hcp1 hg1 hv1 hj1 hlaid hA hC hX h1 hx1 hS hSC hov
  obtain ⟨S', hS'⟩ : ∃ S', S' = S.drop 2 := ⟨_, rfl⟩
  rw [← hS'] at HCP
  have HS : Hid (S' = S.drop 2) := hS'
  clear hS'
  go_wp2_with fail
  rw [HCP.out _ _ _ (by omega)]
  go_wp2_with fail
  go_ret
  exact ⟨rfl, by rw [← HS.out]; exact setRow_heap W1 g _ _ _ _ HG1.out, HJ.out.setRow _⟩
end Go.Proofs.YtfnephnecighaaaGreat

/- slices.Insert of one element, where there is no room: into a new row. -/
namespace Go.Proofs.YtfnephnecighaaaGreat
open Go.RowKit
set_option linter.unusedVariables false

theorem laid_two (A Z1 Z2 X C : List Value) (h : Z1.length = X.length + C.length) : laid (laid (A ++ (Z1 ++ Z2)) A.length X) (A.length + X.length) C = A ++ (X ++ (C ++ Z2)) := by
  have h1 : laid (A ++ (Z1 ++ Z2)) A.length X = (A ++ X) ++ (Z1 ++ Z2).drop X.length := by
    unfold laid
    rw [List.take_left, List.drop_append, List.drop_eq_nil_of_le (by omega), List.nil_append, Nat.add_sub_cancel_left]
  rw [h1]
  unfold laid
  rw [show A.length + X.length = (A ++ X).length by simp, List.take_left, List.drop_append, List.drop_eq_nil_of_le (by omega), List.nil_append, Nat.add_sub_cancel_left, List.drop_drop, List.drop_append, List.drop_eq_nil_of_le (by omega), List.nil_append, show X.length + C.length - Z1.length = 0 by omega]
  simp
theorem zeros_size (cs : Array Value) (n : Nat) : (Builtin.zeroCells cs n).size = n * cs.size := by simp [Builtin.zeroCells]
theorem below_setRow {B : Nat} {w w' : World} (h : Below B w w') {g : Nat} (hg : B ≤ g) (cs : Array Value) : Below B w (w'.setRow g cs) :=
  h.trans ⟨rfl, rfl, rfl, by simp [World.setRow], fun k hk => setRow_other _ _ _ _ (by omega)⟩

theorem wpList_append_run {P : Program} (w : World) {ops : Array Oper} {rest : List Oper} {o : Oper} {a : Act} {Q : Exit → Act → World → Prop} (hgd : o.guard = none) (d s : Operand) (t t' : TypeId)
    (ho : o.op = .call { callee := .builtin .append, args := #[d, s], argTypes := #[t, t'] }) (v u : Value) (hd : a.eval d = v) (hs : a.eval s = u) {v' : Value} {w' : World}
    (hr : (Builtin.append_ #[t, t'] o.type #[v, u]).run P w = .ok v' w') (h : wpList P ops Q rest (a.put o.dst v') w') : wpList P ops Q (o :: rest) a w := by
  refine wpList_plain hgd fun K hK => ?_
  unfold Oper.wp execOp
  simp only [ho, resolve, invoke, builtin, Sem.run_bind, Sem.run_pure, Result.andThen_ok, List.map_toArray, List.map_cons, List.map_nil, hd, hs, hr]
  exact hK _ _ h

set_option maxRecDepth 100000 in
set_option maxHeartbeats 4000000 in
theorem insert_growP (g vb i r : Nat) (A C X : List Value) (w : World) (hr : 0 < r) (hA : A.length = i * 2) (hC : C.length = r * 2) (hX : X.length = 2)
    (hg : w.heap[g]? = some (.cells (A ++ C).toArray 67 (0, 0))) (hv : w.heap[vb]? = some (.cells X.toArray 67 (0, 0))) (hsm : i + r ≤ 1048576)
    (h1 : ∀ v ∈ C, v.oneCell' = true) (hx1 : ∀ v ∈ X, v.oneCell' = true) :
    Calls Tryz.prog 152 #[.slice (some ⟨g, 0, none⟩) (i + r) (i + r), .int .i64 (i : Int), .slice (some ⟨vb, 0, none⟩) 1 1] w fun e w' =>
      ∃ c2 S2, e = .returned (.slice (some ⟨w.heap.size, 0, none⟩) (i + r + 1) c2) ∧ i + r + 1 ≤ c2 ∧ c2 ≤ maxLen ∧ S2.length = (c2 - (i + r + 1)) * 2 ∧ w'.heap[w.heap.size]? = some (.cells (A ++ (X ++ (C ++ S2))).toArray 67 (0, 0)) ∧ Below w.heap.size w w' := by
  obtain ⟨ti, hti, hz, hsz, hby⟩ := info_parts info_pair
  have q1 : ¬ ((i : Int) = (i : Int) + (r : Int)) := by omega
  have q2 : ((i : Int) + (r : Int) < (i : Int) + (r : Int) + 1) := by omega
  have q3 : (i : Int) ≤ (i : Int) + (r : Int) := by omega
  have q4 : (0 : Int) ≤ (i : Int) := by omega
  have q5 : i ≤ i + r := by omega
  have q9 : IntKind.i64.wrap ((i : Int) + (r : Int) + 1) = (i : Int) + (r : Int) + 1 := by rw [IntKind.wrap_i64]; omega
  have q10 : IntKind.i64.wrap ((i : Int) + 1) = (i : Int) + 1 := by rw [IntKind.wrap_i64]; omega
  have q11 : (0 : Int) ≤ (i : Int) + 1 := by omega
  have q12 : ((i : Int) + 1).toNat = i + 1 := by omega
  have q17 : IntKind.i64.wrap ((i : Int) + (r : Int) + 1 - (i : Int)) = (r : Int) + 1 := by rw [IntKind.wrap_i64]; omega
  have q18 : ¬ (i + r = i) := by omega
  have q19 : ¬ (r = 0) := by omega
  have HG : Hid (w.heap[g]? = some (.cells (A ++ C).toArray 67 (0, 0))) := hg
  have HV : Hid (w.heap[vb]? = some (.cells X.toArray 67 (0, 0))) := hv
  have hmk : ∀ ty, (Builtin.append_ #[22, 3] ty #[.slice (some ⟨g, 0, none⟩) i (i + r), .int .i64 ((r : Int) + 1)]).run Tryz.prog w = .ok (.slice (some ⟨w.heap.size, 0, none⟩) (i + (r + 1)) (grownCap w (i + (r + 1)) (i + r) 67))
      (w.drew.alloc (.cells (A.toArray ++ Builtin.zeroCells (Value.agg #[.string ByteArray.empty, .string ByteArray.empty]).cells (r + 1) ++ Builtin.zeroCells (Value.agg #[.string ByteArray.empty, .string ByteArray.empty]).cells (grownCap w (i + (r + 1)) (i + r) 67 - (i + (r + 1)))) 67)) := by
    intro ty
    have := run_appendMake (P := Tryz.prog) w 22 3 ty 67 ti (Value.agg #[.string ByteArray.empty, .string ByteArray.empty]) .i64 .i64 Tryz.underlying22 Tryz.underlying3 hti hz ⟨g, 0, none⟩ i (i + r) A (by rw [hA, hsz]) ?_ (r + 1) (by omega) (by rw [hsz]; omega) (by omega) (by omega) ?_ (by rw [hby]; omega)
    · exact this
    · intro j u hu
      refine cells_of_row (w := w) (cur := A ++ C) hg 0 j u ?_
      rw [Nat.zero_add, List.getElem?_append_left (List.getElem?_eq_some_iff.1 hu).1]
      exact hu
    · rw [hby]
      have := nextslicecap_le (need := i + (r + 1)) (old := i + r) (by omega)
      omega
  have hge := grownCap_ge w (i + (r + 1)) (i + r) 67
  have hle := grownCap_le_maxLen w (i + (r + 1)) (i + r) 67 (by unfold maxLen; omega)
  generalize grownCap w (i + (r + 1)) (i + r) 67 = c2 at hmk hge hle
  obtain ⟨Z1, hZ1⟩ : ∃ Z1, (Builtin.zeroCells (Value.agg #[.string ByteArray.empty, .string ByteArray.empty]).cells (r + 1)).toList = Z1 := ⟨_, rfl⟩
  obtain ⟨Z2, hZ2⟩ : ∃ Z2, (Builtin.zeroCells (Value.agg #[.string ByteArray.empty, .string ByteArray.empty]).cells (c2 - (i + (r + 1)))).toList = Z2 := ⟨_, rfl⟩
  have lz1 : Z1.length = (r + 1) * 2 := by rw [← hZ1, Array.length_toList, zeros_size]; rfl
  have lz2 : Z2.length = (c2 - (i + (r + 1))) * 2 := by rw [← hZ2, Array.length_toList, zeros_size]; rfl
  have hcur : A.toArray ++ Builtin.zeroCells (Value.agg #[.string ByteArray.empty, .string ByteArray.empty]).cells (r + 1) ++ Builtin.zeroCells (Value.agg #[.string ByteArray.empty, .string ByteArray.empty]).cells (c2 - (i + (r + 1))) = (A ++ (Z1 ++ Z2)).toArray := by
    rw [← hZ1, ← hZ2]
    simp
  rw [hcur] at hmk
  clear hcur hZ1 hZ2
  have g0 : (w.drew.alloc (.cells (A ++ (Z1 ++ Z2)).toArray 67)).heap[w.heap.size]? = some (.cells (A ++ (Z1 ++ Z2)).toArray 67 (0, 0)) := by
    show (w.heap.push _)[_]? = _
    simp
  have hb0 : Below w.heap.size w (w.drew.alloc (.cells (A ++ (Z1 ++ Z2)).toArray 67)) := (Below.refl _ _).drew.alloc (Nat.le_refl _) _
  generalize w.drew.alloc (.cells (A ++ (Z1 ++ Z2)).toArray 67) = W0 at hmk g0 hb0
  have HM : Hid (∀ ty, (Builtin.append_ #[22, 3] ty #[.slice (some ⟨g, 0, none⟩) i (i + r), .int .i64 ((r : Int) + 1)]).run Tryz.prog w = .ok (.slice (some ⟨w.heap.size, 0, none⟩) (i + (r + 1)) c2) W0) := hmk
  have gv : W0.heap[vb]? = some (.cells X.toArray 67 (0, 0)) := (hb0.block vb (Array.getElem?_eq_some_iff.1 hv).1).trans hv
  have gg : W0.heap[g]? = some (.cells (A ++ C).toArray 67 (0, 0)) := (hb0.block g (Array.getElem?_eq_some_iff.1 hg).1).trans hg
  have hgl : g ≠ w.heap.size := by have := (Array.getElem?_eq_some_iff.1 hg).1; omega
  have k1 : ¬ (c2 = i) := by omega
  have k2 : ¬ (c2 = i + 1) := by omega
  have k3 : (i : Int) ≤ (i : Int) + ((r : Int) + 1) := by omega
  have k4 : (i : Int) + 1 ≤ (i : Int) + ((r : Int) + 1) := by omega
  have k5 : i ≤ i + (r + 1) := by omega
  have k6 : i + 1 ≤ i + (r + 1) := by omega
  have G0 : Hid (W0.heap[w.heap.size]? = some (.cells (A ++ (Z1 ++ Z2)).toArray 67 (0, 0))) := g0
  have GV : Hid (W0.heap[vb]? = some (.cells X.toArray 67 (0, 0))) := gv
  have GG : Hid (W0.heap[g]? = some (.cells (A ++ C).toArray 67 (0, 0))) := gg
  have HB : Hid (Below w.heap.size w W0) := hb0
  have hC1 : ∀ ty dl dc, 1 ≤ dl → (Builtin.copy_ #[22, 22] ty #[.slice (some ⟨w.heap.size, i * 2, none⟩) dl dc, .slice (some ⟨vb, 0, none⟩) 1 1]).run Tryz.prog W0 = .ok (goInt 1) (W0.setRow w.heap.size (laid (A ++ (Z1 ++ Z2)) (i * 2) X).toArray) := by
    intro ty dl dc hd
    have hm : Nat.min 1 dl = 1 := Nat.min_eq_left hd
    have := run_copyK (P := Tryz.prog) W0 22 22 ty 67 ti Tryz.underlying22 hti w.heap.size (i * 2) dl dc ⟨vb, 0, none⟩ 1 1 _ 67 X g0 (by rw [hm, hsz, hX]) ?_ ?_ hx1
    · rw [hm] at this
      exact this
    · intro j u hu
      refine cells_of_row (w := W0) (cur := X) gv 0 j u ?_
      simpa using hu
    · simp; omega
  have g1 := setRow_heap W0 w.heap.size _ (laid (A ++ (Z1 ++ Z2)) (i * 2) X).toArray _ _ g0
  have gg1 := (setRow_other W0 w.heap.size g (laid (A ++ (Z1 ++ Z2)) (i * 2) X).toArray hgl).trans gg
  have hb1 := below_setRow hb0 (Nat.le_refl _) (laid (A ++ (Z1 ++ Z2)) (i * 2) X).toArray
  generalize W0.setRow w.heap.size (laid (A ++ (Z1 ++ Z2)) (i * 2) X).toArray = W1 at hC1 g1 gg1 hb1
  have hlaid : laid (laid (A ++ (Z1 ++ Z2)) (i * 2) X) ((i + 1) * 2) C = A ++ (X ++ (C ++ Z2)) := by
    have := laid_two A Z1 Z2 X C (by omega)
    rw [show (i + 1) * 2 = A.length + X.length by omega, show i * 2 = A.length by omega]
    exact this
  have hC2 : ∀ (W : World), (W.heap = W1.heap) → ∀ ty dl dc sl sc, Nat.min sl dl = r → (Builtin.copy_ #[22, 22] ty #[.slice (some ⟨w.heap.size, (i + 1) * 2, none⟩) dl dc, .slice (some ⟨g, i * 2, none⟩) sl sc]).run Tryz.prog W = .ok (goInt r) (W.setRow w.heap.size (A ++ (X ++ (C ++ Z2))).toArray) := by
    intro W hW ty dl dc sl sc hm
    have := run_copyK (P := Tryz.prog) W 22 22 ty 67 ti Tryz.underlying22 hti w.heap.size ((i + 1) * 2) dl dc ⟨g, i * 2, none⟩ sl sc (laid (A ++ (Z1 ++ Z2)) (i * 2) X).toArray 67 C (by rw [hW]; exact g1) (by rw [hm, hsz, hC]) ?_ ?_ h1
    · rw [hm] at this
      rw [← hlaid]
      exact this
    · intro j u hu
      refine cells_of_row (w := W) (cur := A ++ C) (by rw [hW]; exact gg1) (i * 2) j u ?_
      rw [List.getElem?_append_right (by omega), show i * 2 + j - A.length = j by omega]
      exact hu
    · simp [laid]; omega
  have HC1 : Hid (∀ ty dl dc, 1 ≤ dl → (Builtin.copy_ #[22, 22] ty #[.slice (some ⟨w.heap.size, i * 2, none⟩) dl dc, .slice (some ⟨vb, 0, none⟩) 1 1]).run Tryz.prog W0 = .ok (goInt 1) W1) := hC1
  have HC2 : Hid (∀ (W : World), (W.heap = W1.heap) → ∀ ty dl dc sl sc, Nat.min sl dl = r → (Builtin.copy_ #[22, 22] ty #[.slice (some ⟨w.heap.size, (i + 1) * 2, none⟩) dl dc, .slice (some ⟨g, i * 2, none⟩) sl sc]).run Tryz.prog W = .ok (goInt r) (W.setRow w.heap.size (A ++ (X ++ (C ++ Z2))).toArray)) := hC2
  have G1 : Hid (W1.heap[w.heap.size]? = some (.cells (laid (A ++ (Z1 ++ Z2)) (i * 2) X).toArray 67 (0, 0))) := g1
  have HB1 : Hid (Below w.heap.size w W1) := hb1
  have LZ : Hid (Z2.length = (c2 - (i + (r + 1))) * 2) := lz2
  clear hg hv hmk g0 gv gg hb0 hC1 hC2 g1 gg1 hb1 hlaid lz1 lz2 hA hC hX h1 hx1
  go_enter Tryz.func152, Tryz.ntmps152
  go_wp2_with (at_builtin; refine wpList_append_run _ rfl _ _ 22 3 rfl _ _ rfl rfl (HM.out _) ?_)
  rw [HC1.out _ _ _ (by omega)]
  go_wp2_with fail
  go_region_law (refine step_copy_run rfl _ _ 22 22 rfl _ _ (by simp [Act.eval, Act.put]; exact ⟨rfl, rfl⟩) (by simp [Act.eval, Act.put]; exact ⟨rfl, rfl⟩) (HC2.out W1.drew rfl _ _ _ _ _ (by simp [Nat.min_def] <;> omega)) ?_)
  go_wp2_with fail
  go_ret
  refine ⟨c2, Z2, ?_, by omega, hle, LZ.out, ?_, ?_⟩
  · first | rfl | (rw [show i + r + 1 = i + (r + 1) by omega]; rfl)
  · exact setRow_heap _ w.heap.size _ _ _ _ (show W1.drew.heap[w.heap.size]? = _ from G1.out)
  · exact below_setRow HB1.out.drew (Nat.le_refl _) _
set_option maxRecDepth 100000 in
set_option maxHeartbeats 4000000 in
theorem insert_growI (g vb i r : Nat) (A C X : List Value) (w : World) (hr : 0 < r) (hA : A.length = i * 1) (hC : C.length = r * 1) (hX : X.length = 1)
    (hg : w.heap[g]? = some (.cells (A ++ C).toArray 9 (0, 0))) (hv : w.heap[vb]? = some (.cells X.toArray 9 (0, 0))) (hsm : i + r ≤ 1048576)
    (h1 : ∀ v ∈ C, v.oneCell' = true) (hx1 : ∀ v ∈ X, v.oneCell' = true) :
    Calls Tryz.prog 153 #[.slice (some ⟨g, 0, none⟩) (i + r) (i + r), .int .i64 (i : Int), .slice (some ⟨vb, 0, none⟩) 1 1] w fun e w' =>
      ∃ c2 S2, e = .returned (.slice (some ⟨w.heap.size, 0, none⟩) (i + r + 1) c2) ∧ i + r + 1 ≤ c2 ∧ c2 ≤ maxLen ∧ S2.length = (c2 - (i + r + 1)) * 1 ∧ w'.heap[w.heap.size]? = some (.cells (A ++ (X ++ (C ++ S2))).toArray 9 (0, 0)) ∧ Below w.heap.size w w' := by
  obtain ⟨ti, hti, hz, hsz, hby⟩ := info_parts info_string
  have q1 : ¬ ((i : Int) = (i : Int) + (r : Int)) := by omega
  have q2 : ((i : Int) + (r : Int) < (i : Int) + (r : Int) + 1) := by omega
  have q3 : (i : Int) ≤ (i : Int) + (r : Int) := by omega
  have q4 : (0 : Int) ≤ (i : Int) := by omega
  have q5 : i ≤ i + r := by omega
  have q9 : IntKind.i64.wrap ((i : Int) + (r : Int) + 1) = (i : Int) + (r : Int) + 1 := by rw [IntKind.wrap_i64]; omega
  have q10 : IntKind.i64.wrap ((i : Int) + 1) = (i : Int) + 1 := by rw [IntKind.wrap_i64]; omega
  have q11 : (0 : Int) ≤ (i : Int) + 1 := by omega
  have q12 : ((i : Int) + 1).toNat = i + 1 := by omega
  have q17 : IntKind.i64.wrap ((i : Int) + (r : Int) + 1 - (i : Int)) = (r : Int) + 1 := by rw [IntKind.wrap_i64]; omega
  have q18 : ¬ (i + r = i) := by omega
  have q19 : ¬ (r = 0) := by omega
  have HG : Hid (w.heap[g]? = some (.cells (A ++ C).toArray 9 (0, 0))) := hg
  have HV : Hid (w.heap[vb]? = some (.cells X.toArray 9 (0, 0))) := hv
  have hmk : ∀ ty, (Builtin.append_ #[23, 3] ty #[.slice (some ⟨g, 0, none⟩) i (i + r), .int .i64 ((r : Int) + 1)]).run Tryz.prog w = .ok (.slice (some ⟨w.heap.size, 0, none⟩) (i + (r + 1)) (grownCap w (i + (r + 1)) (i + r) 9))
      (w.drew.alloc (.cells (A.toArray ++ Builtin.zeroCells (Value.string ByteArray.empty).cells (r + 1) ++ Builtin.zeroCells (Value.string ByteArray.empty).cells (grownCap w (i + (r + 1)) (i + r) 9 - (i + (r + 1)))) 9)) := by
    intro ty
    have := run_appendMake (P := Tryz.prog) w 23 3 ty 9 ti (Value.string ByteArray.empty) .i64 .i64 Tryz.underlying23 Tryz.underlying3 hti hz ⟨g, 0, none⟩ i (i + r) A (by rw [hA, hsz]) ?_ (r + 1) (by omega) (by rw [hsz]; omega) (by omega) (by omega) ?_ (by rw [hby]; omega)
    · exact this
    · intro j u hu
      refine cells_of_row (w := w) (cur := A ++ C) hg 0 j u ?_
      rw [Nat.zero_add, List.getElem?_append_left (List.getElem?_eq_some_iff.1 hu).1]
      exact hu
    · rw [hby]
      have := nextslicecap_le (need := i + (r + 1)) (old := i + r) (by omega)
      omega
  have hge := grownCap_ge w (i + (r + 1)) (i + r) 9
  have hle := grownCap_le_maxLen w (i + (r + 1)) (i + r) 9 (by unfold maxLen; omega)
  generalize grownCap w (i + (r + 1)) (i + r) 9 = c2 at hmk hge hle
  obtain ⟨Z1, hZ1⟩ : ∃ Z1, (Builtin.zeroCells (Value.string ByteArray.empty).cells (r + 1)).toList = Z1 := ⟨_, rfl⟩
  obtain ⟨Z2, hZ2⟩ : ∃ Z2, (Builtin.zeroCells (Value.string ByteArray.empty).cells (c2 - (i + (r + 1)))).toList = Z2 := ⟨_, rfl⟩
  have lz1 : Z1.length = (r + 1) * 1 := by rw [← hZ1, Array.length_toList, zeros_size]; rfl
  have lz2 : Z2.length = (c2 - (i + (r + 1))) * 1 := by rw [← hZ2, Array.length_toList, zeros_size]; rfl
  have hcur : A.toArray ++ Builtin.zeroCells (Value.string ByteArray.empty).cells (r + 1) ++ Builtin.zeroCells (Value.string ByteArray.empty).cells (c2 - (i + (r + 1))) = (A ++ (Z1 ++ Z2)).toArray := by
    rw [← hZ1, ← hZ2]
    simp
  rw [hcur] at hmk
  clear hcur hZ1 hZ2
  have g0 : (w.drew.alloc (.cells (A ++ (Z1 ++ Z2)).toArray 9)).heap[w.heap.size]? = some (.cells (A ++ (Z1 ++ Z2)).toArray 9 (0, 0)) := by
    show (w.heap.push _)[_]? = _
    simp
  have hb0 : Below w.heap.size w (w.drew.alloc (.cells (A ++ (Z1 ++ Z2)).toArray 9)) := (Below.refl _ _).drew.alloc (Nat.le_refl _) _
  generalize w.drew.alloc (.cells (A ++ (Z1 ++ Z2)).toArray 9) = W0 at hmk g0 hb0
  have HM : Hid (∀ ty, (Builtin.append_ #[23, 3] ty #[.slice (some ⟨g, 0, none⟩) i (i + r), .int .i64 ((r : Int) + 1)]).run Tryz.prog w = .ok (.slice (some ⟨w.heap.size, 0, none⟩) (i + (r + 1)) c2) W0) := hmk
  have gv : W0.heap[vb]? = some (.cells X.toArray 9 (0, 0)) := (hb0.block vb (Array.getElem?_eq_some_iff.1 hv).1).trans hv
  have gg : W0.heap[g]? = some (.cells (A ++ C).toArray 9 (0, 0)) := (hb0.block g (Array.getElem?_eq_some_iff.1 hg).1).trans hg
  have hgl : g ≠ w.heap.size := by have := (Array.getElem?_eq_some_iff.1 hg).1; omega
  have k1 : ¬ (c2 = i) := by omega
  have k2 : ¬ (c2 = i + 1) := by omega
  have k3 : (i : Int) ≤ (i : Int) + ((r : Int) + 1) := by omega
  have k4 : (i : Int) + 1 ≤ (i : Int) + ((r : Int) + 1) := by omega
  have k5 : i ≤ i + (r + 1) := by omega
  have k6 : i + 1 ≤ i + (r + 1) := by omega
  have G0 : Hid (W0.heap[w.heap.size]? = some (.cells (A ++ (Z1 ++ Z2)).toArray 9 (0, 0))) := g0
  have GV : Hid (W0.heap[vb]? = some (.cells X.toArray 9 (0, 0))) := gv
  have GG : Hid (W0.heap[g]? = some (.cells (A ++ C).toArray 9 (0, 0))) := gg
  have HB : Hid (Below w.heap.size w W0) := hb0
  have hC1 : ∀ ty dl dc, 1 ≤ dl → (Builtin.copy_ #[23, 23] ty #[.slice (some ⟨w.heap.size, i, none⟩) dl dc, .slice (some ⟨vb, 0, none⟩) 1 1]).run Tryz.prog W0 = .ok (goInt 1) (W0.setRow w.heap.size (laid (A ++ (Z1 ++ Z2)) (i) X).toArray) := by
    intro ty dl dc hd
    have hm : Nat.min 1 dl = 1 := Nat.min_eq_left hd
    have := run_copyK (P := Tryz.prog) W0 23 23 ty 9 ti Tryz.underlying23 hti w.heap.size (i) dl dc ⟨vb, 0, none⟩ 1 1 _ 9 X g0 (by rw [hm, hsz, hX]) ?_ ?_ hx1
    · rw [hm] at this
      exact this
    · intro j u hu
      refine cells_of_row (w := W0) (cur := X) gv 0 j u ?_
      simpa using hu
    · simp; omega
  have g1 := setRow_heap W0 w.heap.size _ (laid (A ++ (Z1 ++ Z2)) (i) X).toArray _ _ g0
  have gg1 := (setRow_other W0 w.heap.size g (laid (A ++ (Z1 ++ Z2)) (i) X).toArray hgl).trans gg
  have hb1 := below_setRow hb0 (Nat.le_refl _) (laid (A ++ (Z1 ++ Z2)) (i) X).toArray
  generalize W0.setRow w.heap.size (laid (A ++ (Z1 ++ Z2)) (i) X).toArray = W1 at hC1 g1 gg1 hb1
  have hlaid : laid (laid (A ++ (Z1 ++ Z2)) (i) X) (i + 1) C = A ++ (X ++ (C ++ Z2)) := by
    have := laid_two A Z1 Z2 X C (by omega)
    rw [show i + 1 = A.length + X.length by omega, show i = A.length by omega]
    exact this
  have hC2 : ∀ (W : World), (W.heap = W1.heap) → ∀ ty dl dc sl sc, Nat.min sl dl = r → (Builtin.copy_ #[23, 23] ty #[.slice (some ⟨w.heap.size, i + 1, none⟩) dl dc, .slice (some ⟨g, i, none⟩) sl sc]).run Tryz.prog W = .ok (goInt r) (W.setRow w.heap.size (A ++ (X ++ (C ++ Z2))).toArray) := by
    intro W hW ty dl dc sl sc hm
    have := run_copyK (P := Tryz.prog) W 23 23 ty 9 ti Tryz.underlying23 hti w.heap.size (i + 1) dl dc ⟨g, i, none⟩ sl sc (laid (A ++ (Z1 ++ Z2)) (i) X).toArray 9 C (by rw [hW]; exact g1) (by rw [hm, hsz, hC]) ?_ ?_ h1
    · rw [hm] at this
      rw [← hlaid]
      exact this
    · intro j u hu
      refine cells_of_row (w := W) (cur := A ++ C) (by rw [hW]; exact gg1) (i) j u ?_
      rw [List.getElem?_append_right (by omega), show i + j - A.length = j by omega]
      exact hu
    · simp [laid]; omega
  have HC1 : Hid (∀ ty dl dc, 1 ≤ dl → (Builtin.copy_ #[23, 23] ty #[.slice (some ⟨w.heap.size, i, none⟩) dl dc, .slice (some ⟨vb, 0, none⟩) 1 1]).run Tryz.prog W0 = .ok (goInt 1) W1) := hC1
  have HC2 : Hid (∀ (W : World), (W.heap = W1.heap) → ∀ ty dl dc sl sc, Nat.min sl dl = r → (Builtin.copy_ #[23, 23] ty #[.slice (some ⟨w.heap.size, i + 1, none⟩) dl dc, .slice (some ⟨g, i, none⟩) sl sc]).run Tryz.prog W = .ok (goInt r) (W.setRow w.heap.size (A ++ (X ++ (C ++ Z2))).toArray)) := hC2
  have G1 : Hid (W1.heap[w.heap.size]? = some (.cells (laid (A ++ (Z1 ++ Z2)) (i) X).toArray 9 (0, 0))) := g1
  have HB1 : Hid (Below w.heap.size w W1) := hb1
  have LZ : Hid (Z2.length = (c2 - (i + (r + 1))) * 1) := lz2
  clear hg hv hmk g0 gv gg hb0 hC1 hC2 g1 gg1 hb1 hlaid lz1 lz2 hA hC hX h1 hx1
  go_enter Tryz.func153, Tryz.ntmps153
  go_wp2_with (at_builtin; refine wpList_append_run _ rfl _ _ 23 3 rfl _ _ rfl rfl (HM.out _) ?_)
  rw [HC1.out _ _ _ (by omega)]
  go_wp2_with fail
  go_region_law (refine step_copy_run rfl _ _ 23 23 rfl _ _ (by simp [Act.eval, Act.put]; exact ⟨rfl, rfl⟩) (by simp [Act.eval, Act.put]; exact ⟨rfl, rfl⟩) (HC2.out W1.drew rfl _ _ _ _ _ (by simp [Nat.min_def] <;> omega)) ?_)
  go_wp2_with fail
  go_ret
  refine ⟨c2, Z2, ?_, by omega, hle, LZ.out, ?_, ?_⟩
  · first | rfl | (rw [show i + r + 1 = i + (r + 1) by omega]; rfl)
  · exact setRow_heap _ w.heap.size _ _ _ _ (show W1.drew.heap[w.heap.size]? = _ from G1.out)
  · exact below_setRow HB1.out.drew (Nat.le_refl _) _
set_option maxRecDepth 100000 in
set_option maxHeartbeats 4000000 in
theorem insert_growS (g vb i r : Nat) (A C X : List Value) (w : World) (hr : 0 < r) (hA : A.length = i * 2) (hC : C.length = r * 2) (hX : X.length = 2)
    (hg : w.heap[g]? = some (.cells (A ++ C).toArray 69 (0, 0))) (hv : w.heap[vb]? = some (.cells X.toArray 69 (0, 0))) (hsm : i + r ≤ 1048576)
    (h1 : ∀ v ∈ C, v.oneCell' = true) (hx1 : ∀ v ∈ X, v.oneCell' = true) :
    Calls Tryz.prog 157 #[.slice (some ⟨g, 0, none⟩) (i + r) (i + r), .int .i64 (i : Int), .slice (some ⟨vb, 0, none⟩) 1 1] w fun e w' =>
      ∃ c2 S2, e = .returned (.slice (some ⟨w.heap.size, 0, none⟩) (i + r + 1) c2) ∧ i + r + 1 ≤ c2 ∧ c2 ≤ maxLen ∧ S2.length = (c2 - (i + r + 1)) * 2 ∧ w'.heap[w.heap.size]? = some (.cells (A ++ (X ++ (C ++ S2))).toArray 69 (0, 0)) ∧ Below w.heap.size w w' := by
  obtain ⟨ti, hti, hz, hsz, hby⟩ := info_parts info_score
  have q1 : ¬ ((i : Int) = (i : Int) + (r : Int)) := by omega
  have q2 : ((i : Int) + (r : Int) < (i : Int) + (r : Int) + 1) := by omega
  have q3 : (i : Int) ≤ (i : Int) + (r : Int) := by omega
  have q4 : (0 : Int) ≤ (i : Int) := by omega
  have q5 : i ≤ i + r := by omega
  have q9 : IntKind.i64.wrap ((i : Int) + (r : Int) + 1) = (i : Int) + (r : Int) + 1 := by rw [IntKind.wrap_i64]; omega
  have q10 : IntKind.i64.wrap ((i : Int) + 1) = (i : Int) + 1 := by rw [IntKind.wrap_i64]; omega
  have q11 : (0 : Int) ≤ (i : Int) + 1 := by omega
  have q12 : ((i : Int) + 1).toNat = i + 1 := by omega
  have q17 : IntKind.i64.wrap ((i : Int) + (r : Int) + 1 - (i : Int)) = (r : Int) + 1 := by rw [IntKind.wrap_i64]; omega
  have q18 : ¬ (i + r = i) := by omega
  have q19 : ¬ (r = 0) := by omega
  have HG : Hid (w.heap[g]? = some (.cells (A ++ C).toArray 69 (0, 0))) := hg
  have HV : Hid (w.heap[vb]? = some (.cells X.toArray 69 (0, 0))) := hv
  have hmk : ∀ ty, (Builtin.append_ #[24, 3] ty #[.slice (some ⟨g, 0, none⟩) i (i + r), .int .i64 ((r : Int) + 1)]).run Tryz.prog w = .ok (.slice (some ⟨w.heap.size, 0, none⟩) (i + (r + 1)) (grownCap w (i + (r + 1)) (i + r) 69))
      (w.drew.alloc (.cells (A.toArray ++ Builtin.zeroCells (Value.agg #[.string ByteArray.empty, .int .i64 0]).cells (r + 1) ++ Builtin.zeroCells (Value.agg #[.string ByteArray.empty, .int .i64 0]).cells (grownCap w (i + (r + 1)) (i + r) 69 - (i + (r + 1)))) 69)) := by
    intro ty
    have := run_appendMake (P := Tryz.prog) w 24 3 ty 69 ti (Value.agg #[.string ByteArray.empty, .int .i64 0]) .i64 .i64 Tryz.underlying24 Tryz.underlying3 hti hz ⟨g, 0, none⟩ i (i + r) A (by rw [hA, hsz]) ?_ (r + 1) (by omega) (by rw [hsz]; omega) (by omega) (by omega) ?_ (by rw [hby]; omega)
    · exact this
    · intro j u hu
      refine cells_of_row (w := w) (cur := A ++ C) hg 0 j u ?_
      rw [Nat.zero_add, List.getElem?_append_left (List.getElem?_eq_some_iff.1 hu).1]
      exact hu
    · rw [hby]
      have := nextslicecap_le (need := i + (r + 1)) (old := i + r) (by omega)
      omega
  have hge := grownCap_ge w (i + (r + 1)) (i + r) 69
  have hle := grownCap_le_maxLen w (i + (r + 1)) (i + r) 69 (by unfold maxLen; omega)
  generalize grownCap w (i + (r + 1)) (i + r) 69 = c2 at hmk hge hle
  obtain ⟨Z1, hZ1⟩ : ∃ Z1, (Builtin.zeroCells (Value.agg #[.string ByteArray.empty, .int .i64 0]).cells (r + 1)).toList = Z1 := ⟨_, rfl⟩
  obtain ⟨Z2, hZ2⟩ : ∃ Z2, (Builtin.zeroCells (Value.agg #[.string ByteArray.empty, .int .i64 0]).cells (c2 - (i + (r + 1)))).toList = Z2 := ⟨_, rfl⟩
  have lz1 : Z1.length = (r + 1) * 2 := by rw [← hZ1, Array.length_toList, zeros_size]; rfl
  have lz2 : Z2.length = (c2 - (i + (r + 1))) * 2 := by rw [← hZ2, Array.length_toList, zeros_size]; rfl
  have hcur : A.toArray ++ Builtin.zeroCells (Value.agg #[.string ByteArray.empty, .int .i64 0]).cells (r + 1) ++ Builtin.zeroCells (Value.agg #[.string ByteArray.empty, .int .i64 0]).cells (c2 - (i + (r + 1))) = (A ++ (Z1 ++ Z2)).toArray := by
    rw [← hZ1, ← hZ2]
    simp
  rw [hcur] at hmk
  clear hcur hZ1 hZ2
  have g0 : (w.drew.alloc (.cells (A ++ (Z1 ++ Z2)).toArray 69)).heap[w.heap.size]? = some (.cells (A ++ (Z1 ++ Z2)).toArray 69 (0, 0)) := by
    show (w.heap.push _)[_]? = _
    simp
  have hb0 : Below w.heap.size w (w.drew.alloc (.cells (A ++ (Z1 ++ Z2)).toArray 69)) := (Below.refl _ _).drew.alloc (Nat.le_refl _) _
  generalize w.drew.alloc (.cells (A ++ (Z1 ++ Z2)).toArray 69) = W0 at hmk g0 hb0
  have HM : Hid (∀ ty, (Builtin.append_ #[24, 3] ty #[.slice (some ⟨g, 0, none⟩) i (i + r), .int .i64 ((r : Int) + 1)]).run Tryz.prog w = .ok (.slice (some ⟨w.heap.size, 0, none⟩) (i + (r + 1)) c2) W0) := hmk
  have gv : W0.heap[vb]? = some (.cells X.toArray 69 (0, 0)) := (hb0.block vb (Array.getElem?_eq_some_iff.1 hv).1).trans hv
  have gg : W0.heap[g]? = some (.cells (A ++ C).toArray 69 (0, 0)) := (hb0.block g (Array.getElem?_eq_some_iff.1 hg).1).trans hg
  have hgl : g ≠ w.heap.size := by have := (Array.getElem?_eq_some_iff.1 hg).1; omega
  have k1 : ¬ (c2 = i) := by omega
  have k2 : ¬ (c2 = i + 1) := by omega
  have k3 : (i : Int) ≤ (i : Int) + ((r : Int) + 1) := by omega
  have k4 : (i : Int) + 1 ≤ (i : Int) + ((r : Int) + 1) := by omega
  have k5 : i ≤ i + (r + 1) := by omega
  have k6 : i + 1 ≤ i + (r + 1) := by omega
  have G0 : Hid (W0.heap[w.heap.size]? = some (.cells (A ++ (Z1 ++ Z2)).toArray 69 (0, 0))) := g0
  have GV : Hid (W0.heap[vb]? = some (.cells X.toArray 69 (0, 0))) := gv
  have GG : Hid (W0.heap[g]? = some (.cells (A ++ C).toArray 69 (0, 0))) := gg
  have HB : Hid (Below w.heap.size w W0) := hb0
  have hC1 : ∀ ty dl dc, 1 ≤ dl → (Builtin.copy_ #[24, 24] ty #[.slice (some ⟨w.heap.size, i * 2, none⟩) dl dc, .slice (some ⟨vb, 0, none⟩) 1 1]).run Tryz.prog W0 = .ok (goInt 1) (W0.setRow w.heap.size (laid (A ++ (Z1 ++ Z2)) (i * 2) X).toArray) := by
    intro ty dl dc hd
    have hm : Nat.min 1 dl = 1 := Nat.min_eq_left hd
    have := run_copyK (P := Tryz.prog) W0 24 24 ty 69 ti Tryz.underlying24 hti w.heap.size (i * 2) dl dc ⟨vb, 0, none⟩ 1 1 _ 69 X g0 (by rw [hm, hsz, hX]) ?_ ?_ hx1
    · rw [hm] at this
      exact this
    · intro j u hu
      refine cells_of_row (w := W0) (cur := X) gv 0 j u ?_
      simpa using hu
    · simp; omega
  have g1 := setRow_heap W0 w.heap.size _ (laid (A ++ (Z1 ++ Z2)) (i * 2) X).toArray _ _ g0
  have gg1 := (setRow_other W0 w.heap.size g (laid (A ++ (Z1 ++ Z2)) (i * 2) X).toArray hgl).trans gg
  have hb1 := below_setRow hb0 (Nat.le_refl _) (laid (A ++ (Z1 ++ Z2)) (i * 2) X).toArray
  generalize W0.setRow w.heap.size (laid (A ++ (Z1 ++ Z2)) (i * 2) X).toArray = W1 at hC1 g1 gg1 hb1
  have hlaid : laid (laid (A ++ (Z1 ++ Z2)) (i * 2) X) ((i + 1) * 2) C = A ++ (X ++ (C ++ Z2)) := by
    have := laid_two A Z1 Z2 X C (by omega)
    rw [show (i + 1) * 2 = A.length + X.length by omega, show i * 2 = A.length by omega]
    exact this
  have hC2 : ∀ (W : World), (W.heap = W1.heap) → ∀ ty dl dc sl sc, Nat.min sl dl = r → (Builtin.copy_ #[24, 24] ty #[.slice (some ⟨w.heap.size, (i + 1) * 2, none⟩) dl dc, .slice (some ⟨g, i * 2, none⟩) sl sc]).run Tryz.prog W = .ok (goInt r) (W.setRow w.heap.size (A ++ (X ++ (C ++ Z2))).toArray) := by
    intro W hW ty dl dc sl sc hm
    have := run_copyK (P := Tryz.prog) W 24 24 ty 69 ti Tryz.underlying24 hti w.heap.size ((i + 1) * 2) dl dc ⟨g, i * 2, none⟩ sl sc (laid (A ++ (Z1 ++ Z2)) (i * 2) X).toArray 69 C (by rw [hW]; exact g1) (by rw [hm, hsz, hC]) ?_ ?_ h1
    · rw [hm] at this
      rw [← hlaid]
      exact this
    · intro j u hu
      refine cells_of_row (w := W) (cur := A ++ C) (by rw [hW]; exact gg1) (i * 2) j u ?_
      rw [List.getElem?_append_right (by omega), show i * 2 + j - A.length = j by omega]
      exact hu
    · simp [laid]; omega
  have HC1 : Hid (∀ ty dl dc, 1 ≤ dl → (Builtin.copy_ #[24, 24] ty #[.slice (some ⟨w.heap.size, i * 2, none⟩) dl dc, .slice (some ⟨vb, 0, none⟩) 1 1]).run Tryz.prog W0 = .ok (goInt 1) W1) := hC1
  have HC2 : Hid (∀ (W : World), (W.heap = W1.heap) → ∀ ty dl dc sl sc, Nat.min sl dl = r → (Builtin.copy_ #[24, 24] ty #[.slice (some ⟨w.heap.size, (i + 1) * 2, none⟩) dl dc, .slice (some ⟨g, i * 2, none⟩) sl sc]).run Tryz.prog W = .ok (goInt r) (W.setRow w.heap.size (A ++ (X ++ (C ++ Z2))).toArray)) := hC2
  have G1 : Hid (W1.heap[w.heap.size]? = some (.cells (laid (A ++ (Z1 ++ Z2)) (i * 2) X).toArray 69 (0, 0))) := g1
  have HB1 : Hid (Below w.heap.size w W1) := hb1
  have LZ : Hid (Z2.length = (c2 - (i + (r + 1))) * 2) := lz2
  clear hg hv hmk g0 gv gg hb0 hC1 hC2 g1 gg1 hb1 hlaid lz1 lz2 hA hC hX h1 hx1
  go_enter Tryz.func157, Tryz.ntmps157
  go_wp2_with (at_builtin; refine wpList_append_run _ rfl _ _ 24 3 rfl _ _ rfl rfl (HM.out _) ?_)
  rw [HC1.out _ _ _ (by omega)]
  go_wp2_with fail
  go_region_law (refine step_copy_run rfl _ _ 24 24 rfl _ _ (by simp [Act.eval, Act.put]; exact ⟨rfl, rfl⟩) (by simp [Act.eval, Act.put]; exact ⟨rfl, rfl⟩) (HC2.out W1.drew rfl _ _ _ _ _ (by simp [Nat.min_def] <;> omega)) ?_)
  go_wp2_with fail
  go_ret
  refine ⟨c2, Z2, ?_, by omega, hle, LZ.out, ?_, ?_⟩
  · first | rfl | (rw [show i + r + 1 = i + (r + 1) by omega]; rfl)
  · exact setRow_heap _ w.heap.size _ _ _ _ (show W1.drew.heap[w.heap.size]? = _ from G1.out)
  · exact below_setRow HB1.out.drew (Nat.le_refl _) _
end Go.Proofs.YtfnephnecighaaaGreat

/- slices of entries (Si at eight cells). -/
namespace Go.Proofs.YtfnephnecighaaaGreat
open Go.RowKit
set_option linter.unusedVariables false

set_option maxRecDepth 100000 in
set_option maxHeartbeats 4000000 in
theorem insert_roomE (g vb i r cap : Nat) (A C S X : List Value) (w : World) (hr : 0 < r) (hA : A.length = i * 8) (hC : C.length = r * 8) (hX : X.length = 8) (hvb : vb ≠ g)
    (hg : w.heap[g]? = some (.cells (A ++ (C ++ S)).toArray 57 (0, 0))) (hv : w.heap[vb]? = some (.cells X.toArray 57 (0, 0))) (hroom : i + r + 1 ≤ cap) (hS : (A ++ (C ++ S)).length = cap * 8) (hmax : cap ≤ 9223372036854775807) (hsm : i + r ≤ 1048576)
    (h1 : ∀ v ∈ C, v.oneCell' = true) (hx1 : ∀ v ∈ X, v.oneCell' = true) :
    Calls Tryz.prog 146 #[.slice (some ⟨g, 0, none⟩) (i + r) cap, .int .i64 (i : Int), .slice (some ⟨vb, 0, none⟩) 1 1] w fun e w' =>
      e = .returned (.slice (some ⟨g, 0, none⟩) (i + r + 1) cap) ∧ w'.heap[g]? = some (.cells (A ++ (X ++ (C ++ S.drop 8))).toArray 57 (0, 0)) ∧ JustRow g w w' := by
  obtain ⟨ti, hti, hz, hsz, hby⟩ := info_parts info_entry
  have q1 : ¬ ((i : Int) = (i : Int) + (r : Int)) := by omega
  have q2 : ¬ ((cap : Int) < (i : Int) + (r : Int) + 1) := by omega
  have q3 : (i : Int) ≤ (i : Int) + (r : Int) := by omega
  have q4 : (0 : Int) ≤ (i : Int) := by omega
  have q5 : i ≤ i + r := by omega
  have q6 : ((i : Int) + (r : Int) + 1) ≤ (cap : Int) := by omega
  have q7 : (0 : Int) ≤ (i : Int) + (r : Int) + 1 := by omega
  have q8 : ((i : Int) + (r : Int) + 1).toNat = i + r + 1 := by omega
  have q9 : IntKind.i64.wrap ((i : Int) + (r : Int) + 1) = (i : Int) + (r : Int) + 1 := by rw [IntKind.wrap_i64]; omega
  have q10 : IntKind.i64.wrap ((i : Int) + 1) = (i : Int) + 1 := by rw [IntKind.wrap_i64]; omega
  have q11 : (0 : Int) ≤ (i : Int) + 1 := by omega
  have q12 : ((i : Int) + 1).toNat = i + 1 := by omega
  have q13 : (i : Int) + 1 ≤ (i : Int) + (r : Int) + 1 := by omega
  have q14 : ¬ (cap = i + 1) := by omega
  have q15 : (i : Int) ≤ (i : Int) + (r : Int) + 1 := by omega
  have q16 : ¬ (cap = i) := by omega
  have HG : Hid (w.heap[g]? = some (.cells (A ++ (C ++ S)).toArray 57 (0, 0))) := hg
  have HV : Hid (w.heap[vb]? = some (.cells X.toArray 57 (0, 0))) := hv
  have hov : ∀ lb cb, (callFunc 159 #[.slice (some ⟨vb, 0, none⟩) 1 1, .slice (some ⟨g, (i + 1) * 8, none⟩) lb cb]).run Tryz.prog w = .ok (.value (.bool false)) w := by
    intro lb cb
    rw [run_callFunc_extern Tryz.func159 (by kernel_rfl) (by kernel_rfl) (by kernel_rfl) (e := Extern.SlicesOverlaps.overlaps #[38, 38] #[4]) (by kernel_rfl),
      Lib.run_overlaps_apart w 38 4 57 Tryz.underlying38 8 (fun w => by simp [sizeOf, typeInfo, hti, hsz]) ⟨vb, 0, none⟩ ⟨g, (i + 1) * 8, none⟩ 1 1 lb cb hvb 57 57 8 (cap * 8)
        (by unfold World.shape?; rw [hv]; simp [hX]) (by unfold World.shape?; rw [hg]; rw [← hS]; simp) (by omega) ((block_cells hv).2 0) ((block_cells hv).2 _)]
    rfl
  clear hg hv
  go_enter Tryz.func146, Tryz.ntmps146
  go_wp2_with (simp only [hov])
  have hcp1 : ∀ ty dl dc sl sc, Nat.min sl dl = r → (Builtin.copy_ #[38, 38] ty #[.slice (some ⟨g, (i + 1) * 8, none⟩) dl dc, .slice (some ⟨g, i * 8, none⟩) sl sc]).run Tryz.prog w.drew = .ok (goInt r) (w.drew.setRow g (laid (A ++ (C ++ S)) ((i + 1) * 8) C).toArray) := by
    intro ty dl dc sl sc hm
    have := run_copyK (P := Tryz.prog) w.drew 38 38 ty 57 ti Tryz.underlying38 hti g ((i + 1) * 8) dl dc ⟨g, i * 8, none⟩ sl sc _ 57 C HG.out (by rw [hm, hsz, hC]) ?_ ?_ h1
    · rw [hm] at this
      exact this
    · intro j u hu
      have hj : j < C.length := (List.getElem?_eq_some_iff.1 hu).1
      refine cells_of_row (w := w.drew) (cur := A ++ (C ++ S)) HG.out (i * 8) j u ?_
      rw [List.getElem?_append_right (by omega), List.getElem?_append_left (by omega), show i * 8 + j - A.length = j by omega]
      exact hu
    · rw [List.size_toArray, hS]
      omega
  go_region_law (refine step_copy_run rfl _ _ 38 38 rfl _ _ (by simp [Act.eval, Act.put]; exact ⟨rfl, rfl⟩) (by simp [Act.eval, Act.put]; exact ⟨rfl, rfl⟩) (hcp1 _ _ _ _ _ (by simp [Nat.min_def] <;> omega)) ?_)
  have hg1 := setRow_heap w.drew g _ (laid (A ++ (C ++ S)) ((i + 1) * 8) C).toArray _ _ HG.out
  have hv1 := (setRow_other w.drew g vb (laid (A ++ (C ++ S)) ((i + 1) * 8) C).toArray hvb).trans HV.out
  have hj1 : JustRow g w (w.drew.setRow g (laid (A ++ (C ++ S)) ((i + 1) * 8) C).toArray) := (JustRow.drew g w).setRow _
  generalize w.drew.setRow g (laid (A ++ (C ++ S)) ((i + 1) * 8) C).toArray = W1 at hg1 hv1 hj1 ⊢
  have HG1 : Hid (W1.heap[g]? = some (.cells (laid (A ++ (C ++ S)) ((i + 1) * 8) C).toArray 57 (0, 0))) := hg1
  have HJ : Hid (JustRow g w W1) := hj1
  have hSC : 8 ≤ C.length + S.length := by omega
  have hlaid : laid (laid (A ++ (C ++ S)) ((i + 1) * 8) C) (i * 8) X = A ++ (X ++ (C ++ S.drop 8)) := by
    have := laid_shift A C S X (by omega)
    rw [show (i + 1) * 8 = A.length + X.length by omega, show i * 8 = A.length by omega]
    rw [hX] at this ⊢
    exact this
  have HCP : Hid (∀ ty dl dc, 1 ≤ dl → (Builtin.copy_ #[38, 38] ty #[.slice (some ⟨g, i * 8, none⟩) dl dc, .slice (some ⟨vb, 0, none⟩) 1 1]).run Tryz.prog W1 = .ok (goInt 1) (W1.setRow g (A ++ (X ++ (C ++ S.drop 8))).toArray)) := by
    show ∀ ty dl dc, _
    intro ty dl dc hd
    have hm : Nat.min 1 dl = 1 := Nat.min_eq_left hd
    have := run_copyK (P := Tryz.prog) W1 38 38 ty 57 ti Tryz.underlying38 hti g (i * 8) dl dc ⟨vb, 0, none⟩ 1 1 _ 57 X hg1 (by rw [hm, hsz, hX]) ?_ ?_ hx1
    · rw [hm] at this
      rw [← hlaid]
      exact this
    · intro j u hu
      refine cells_of_row (w := W1) (cur := X) hv1 0 j u ?_
      simpa using hu
    · simp [laid]; simp at hS; omega
  clear hcp1 hg1 hv1 hj1 hlaid hA hC hX h1 hx1 hS hSC hov
  obtain ⟨S', hS'⟩ : ∃ S', S' = S.drop 8 := ⟨_, rfl⟩
  rw [← hS'] at HCP
  have HS : Hid (S' = S.drop 8) := hS'
  clear hS'
  go_wp2_with fail
  rw [HCP.out _ _ _ (by omega)]
  go_wp2_with fail
  go_ret
  exact ⟨rfl, by rw [← HS.out]; exact setRow_heap W1 g _ _ _ _ HG1.out, HJ.out.setRow _⟩
end Go.Proofs.YtfnephnecighaaaGreat
