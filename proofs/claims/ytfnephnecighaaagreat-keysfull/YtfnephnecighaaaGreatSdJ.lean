/- slices.Delete of one element, over a row of the call's own. -/
import Derived.Test.YtfnephnecighaaaGreatVhJ
import Derived.Test.YtfnephnecighaaaGreatLx
import Derived.Deep.RegionLaw
import Derived.Test.YtfnephnecighaaaGreatWcJ
namespace Go.Proofs.YtfnephnecighaaaGreat
open Go.RowKit
set_option linter.unusedVariables false

theorem cells_of_row {w : World} {g : Nat} {cur : List Value} {e : TypeId} (hg : w.heap[g]? = some (.cells cur.toArray e (0, 0))) (o j : Nat) (v : Value) (h : cur[o + j]? = some v) : w.cell? ((⟨g, o, none⟩ : Addr).add j) = some v := by
  have : (⟨g, o, none⟩ : Addr).add j = ⟨g, o + j, none⟩ := by by_cases hj : j = 0 <;> simp [Addr.add, hj]
  rw [this]
  unfold World.cell?
  rw [hg]
  simpa using h

theorem run_appendRoomK {P : Program} (w : World) (t ty e : TypeId) (i : TypeInfo) (ht : P.underlying t = some (.slice e)) (hi : P.info? e = some i)
    (g sLen sCap : Nat) (a : Addr) (m c : Nat) (cur : Array Value) (tt : TypeId) (news : List Value) (hg : w.heap[g]? = some (.cells cur tt (0, 0))) (hl : news.length = m * i.size)
    (hnews : ∀ j u, news[j]? = some u → w.cell? (a.add j) = some u) (h1 : ∀ u ∈ news, u.oneCell' = true) (hroom : sLen + m ≤ sCap) (hfit : sLen * i.size + news.length ≤ cur.size) :
    (Builtin.append_ #[t, t] ty #[.slice (some ⟨g, 0, none⟩) sLen sCap, .slice (some a) m c]).run P w = .ok (.slice (some ⟨g, 0, none⟩) (sLen + m) sCap) (w.setRow g (laid cur.toList (sLen * i.size) news).toArray) := by
  have hfc := run_firstCells_some (P := P) w i.size m a m c news hl hnews
  have hst := run_storeCells_at P g (sLen * i.size) tt news 0 cur w hg (by simpa using hfit) h1
  simp [Builtin.append_, run_underlying ht, sizeOf, typeInfo, hi, Builtin.lenOf, hroom, hfc, Addr.add_lit, hst, laid]

/-- Of all blocks just one has turned. -/
def JustRow (g : Nat) (w w' : World) : Prop := (w'.os = w.os ∧ w'.tape = w.tape ∧ w'.output = w.output) ∧ w'.heap.size = w.heap.size ∧ ∀ b, b ≠ g → w'.heap[b]? = w.heap[b]?
theorem JustRow.setRow {g : Nat} {w w' : World} (h : JustRow g w w') (cs : Array Value) : JustRow g w (w'.setRow g cs) :=
  ⟨h.1, by simpa [World.setRow] using h.2.1, fun b hb => (setRow_other w' g b cs hb).trans (h.2.2 b hb)⟩
theorem JustRow.drew (g : Nat) (w : World) : JustRow g w w.drew := ⟨⟨rfl, rfl, rfl⟩, rfl, fun _ _ => rfl⟩
theorem JustRow.below {g B : Nat} {w w' : World} (h : JustRow g w w') (hB : B ≤ g) : Below B w w' := ⟨h.1.1, h.1.2.1, h.1.2.2, by rw [h.2.1]; exact Nat.le_refl _, fun k hk => h.2.2 k (by omega)⟩

theorem laid_twice (A X C S Z : List Value) (hZ : Z.length = X.length) : laid (laid (A ++ X ++ C ++ S) A.length C) (A.length + C.length) Z = A ++ C ++ Z ++ S := by
  have h1 : laid (A ++ X ++ C ++ S) A.length C = A ++ C ++ (X ++ C ++ S).drop C.length := by
    unfold laid
    rw [List.append_assoc A X, List.append_assoc A, List.take_left, List.drop_append]
    simp
  rw [h1]
  unfold laid
  rw [show A.length + C.length = (A ++ C).length by simp, List.take_left, List.drop_append]
  have e1 : (A ++ C).drop ((A ++ C).length + Z.length) = [] := List.drop_eq_nil_of_le (by omega)
  rw [e1, List.drop_drop, show C.length + ((A ++ C).length + Z.length - (A ++ C).length) = (X ++ C).length by simp [hZ]; omega, List.drop_left]
  rfl

set_option maxRecDepth 100000 in
set_option maxHeartbeats 4000000 in
theorem delete_coreP (g i r cap : Nat) (A X C S : List Value) (w : World) (hA : A.length = i * 2) (hX : X.length = 2) (hC : C.length = r * 2)
    (hg : w.heap[g]? = some (.cells (A ++ (X ++ (C ++ S))).toArray 67 (0, 0))) (hcap : i + 1 + r ≤ cap) (hmax : cap ≤ 9223372036854775807) (hsm : i + 1 + r ≤ 1048576)
    (h1 : ∀ v ∈ C, v.oneCell' = true) :
    Calls Tryz.prog 132 #[.slice (some ⟨g, 0, none⟩) (i + 1 + r) cap, .int .i64 (i : Int), .int .i64 ((i : Int) + 1)] w fun e w' =>
      e = .returned (.slice (some ⟨g, 0, none⟩) (i + r) cap) ∧ w'.heap[g]? = some (.cells (A ++ (C ++ ([Value.string ByteArray.empty, Value.string ByteArray.empty] ++ S))).toArray 67 (0, 0)) ∧ JustRow g w w' := by
  obtain ⟨ti, hti, hz, hsz, hby⟩ := info_parts info_pair
  have q1 : ¬ (i + 1 + r = i) := by omega
  have q2 : ¬ (cap = 0) := by omega
  have q3 : ((i : Int) == (i : Int) + 1) = false := by simp; omega
  by_cases hc : cap = i + 1
  · obtain rfl : r = 0 := by omega
    obtain rfl : C = [] := List.eq_nil_of_length_eq_zero (by omega)
    subst hc
    simp only [List.nil_append, Nat.add_zero] at *
    go_enter Tryz.func132, Tryz.ntmps132
    go_wp2_with fail
    have hrun : ∀ ty ad dc, (Builtin.append_ #[22, 22] ty #[.slice (some ⟨g, 0, none⟩) i (i + 1), .slice (some ad) 0 dc]).run Tryz.prog w.drew = .ok (.slice (some ⟨g, 0, none⟩) i (i + 1)) (w.drew.setRow g (laid (A ++ (X ++ S)) (i * 2) []).toArray) := by
      intro ty ad dc
      have := run_appendRoomK (P := Tryz.prog) w.drew 22 ty 67 ti Tryz.underlying22 hti g i (i + 1) ad 0 dc _ 67 [] hg (by simp) (by intro j u hu; simp at hu) (by simp) (by omega) (by simp [hA, hX, hsz])
      rw [hsz] at this
      simpa using this
    have k1 : (0 : Int) ≤ (i : Int) := by omega
    have k2 : (i : Int) ≤ (i : Int) + 1 := by omega
    have k2' : i ≤ i + 1 := by omega
    have k3 : (0 : Int) ≤ (i : Int) + 1 := by omega
    have k4 : ((i : Int) + 1).toNat = i + 1 := by omega
    have k6 : i + 1 - (i + 1) = 0 := by omega
    go_region_law (refine step_append_run rfl _ _ 22 22 rfl _ _ (by simp [Act.eval, Act.put]) (by simp [Act.eval, Act.put]; first | done | rfl | exact ⟨rfl, rfl⟩) (hrun _ _ _) ?_)
    have hg1 := setRow_heap w.drew g _ (laid (A ++ (X ++ S)) (i * 2) []).toArray _ _ hg
    have hj1 : JustRow g w (w.drew.setRow g (laid (A ++ (X ++ S)) (i * 2) []).toArray) := (JustRow.drew g w).setRow _
    generalize w.drew.setRow g (laid (A ++ (X ++ S)) (i * 2) []).toArray = W1 at hg1 hj1 ⊢
    have HG : Hid (W1.heap[g]? = some (.cells (laid (A ++ (X ++ S)) (i * 2) []).toArray 67 (0, 0))) := hg1
    have HJ : Hid (JustRow g w W1) := hj1
    have hclr : ∀ ty c, (Builtin.clear_ #[22] ty #[.slice (some ⟨g, i * 2, none⟩) 1 c]).run Tryz.prog W1 = .ok (.tuple #[]) (W1.setRow g (laid (laid (A ++ (X ++ S)) (i * 2) []) (i * 2) [Value.string ByteArray.empty, Value.string ByteArray.empty]).toArray) := by
      intro ty c
      have zc : (Builtin.zeroCells (Value.agg #[.string ByteArray.empty, .string ByteArray.empty]).cells 1).toList = [Value.string ByteArray.empty, Value.string ByteArray.empty] := by kernel_rfl
      have := run_clearK (P := Tryz.prog) W1 22 ty 67 ti (Value.agg #[.string ByteArray.empty, .string ByteArray.empty]) Tryz.underlying22 hti hz g (i * 2) 1 c _ 67 hg1 (by decide) ?_ ?_
      · rw [zc] at this
        exact this
      · rw [zc]
        simp [laid, hA, hX]
      · rw [zc]
        intro v hv
        simp at hv
        (first | (subst hv; rfl) | (rcases hv with rfl | rfl <;> rfl))
    have HL : Hid (∀ ty c, (Builtin.clear_ #[22] ty #[.slice (some ⟨g, i * 2, none⟩) (i + 1 - i) c]).run Tryz.prog W1 = .ok (.tuple #[]) (W1.setRow g (laid (laid (A ++ (X ++ S)) (i * 2) []) (i * 2) [Value.string ByteArray.empty, Value.string ByteArray.empty]).toArray)) := by rw [show i + 1 - i = 1 by omega]; exact hclr
    clear hrun hg1 hj1 hg k6
    have hlaid : laid (laid (A ++ (X ++ S)) (i * 2) []) (i * 2) [Value.string ByteArray.empty, Value.string ByteArray.empty] = A ++ ([Value.string ByteArray.empty, Value.string ByteArray.empty] ++ S) := by
      rw [show i * 2 = A.length by omega]
      simpa using laid_twice A X [] S [Value.string ByteArray.empty, Value.string ByteArray.empty] (by simp [hX])
    have HLA : Hid (laid (laid (A ++ (X ++ S)) (i * 2) []) (i * 2) [Value.string ByteArray.empty, Value.string ByteArray.empty] = A ++ ([Value.string ByteArray.empty, Value.string ByteArray.empty] ++ S)) := hlaid
    clear hlaid hA hX hC h1
    have HL1 : Hid (∀ ty c, (Builtin.clear_ #[22] ty #[.slice (some ⟨g, i * 2, none⟩) 1 c]).run Tryz.prog W1 = .ok (.tuple #[]) (W1.setRow g (laid (laid (A ++ (X ++ S)) (i * 2) []) (i * 2) [Value.string ByteArray.empty, Value.string ByteArray.empty]).toArray)) := hclr
    clear hclr
    go_wp2_with fail
    first | rw [HL.out] | rw [HL1.out]
    go_wp2_with fail
    go_ret
    refine ⟨rfl, ?_, HJ.out.setRow _⟩
    have := setRow_heap W1 g _ (laid (laid (A ++ (X ++ S)) (i * 2) []) (i * 2) [Value.string ByteArray.empty, Value.string ByteArray.empty]).toArray _ _ HG.out
    rw [HLA.out] at this ⊢
    exact this
  · go_enter Tryz.func132, Tryz.ntmps132
    go_wp2_with fail
    have hrun : ∀ ty dc, (Builtin.append_ #[22, 22] ty #[.slice (some ⟨g, 0, none⟩) i cap, .slice (some ⟨g, (i + 1) * 2, none⟩) r dc]).run Tryz.prog w.drew = .ok (.slice (some ⟨g, 0, none⟩) (i + r) cap) (w.drew.setRow g (laid (A ++ (X ++ (C ++ S))) (i * 2) C).toArray) := by
      intro ty dc
      have := run_appendRoomK (P := Tryz.prog) w.drew 22 ty 67 ti Tryz.underlying22 hti g i cap ⟨g, (i + 1) * 2, none⟩ r dc _ 67 C hg (by rw [hC, hsz]) ?_ h1 (by omega) (by simp [hA, hX, hC, hsz]; omega)
      · rw [hsz] at this
        simpa using this
      · intro j u hu
        refine cells_of_row (cur := A ++ (X ++ (C ++ S))) hg ((i + 1) * 2) j u ?_
        have hj : j < C.length := by
          have := List.getElem?_eq_some_iff.1 hu
          exact this.1
        rw [← List.append_assoc A X, List.getElem?_append_right (by simp only [List.length_append, hA, hX]; omega), List.getElem?_append_left (by simp only [List.length_append, hA, hX]; omega), show (i + 1) * 2 + j - (A ++ X).length = j by simp only [List.length_append, hA, hX]; omega]
        exact hu
    have k1 : (0 : Int) ≤ (i : Int) := by omega
    have k2 : (i : Int) ≤ (cap : Int) := by omega
    have k2' : i ≤ cap := by omega
    have k3 : (0 : Int) ≤ (i : Int) + 1 := by omega
    have k4 : ((i : Int) + 1).toNat = i + 1 := by omega
    have k5 : (i : Int) + 1 ≤ (i : Int) + 1 + (r : Int) := by omega
    have k6 : i + 1 + r - (i + 1) = r := by omega
    have k7 : i + 1 ≤ i + 1 + r := by omega
    go_region_law (refine step_append_run rfl _ _ 22 22 rfl _ _ (by simp [Act.eval, Act.put]) (by simp [Act.eval, Act.put]; rfl) (hrun _ _) ?_)
    have hg1 := setRow_heap w.drew g _ (laid (A ++ (X ++ (C ++ S))) (i * 2) C).toArray _ _ hg
    have hj1 : JustRow g w (w.drew.setRow g (laid (A ++ (X ++ (C ++ S))) (i * 2) C).toArray) := (JustRow.drew g w).setRow _
    generalize w.drew.setRow g (laid (A ++ (X ++ (C ++ S))) (i * 2) C).toArray = W1 at hg1 hj1 ⊢
    have HG : Hid (W1.heap[g]? = some (.cells (laid (A ++ (X ++ (C ++ S))) (i * 2) C).toArray 67 (0, 0))) := hg1
    have HJ : Hid (JustRow g w W1) := hj1
    have hclr : ∀ ty c, (Builtin.clear_ #[22] ty #[.slice (some ⟨g, (i + r) * 2, none⟩) 1 c]).run Tryz.prog W1 = .ok (.tuple #[]) (W1.setRow g (laid (laid (A ++ (X ++ (C ++ S))) (i * 2) C) ((i + r) * 2) [Value.string ByteArray.empty, Value.string ByteArray.empty]).toArray) := by
      intro ty c
      have zc : (Builtin.zeroCells (Value.agg #[.string ByteArray.empty, .string ByteArray.empty]).cells 1).toList = [Value.string ByteArray.empty, Value.string ByteArray.empty] := by kernel_rfl
      have := run_clearK (P := Tryz.prog) W1 22 ty 67 ti (Value.agg #[.string ByteArray.empty, .string ByteArray.empty]) Tryz.underlying22 hti hz g ((i + r) * 2) 1 c _ 67 hg1 (by decide) ?_ ?_
      · rw [zc] at this
        exact this
      · rw [zc]
        simp [laid, hA, hX, hC]; omega
      · rw [zc]
        intro v hv
        simp at hv
        (first | (subst hv; rfl) | (rcases hv with rfl | rfl <;> rfl))
    have HL : Hid (∀ ty c, (Builtin.clear_ #[22] ty #[.slice (some ⟨g, (i + r) * 2, none⟩) (i + 1 + r - (i + r)) c]).run Tryz.prog W1 = .ok (.tuple #[]) (W1.setRow g (laid (laid (A ++ (X ++ (C ++ S))) (i * 2) C) ((i + r) * 2) [Value.string ByteArray.empty, Value.string ByteArray.empty]).toArray)) := by rw [show i + 1 + r - (i + r) = 1 by omega]; exact hclr
    clear hrun hg1 hj1 hg k6 hclr
    have hlaid : laid (laid (A ++ (X ++ (C ++ S))) (i * 2) C) ((i + r) * 2) [Value.string ByteArray.empty, Value.string ByteArray.empty] = A ++ (C ++ ([Value.string ByteArray.empty, Value.string ByteArray.empty] ++ S)) := by
      rw [show (i + r) * 2 = A.length + C.length by omega, show i * 2 = A.length by omega]
      simpa only [List.append_assoc] using laid_twice A X C S [Value.string ByteArray.empty, Value.string ByteArray.empty] (by simp [hX])
    have HLA : Hid (laid (laid (A ++ (X ++ (C ++ S))) (i * 2) C) ((i + r) * 2) [Value.string ByteArray.empty, Value.string ByteArray.empty] = A ++ (C ++ ([Value.string ByteArray.empty, Value.string ByteArray.empty] ++ S))) := hlaid
    clear hlaid hA hX hC h1
    go_wp2_with fail
    rw [HL.out]
    go_wp2_with fail
    go_ret
    refine ⟨rfl, ?_, HJ.out.setRow _⟩
    have := setRow_heap W1 g _ (laid (laid (A ++ (X ++ (C ++ S))) (i * 2) C) ((i + r) * 2) [Value.string ByteArray.empty, Value.string ByteArray.empty]).toArray _ _ HG.out
    rw [HLA.out] at this ⊢
    exact this
set_option maxRecDepth 100000 in
set_option maxHeartbeats 4000000 in
theorem delete_coreI (g i r cap : Nat) (A X C S : List Value) (w : World) (hA : A.length = i * 1) (hX : X.length = 1) (hC : C.length = r * 1)
    (hg : w.heap[g]? = some (.cells (A ++ (X ++ (C ++ S))).toArray 9 (0, 0))) (hcap : i + 1 + r ≤ cap) (hmax : cap ≤ 9223372036854775807) (hsm : i + 1 + r ≤ 1048576)
    (h1 : ∀ v ∈ C, v.oneCell' = true) :
    Calls Tryz.prog 138 #[.slice (some ⟨g, 0, none⟩) (i + 1 + r) cap, .int .i64 (i : Int), .int .i64 ((i : Int) + 1)] w fun e w' =>
      e = .returned (.slice (some ⟨g, 0, none⟩) (i + r) cap) ∧ w'.heap[g]? = some (.cells (A ++ (C ++ ([Value.string ByteArray.empty] ++ S))).toArray 9 (0, 0)) ∧ JustRow g w w' := by
  obtain ⟨ti, hti, hz, hsz, hby⟩ := info_parts info_string
  have q1 : ¬ (i + 1 + r = i) := by omega
  have q2 : ¬ (cap = 0) := by omega
  have q3 : ((i : Int) == (i : Int) + 1) = false := by simp; omega
  by_cases hc : cap = i + 1
  · obtain rfl : r = 0 := by omega
    obtain rfl : C = [] := List.eq_nil_of_length_eq_zero (by omega)
    subst hc
    simp only [List.nil_append, Nat.add_zero] at *
    go_enter Tryz.func138, Tryz.ntmps138
    go_wp2_with fail
    have hrun : ∀ ty ad dc, (Builtin.append_ #[23, 23] ty #[.slice (some ⟨g, 0, none⟩) i (i + 1), .slice (some ad) 0 dc]).run Tryz.prog w.drew = .ok (.slice (some ⟨g, 0, none⟩) i (i + 1)) (w.drew.setRow g (laid (A ++ (X ++ S)) (i) []).toArray) := by
      intro ty ad dc
      have := run_appendRoomK (P := Tryz.prog) w.drew 23 ty 9 ti Tryz.underlying23 hti g i (i + 1) ad 0 dc _ 9 [] hg (by simp) (by intro j u hu; simp at hu) (by simp) (by omega) (by simp [hA, hX, hsz])
      rw [hsz] at this
      simpa using this
    have k1 : (0 : Int) ≤ (i : Int) := by omega
    have k2 : (i : Int) ≤ (i : Int) + 1 := by omega
    have k2' : i ≤ i + 1 := by omega
    have k3 : (0 : Int) ≤ (i : Int) + 1 := by omega
    have k4 : ((i : Int) + 1).toNat = i + 1 := by omega
    have k6 : i + 1 - (i + 1) = 0 := by omega
    go_region_law (refine step_append_run rfl _ _ 23 23 rfl _ _ (by simp [Act.eval, Act.put]) (by simp [Act.eval, Act.put]; first | done | rfl | exact ⟨rfl, rfl⟩) (hrun _ _ _) ?_)
    have hg1 := setRow_heap w.drew g _ (laid (A ++ (X ++ S)) (i) []).toArray _ _ hg
    have hj1 : JustRow g w (w.drew.setRow g (laid (A ++ (X ++ S)) (i) []).toArray) := (JustRow.drew g w).setRow _
    generalize w.drew.setRow g (laid (A ++ (X ++ S)) (i) []).toArray = W1 at hg1 hj1 ⊢
    have HG : Hid (W1.heap[g]? = some (.cells (laid (A ++ (X ++ S)) (i) []).toArray 9 (0, 0))) := hg1
    have HJ : Hid (JustRow g w W1) := hj1
    have hclr : ∀ ty c, (Builtin.clear_ #[23] ty #[.slice (some ⟨g, i, none⟩) 1 c]).run Tryz.prog W1 = .ok (.tuple #[]) (W1.setRow g (laid (laid (A ++ (X ++ S)) (i) []) (i) [Value.string ByteArray.empty]).toArray) := by
      intro ty c
      have zc : (Builtin.zeroCells (Value.string ByteArray.empty).cells 1).toList = [Value.string ByteArray.empty] := by kernel_rfl
      have := run_clearK (P := Tryz.prog) W1 23 ty 9 ti (Value.string ByteArray.empty) Tryz.underlying23 hti hz g (i) 1 c _ 9 hg1 (by decide) ?_ ?_
      · rw [zc] at this
        exact this
      · rw [zc]
        simp [laid, hA, hX]
      · rw [zc]
        intro v hv
        simp at hv
        (first | (subst hv; rfl) | (rcases hv with rfl | rfl <;> rfl))
    have HL : Hid (∀ ty c, (Builtin.clear_ #[23] ty #[.slice (some ⟨g, i, none⟩) (i + 1 - i) c]).run Tryz.prog W1 = .ok (.tuple #[]) (W1.setRow g (laid (laid (A ++ (X ++ S)) (i) []) (i) [Value.string ByteArray.empty]).toArray)) := by rw [show i + 1 - i = 1 by omega]; exact hclr
    clear hrun hg1 hj1 hg k6
    have hlaid : laid (laid (A ++ (X ++ S)) (i) []) (i) [Value.string ByteArray.empty] = A ++ ([Value.string ByteArray.empty] ++ S) := by
      rw [show i = A.length by omega]
      simpa using laid_twice A X [] S [Value.string ByteArray.empty] (by simp [hX])
    have HLA : Hid (laid (laid (A ++ (X ++ S)) (i) []) (i) [Value.string ByteArray.empty] = A ++ ([Value.string ByteArray.empty] ++ S)) := hlaid
    clear hlaid hA hX hC h1
    have HL1 : Hid (∀ ty c, (Builtin.clear_ #[23] ty #[.slice (some ⟨g, i, none⟩) 1 c]).run Tryz.prog W1 = .ok (.tuple #[]) (W1.setRow g (laid (laid (A ++ (X ++ S)) (i) []) (i) [Value.string ByteArray.empty]).toArray)) := hclr
    clear hclr
    go_wp2_with fail
    first | rw [HL.out] | rw [HL1.out]
    go_wp2_with fail
    go_ret
    refine ⟨rfl, ?_, HJ.out.setRow _⟩
    have := setRow_heap W1 g _ (laid (laid (A ++ (X ++ S)) (i) []) (i) [Value.string ByteArray.empty]).toArray _ _ HG.out
    rw [HLA.out] at this ⊢
    exact this
  · go_enter Tryz.func138, Tryz.ntmps138
    go_wp2_with fail
    have hrun : ∀ ty dc, (Builtin.append_ #[23, 23] ty #[.slice (some ⟨g, 0, none⟩) i cap, .slice (some ⟨g, i + 1, none⟩) r dc]).run Tryz.prog w.drew = .ok (.slice (some ⟨g, 0, none⟩) (i + r) cap) (w.drew.setRow g (laid (A ++ (X ++ (C ++ S))) (i) C).toArray) := by
      intro ty dc
      have := run_appendRoomK (P := Tryz.prog) w.drew 23 ty 9 ti Tryz.underlying23 hti g i cap ⟨g, i + 1, none⟩ r dc _ 9 C hg (by rw [hC, hsz]) ?_ h1 (by omega) (by simp [hA, hX, hC, hsz]; omega)
      · rw [hsz] at this
        simpa using this
      · intro j u hu
        refine cells_of_row (cur := A ++ (X ++ (C ++ S))) hg (i + 1) j u ?_
        have hj : j < C.length := by
          have := List.getElem?_eq_some_iff.1 hu
          exact this.1
        rw [← List.append_assoc A X, List.getElem?_append_right (by simp only [List.length_append, hA, hX]; omega), List.getElem?_append_left (by simp only [List.length_append, hA, hX]; omega), show i + 1 + j - (A ++ X).length = j by simp only [List.length_append, hA, hX]; omega]
        exact hu
    have k1 : (0 : Int) ≤ (i : Int) := by omega
    have k2 : (i : Int) ≤ (cap : Int) := by omega
    have k2' : i ≤ cap := by omega
    have k3 : (0 : Int) ≤ (i : Int) + 1 := by omega
    have k4 : ((i : Int) + 1).toNat = i + 1 := by omega
    have k5 : (i : Int) + 1 ≤ (i : Int) + 1 + (r : Int) := by omega
    have k6 : i + 1 + r - (i + 1) = r := by omega
    have k7 : i + 1 ≤ i + 1 + r := by omega
    go_region_law (refine step_append_run rfl _ _ 23 23 rfl _ _ (by simp [Act.eval, Act.put]) (by simp [Act.eval, Act.put]; rfl) (hrun _ _) ?_)
    have hg1 := setRow_heap w.drew g _ (laid (A ++ (X ++ (C ++ S))) (i) C).toArray _ _ hg
    have hj1 : JustRow g w (w.drew.setRow g (laid (A ++ (X ++ (C ++ S))) (i) C).toArray) := (JustRow.drew g w).setRow _
    generalize w.drew.setRow g (laid (A ++ (X ++ (C ++ S))) (i) C).toArray = W1 at hg1 hj1 ⊢
    have HG : Hid (W1.heap[g]? = some (.cells (laid (A ++ (X ++ (C ++ S))) (i) C).toArray 9 (0, 0))) := hg1
    have HJ : Hid (JustRow g w W1) := hj1
    have hclr : ∀ ty c, (Builtin.clear_ #[23] ty #[.slice (some ⟨g, i + r, none⟩) 1 c]).run Tryz.prog W1 = .ok (.tuple #[]) (W1.setRow g (laid (laid (A ++ (X ++ (C ++ S))) (i) C) (i + r) [Value.string ByteArray.empty]).toArray) := by
      intro ty c
      have zc : (Builtin.zeroCells (Value.string ByteArray.empty).cells 1).toList = [Value.string ByteArray.empty] := by kernel_rfl
      have := run_clearK (P := Tryz.prog) W1 23 ty 9 ti (Value.string ByteArray.empty) Tryz.underlying23 hti hz g (i + r) 1 c _ 9 hg1 (by decide) ?_ ?_
      · rw [zc] at this
        exact this
      · rw [zc]
        simp [laid, hA, hX, hC]; omega
      · rw [zc]
        intro v hv
        simp at hv
        (first | (subst hv; rfl) | (rcases hv with rfl | rfl <;> rfl))
    have HL : Hid (∀ ty c, (Builtin.clear_ #[23] ty #[.slice (some ⟨g, i + r, none⟩) (i + 1 + r - (i + r)) c]).run Tryz.prog W1 = .ok (.tuple #[]) (W1.setRow g (laid (laid (A ++ (X ++ (C ++ S))) (i) C) (i + r) [Value.string ByteArray.empty]).toArray)) := by rw [show i + 1 + r - (i + r) = 1 by omega]; exact hclr
    clear hrun hg1 hj1 hg k6 hclr
    have hlaid : laid (laid (A ++ (X ++ (C ++ S))) (i) C) (i + r) [Value.string ByteArray.empty] = A ++ (C ++ ([Value.string ByteArray.empty] ++ S)) := by
      rw [show i + r = A.length + C.length by omega, show i = A.length by omega]
      simpa only [List.append_assoc] using laid_twice A X C S [Value.string ByteArray.empty] (by simp [hX])
    have HLA : Hid (laid (laid (A ++ (X ++ (C ++ S))) (i) C) (i + r) [Value.string ByteArray.empty] = A ++ (C ++ ([Value.string ByteArray.empty] ++ S))) := hlaid
    clear hlaid hA hX hC h1
    go_wp2_with fail
    rw [HL.out]
    go_wp2_with fail
    go_ret
    refine ⟨rfl, ?_, HJ.out.setRow _⟩
    have := setRow_heap W1 g _ (laid (laid (A ++ (X ++ (C ++ S))) (i) C) (i + r) [Value.string ByteArray.empty]).toArray _ _ HG.out
    rw [HLA.out] at this ⊢
    exact this
set_option maxRecDepth 100000 in
set_option maxHeartbeats 4000000 in
theorem delete_coreS (g i r cap : Nat) (A X C S : List Value) (w : World) (hA : A.length = i * 2) (hX : X.length = 2) (hC : C.length = r * 2)
    (hg : w.heap[g]? = some (.cells (A ++ (X ++ (C ++ S))).toArray 69 (0, 0))) (hcap : i + 1 + r ≤ cap) (hmax : cap ≤ 9223372036854775807) (hsm : i + 1 + r ≤ 1048576)
    (h1 : ∀ v ∈ C, v.oneCell' = true) :
    Calls Tryz.prog 158 #[.slice (some ⟨g, 0, none⟩) (i + 1 + r) cap, .int .i64 (i : Int), .int .i64 ((i : Int) + 1)] w fun e w' =>
      e = .returned (.slice (some ⟨g, 0, none⟩) (i + r) cap) ∧ w'.heap[g]? = some (.cells (A ++ (C ++ ([Value.string ByteArray.empty, Value.int .i64 0] ++ S))).toArray 69 (0, 0)) ∧ JustRow g w w' := by
  obtain ⟨ti, hti, hz, hsz, hby⟩ := info_parts info_score
  have q1 : ¬ (i + 1 + r = i) := by omega
  have q2 : ¬ (cap = 0) := by omega
  have q3 : ((i : Int) == (i : Int) + 1) = false := by simp; omega
  by_cases hc : cap = i + 1
  · obtain rfl : r = 0 := by omega
    obtain rfl : C = [] := List.eq_nil_of_length_eq_zero (by omega)
    subst hc
    simp only [List.nil_append, Nat.add_zero] at *
    go_enter Tryz.func158, Tryz.ntmps158
    go_wp2_with fail
    have hrun : ∀ ty ad dc, (Builtin.append_ #[24, 24] ty #[.slice (some ⟨g, 0, none⟩) i (i + 1), .slice (some ad) 0 dc]).run Tryz.prog w.drew = .ok (.slice (some ⟨g, 0, none⟩) i (i + 1)) (w.drew.setRow g (laid (A ++ (X ++ S)) (i * 2) []).toArray) := by
      intro ty ad dc
      have := run_appendRoomK (P := Tryz.prog) w.drew 24 ty 69 ti Tryz.underlying24 hti g i (i + 1) ad 0 dc _ 69 [] hg (by simp) (by intro j u hu; simp at hu) (by simp) (by omega) (by simp [hA, hX, hsz])
      rw [hsz] at this
      simpa using this
    have k1 : (0 : Int) ≤ (i : Int) := by omega
    have k2 : (i : Int) ≤ (i : Int) + 1 := by omega
    have k2' : i ≤ i + 1 := by omega
    have k3 : (0 : Int) ≤ (i : Int) + 1 := by omega
    have k4 : ((i : Int) + 1).toNat = i + 1 := by omega
    have k6 : i + 1 - (i + 1) = 0 := by omega
    go_region_law (refine step_append_run rfl _ _ 24 24 rfl _ _ (by simp [Act.eval, Act.put]) (by simp [Act.eval, Act.put]; first | done | rfl | exact ⟨rfl, rfl⟩) (hrun _ _ _) ?_)
    have hg1 := setRow_heap w.drew g _ (laid (A ++ (X ++ S)) (i * 2) []).toArray _ _ hg
    have hj1 : JustRow g w (w.drew.setRow g (laid (A ++ (X ++ S)) (i * 2) []).toArray) := (JustRow.drew g w).setRow _
    generalize w.drew.setRow g (laid (A ++ (X ++ S)) (i * 2) []).toArray = W1 at hg1 hj1 ⊢
    have HG : Hid (W1.heap[g]? = some (.cells (laid (A ++ (X ++ S)) (i * 2) []).toArray 69 (0, 0))) := hg1
    have HJ : Hid (JustRow g w W1) := hj1
    have hclr : ∀ ty c, (Builtin.clear_ #[24] ty #[.slice (some ⟨g, i * 2, none⟩) 1 c]).run Tryz.prog W1 = .ok (.tuple #[]) (W1.setRow g (laid (laid (A ++ (X ++ S)) (i * 2) []) (i * 2) [Value.string ByteArray.empty, Value.int .i64 0]).toArray) := by
      intro ty c
      have zc : (Builtin.zeroCells (Value.agg #[.string ByteArray.empty, .int .i64 0]).cells 1).toList = [Value.string ByteArray.empty, Value.int .i64 0] := by kernel_rfl
      have := run_clearK (P := Tryz.prog) W1 24 ty 69 ti (Value.agg #[.string ByteArray.empty, .int .i64 0]) Tryz.underlying24 hti hz g (i * 2) 1 c _ 69 hg1 (by decide) ?_ ?_
      · rw [zc] at this
        exact this
      · rw [zc]
        simp [laid, hA, hX]
      · rw [zc]
        intro v hv
        simp at hv
        (first | (subst hv; rfl) | (rcases hv with rfl | rfl <;> rfl))
    have HL : Hid (∀ ty c, (Builtin.clear_ #[24] ty #[.slice (some ⟨g, i * 2, none⟩) (i + 1 - i) c]).run Tryz.prog W1 = .ok (.tuple #[]) (W1.setRow g (laid (laid (A ++ (X ++ S)) (i * 2) []) (i * 2) [Value.string ByteArray.empty, Value.int .i64 0]).toArray)) := by rw [show i + 1 - i = 1 by omega]; exact hclr
    clear hrun hg1 hj1 hg k6
    have hlaid : laid (laid (A ++ (X ++ S)) (i * 2) []) (i * 2) [Value.string ByteArray.empty, Value.int .i64 0] = A ++ ([Value.string ByteArray.empty, Value.int .i64 0] ++ S) := by
      rw [show i * 2 = A.length by omega]
      simpa using laid_twice A X [] S [Value.string ByteArray.empty, Value.int .i64 0] (by simp [hX])
    have HLA : Hid (laid (laid (A ++ (X ++ S)) (i * 2) []) (i * 2) [Value.string ByteArray.empty, Value.int .i64 0] = A ++ ([Value.string ByteArray.empty, Value.int .i64 0] ++ S)) := hlaid
    clear hlaid hA hX hC h1
    have HL1 : Hid (∀ ty c, (Builtin.clear_ #[24] ty #[.slice (some ⟨g, i * 2, none⟩) 1 c]).run Tryz.prog W1 = .ok (.tuple #[]) (W1.setRow g (laid (laid (A ++ (X ++ S)) (i * 2) []) (i * 2) [Value.string ByteArray.empty, Value.int .i64 0]).toArray)) := hclr
    clear hclr
    go_wp2_with fail
    first | rw [HL.out] | rw [HL1.out]
    go_wp2_with fail
    go_ret
    refine ⟨rfl, ?_, HJ.out.setRow _⟩
    have := setRow_heap W1 g _ (laid (laid (A ++ (X ++ S)) (i * 2) []) (i * 2) [Value.string ByteArray.empty, Value.int .i64 0]).toArray _ _ HG.out
    rw [HLA.out] at this ⊢
    exact this
  · go_enter Tryz.func158, Tryz.ntmps158
    go_wp2_with fail
    have hrun : ∀ ty dc, (Builtin.append_ #[24, 24] ty #[.slice (some ⟨g, 0, none⟩) i cap, .slice (some ⟨g, (i + 1) * 2, none⟩) r dc]).run Tryz.prog w.drew = .ok (.slice (some ⟨g, 0, none⟩) (i + r) cap) (w.drew.setRow g (laid (A ++ (X ++ (C ++ S))) (i * 2) C).toArray) := by
      intro ty dc
      have := run_appendRoomK (P := Tryz.prog) w.drew 24 ty 69 ti Tryz.underlying24 hti g i cap ⟨g, (i + 1) * 2, none⟩ r dc _ 69 C hg (by rw [hC, hsz]) ?_ h1 (by omega) (by simp [hA, hX, hC, hsz]; omega)
      · rw [hsz] at this
        simpa using this
      · intro j u hu
        refine cells_of_row (cur := A ++ (X ++ (C ++ S))) hg ((i + 1) * 2) j u ?_
        have hj : j < C.length := by
          have := List.getElem?_eq_some_iff.1 hu
          exact this.1
        rw [← List.append_assoc A X, List.getElem?_append_right (by simp only [List.length_append, hA, hX]; omega), List.getElem?_append_left (by simp only [List.length_append, hA, hX]; omega), show (i + 1) * 2 + j - (A ++ X).length = j by simp only [List.length_append, hA, hX]; omega]
        exact hu
    have k1 : (0 : Int) ≤ (i : Int) := by omega
    have k2 : (i : Int) ≤ (cap : Int) := by omega
    have k2' : i ≤ cap := by omega
    have k3 : (0 : Int) ≤ (i : Int) + 1 := by omega
    have k4 : ((i : Int) + 1).toNat = i + 1 := by omega
    have k5 : (i : Int) + 1 ≤ (i : Int) + 1 + (r : Int) := by omega
    have k6 : i + 1 + r - (i + 1) = r := by omega
    have k7 : i + 1 ≤ i + 1 + r := by omega
    go_region_law (refine step_append_run rfl _ _ 24 24 rfl _ _ (by simp [Act.eval, Act.put]) (by simp [Act.eval, Act.put]; rfl) (hrun _ _) ?_)
    have hg1 := setRow_heap w.drew g _ (laid (A ++ (X ++ (C ++ S))) (i * 2) C).toArray _ _ hg
    have hj1 : JustRow g w (w.drew.setRow g (laid (A ++ (X ++ (C ++ S))) (i * 2) C).toArray) := (JustRow.drew g w).setRow _
    generalize w.drew.setRow g (laid (A ++ (X ++ (C ++ S))) (i * 2) C).toArray = W1 at hg1 hj1 ⊢
    have HG : Hid (W1.heap[g]? = some (.cells (laid (A ++ (X ++ (C ++ S))) (i * 2) C).toArray 69 (0, 0))) := hg1
    have HJ : Hid (JustRow g w W1) := hj1
    have hclr : ∀ ty c, (Builtin.clear_ #[24] ty #[.slice (some ⟨g, (i + r) * 2, none⟩) 1 c]).run Tryz.prog W1 = .ok (.tuple #[]) (W1.setRow g (laid (laid (A ++ (X ++ (C ++ S))) (i * 2) C) ((i + r) * 2) [Value.string ByteArray.empty, Value.int .i64 0]).toArray) := by
      intro ty c
      have zc : (Builtin.zeroCells (Value.agg #[.string ByteArray.empty, .int .i64 0]).cells 1).toList = [Value.string ByteArray.empty, Value.int .i64 0] := by kernel_rfl
      have := run_clearK (P := Tryz.prog) W1 24 ty 69 ti (Value.agg #[.string ByteArray.empty, .int .i64 0]) Tryz.underlying24 hti hz g ((i + r) * 2) 1 c _ 69 hg1 (by decide) ?_ ?_
      · rw [zc] at this
        exact this
      · rw [zc]
        simp [laid, hA, hX, hC]; omega
      · rw [zc]
        intro v hv
        simp at hv
        (first | (subst hv; rfl) | (rcases hv with rfl | rfl <;> rfl))
    have HL : Hid (∀ ty c, (Builtin.clear_ #[24] ty #[.slice (some ⟨g, (i + r) * 2, none⟩) (i + 1 + r - (i + r)) c]).run Tryz.prog W1 = .ok (.tuple #[]) (W1.setRow g (laid (laid (A ++ (X ++ (C ++ S))) (i * 2) C) ((i + r) * 2) [Value.string ByteArray.empty, Value.int .i64 0]).toArray)) := by rw [show i + 1 + r - (i + r) = 1 by omega]; exact hclr
    clear hrun hg1 hj1 hg k6 hclr
    have hlaid : laid (laid (A ++ (X ++ (C ++ S))) (i * 2) C) ((i + r) * 2) [Value.string ByteArray.empty, Value.int .i64 0] = A ++ (C ++ ([Value.string ByteArray.empty, Value.int .i64 0] ++ S)) := by
      rw [show (i + r) * 2 = A.length + C.length by omega, show i * 2 = A.length by omega]
      simpa only [List.append_assoc] using laid_twice A X C S [Value.string ByteArray.empty, Value.int .i64 0] (by simp [hX])
    have HLA : Hid (laid (laid (A ++ (X ++ (C ++ S))) (i * 2) C) ((i + r) * 2) [Value.string ByteArray.empty, Value.int .i64 0] = A ++ (C ++ ([Value.string ByteArray.empty, Value.int .i64 0] ++ S))) := hlaid
    clear hlaid hA hX hC h1
    go_wp2_with fail
    rw [HL.out]
    go_wp2_with fail
    go_ret
    refine ⟨rfl, ?_, HJ.out.setRow _⟩
    have := setRow_heap W1 g _ (laid (laid (A ++ (X ++ (C ++ S))) (i * 2) C) ((i + r) * 2) [Value.string ByteArray.empty, Value.int .i64 0]).toArray _ _ HG.out
    rw [HLA.out] at this ⊢
    exact this
end Go.Proofs.YtfnephnecighaaaGreat

/- slices of entries (Sd at eight cells). -/
namespace Go.Proofs.YtfnephnecighaaaGreat
open Go.RowKit
set_option linter.unusedVariables false

set_option maxRecDepth 100000 in
set_option maxHeartbeats 4000000 in
theorem delete_coreE (g i r cap : Nat) (A X C S : List Value) (w : World) (hA : A.length = i * 8) (hX : X.length = 8) (hC : C.length = r * 8)
    (hg : w.heap[g]? = some (.cells (A ++ (X ++ (C ++ S))).toArray 57 (0, 0))) (hcap : i + 1 + r ≤ cap) (hmax : cap ≤ 9223372036854775807) (hsm : i + 1 + r ≤ 1048576)
    (h1 : ∀ v ∈ C, v.oneCell' = true) :
    Calls Tryz.prog 144 #[.slice (some ⟨g, 0, none⟩) (i + 1 + r) cap, .int .i64 (i : Int), .int .i64 ((i : Int) + 1)] w fun e w' =>
      e = .returned (.slice (some ⟨g, 0, none⟩) (i + r) cap) ∧ w'.heap[g]? = some (.cells (A ++ (C ++ ([Value.string ByteArray.empty, Value.int .i64 0, Value.string ByteArray.empty, Value.int .i64 0, Value.slice none 0 0, Value.slice none 0 0, Value.slice none 0 0, Value.int .i64 0] ++ S))).toArray 57 (0, 0)) ∧ JustRow g w w' := by
  obtain ⟨ti, hti, hz, hsz, hby⟩ := info_parts info_entry
  have q1 : ¬ (i + 1 + r = i) := by omega
  have q2 : ¬ (cap = 0) := by omega
  have q3 : ((i : Int) == (i : Int) + 1) = false := by simp; omega
  by_cases hc : cap = i + 1
  · obtain rfl : r = 0 := by omega
    obtain rfl : C = [] := List.eq_nil_of_length_eq_zero (by omega)
    subst hc
    simp only [List.nil_append, Nat.add_zero] at *
    go_enter Tryz.func144, Tryz.ntmps144
    go_wp2_with fail
    have hrun : ∀ ty ad dc, (Builtin.append_ #[38, 38] ty #[.slice (some ⟨g, 0, none⟩) i (i + 1), .slice (some ad) 0 dc]).run Tryz.prog w.drew = .ok (.slice (some ⟨g, 0, none⟩) i (i + 1)) (w.drew.setRow g (laid (A ++ (X ++ S)) (i * 8) []).toArray) := by
      intro ty ad dc
      have := run_appendRoomK (P := Tryz.prog) w.drew 38 ty 57 ti Tryz.underlying38 hti g i (i + 1) ad 0 dc _ 57 [] hg (by simp) (by intro j u hu; simp at hu) (by simp) (by omega) (by simp [hA, hX, hsz])
      rw [hsz] at this
      simpa using this
    have k1 : (0 : Int) ≤ (i : Int) := by omega
    have k2 : (i : Int) ≤ (i : Int) + 1 := by omega
    have k2' : i ≤ i + 1 := by omega
    have k3 : (0 : Int) ≤ (i : Int) + 1 := by omega
    have k4 : ((i : Int) + 1).toNat = i + 1 := by omega
    have k6 : i + 1 - (i + 1) = 0 := by omega
    go_region_law (refine step_append_run rfl _ _ 38 38 rfl _ _ (by simp [Act.eval, Act.put]) (by simp [Act.eval, Act.put]; first | done | rfl | exact ⟨rfl, rfl⟩) (hrun _ _ _) ?_)
    have hg1 := setRow_heap w.drew g _ (laid (A ++ (X ++ S)) (i * 8) []).toArray _ _ hg
    have hj1 : JustRow g w (w.drew.setRow g (laid (A ++ (X ++ S)) (i * 8) []).toArray) := (JustRow.drew g w).setRow _
    generalize w.drew.setRow g (laid (A ++ (X ++ S)) (i * 8) []).toArray = W1 at hg1 hj1 ⊢
    have HG : Hid (W1.heap[g]? = some (.cells (laid (A ++ (X ++ S)) (i * 8) []).toArray 57 (0, 0))) := hg1
    have HJ : Hid (JustRow g w W1) := hj1
    have hclr : ∀ ty c, (Builtin.clear_ #[38] ty #[.slice (some ⟨g, i * 8, none⟩) 1 c]).run Tryz.prog W1 = .ok (.tuple #[]) (W1.setRow g (laid (laid (A ++ (X ++ S)) (i * 8) []) (i * 8) [Value.string ByteArray.empty, Value.int .i64 0, Value.string ByteArray.empty, Value.int .i64 0, Value.slice none 0 0, Value.slice none 0 0, Value.slice none 0 0, Value.int .i64 0]).toArray) := by
      intro ty c
      have zc : (Builtin.zeroCells (Value.agg #[.string ByteArray.empty, .int .i64 0, .string ByteArray.empty, .int .i64 0, .slice none 0 0, .slice none 0 0, .slice none 0 0, .int .i64 0]).cells 1).toList = [Value.string ByteArray.empty, Value.int .i64 0, Value.string ByteArray.empty, Value.int .i64 0, Value.slice none 0 0, Value.slice none 0 0, Value.slice none 0 0, Value.int .i64 0] := by kernel_rfl
      have := run_clearK (P := Tryz.prog) W1 38 ty 57 ti (Value.agg #[.string ByteArray.empty, .int .i64 0, .string ByteArray.empty, .int .i64 0, .slice none 0 0, .slice none 0 0, .slice none 0 0, .int .i64 0]) Tryz.underlying38 hti hz g (i * 8) 1 c _ 57 hg1 (by decide) ?_ ?_
      · rw [zc] at this
        exact this
      · rw [zc]
        simp [laid, hA, hX]
      · rw [zc]
        intro v hv
        simp at hv
        (rcases hv with rfl | rfl | rfl | rfl | rfl | rfl | rfl | rfl <;> rfl)
    have HL : Hid (∀ ty c, (Builtin.clear_ #[38] ty #[.slice (some ⟨g, i * 8, none⟩) (i + 1 - i) c]).run Tryz.prog W1 = .ok (.tuple #[]) (W1.setRow g (laid (laid (A ++ (X ++ S)) (i * 8) []) (i * 8) [Value.string ByteArray.empty, Value.int .i64 0, Value.string ByteArray.empty, Value.int .i64 0, Value.slice none 0 0, Value.slice none 0 0, Value.slice none 0 0, Value.int .i64 0]).toArray)) := by rw [show i + 1 - i = 1 by omega]; exact hclr
    clear hrun hg1 hj1 hg k6
    have hlaid : laid (laid (A ++ (X ++ S)) (i * 8) []) (i * 8) [Value.string ByteArray.empty, Value.int .i64 0, Value.string ByteArray.empty, Value.int .i64 0, Value.slice none 0 0, Value.slice none 0 0, Value.slice none 0 0, Value.int .i64 0] = A ++ ([Value.string ByteArray.empty, Value.int .i64 0, Value.string ByteArray.empty, Value.int .i64 0, Value.slice none 0 0, Value.slice none 0 0, Value.slice none 0 0, Value.int .i64 0] ++ S) := by
      rw [show i * 8 = A.length by omega]
      simpa using laid_twice A X [] S [Value.string ByteArray.empty, Value.int .i64 0, Value.string ByteArray.empty, Value.int .i64 0, Value.slice none 0 0, Value.slice none 0 0, Value.slice none 0 0, Value.int .i64 0] (by simp [hX])
    have HLA : Hid (laid (laid (A ++ (X ++ S)) (i * 8) []) (i * 8) [Value.string ByteArray.empty, Value.int .i64 0, Value.string ByteArray.empty, Value.int .i64 0, Value.slice none 0 0, Value.slice none 0 0, Value.slice none 0 0, Value.int .i64 0] = A ++ ([Value.string ByteArray.empty, Value.int .i64 0, Value.string ByteArray.empty, Value.int .i64 0, Value.slice none 0 0, Value.slice none 0 0, Value.slice none 0 0, Value.int .i64 0] ++ S)) := hlaid
    clear hlaid hA hX hC h1
    have HL1 : Hid (∀ ty c, (Builtin.clear_ #[38] ty #[.slice (some ⟨g, i * 8, none⟩) 1 c]).run Tryz.prog W1 = .ok (.tuple #[]) (W1.setRow g (laid (laid (A ++ (X ++ S)) (i * 8) []) (i * 8) [Value.string ByteArray.empty, Value.int .i64 0, Value.string ByteArray.empty, Value.int .i64 0, Value.slice none 0 0, Value.slice none 0 0, Value.slice none 0 0, Value.int .i64 0]).toArray)) := hclr
    clear hclr
    go_wp2_with fail
    first | rw [HL.out] | rw [HL1.out]
    go_wp2_with fail
    go_ret
    refine ⟨rfl, ?_, HJ.out.setRow _⟩
    have := setRow_heap W1 g _ (laid (laid (A ++ (X ++ S)) (i * 8) []) (i * 8) [Value.string ByteArray.empty, Value.int .i64 0, Value.string ByteArray.empty, Value.int .i64 0, Value.slice none 0 0, Value.slice none 0 0, Value.slice none 0 0, Value.int .i64 0]).toArray _ _ HG.out
    rw [HLA.out] at this ⊢
    exact this
  · go_enter Tryz.func144, Tryz.ntmps144
    go_wp2_with fail
    have hrun : ∀ ty dc, (Builtin.append_ #[38, 38] ty #[.slice (some ⟨g, 0, none⟩) i cap, .slice (some ⟨g, (i + 1) * 8, none⟩) r dc]).run Tryz.prog w.drew = .ok (.slice (some ⟨g, 0, none⟩) (i + r) cap) (w.drew.setRow g (laid (A ++ (X ++ (C ++ S))) (i * 8) C).toArray) := by
      intro ty dc
      have := run_appendRoomK (P := Tryz.prog) w.drew 38 ty 57 ti Tryz.underlying38 hti g i cap ⟨g, (i + 1) * 8, none⟩ r dc _ 57 C hg (by rw [hC, hsz]) ?_ h1 (by omega) (by simp [hA, hX, hC, hsz]; omega)
      · rw [hsz] at this
        simpa using this
      · intro j u hu
        refine cells_of_row (cur := A ++ (X ++ (C ++ S))) hg ((i + 1) * 8) j u ?_
        have hj : j < C.length := by
          have := List.getElem?_eq_some_iff.1 hu
          exact this.1
        rw [← List.append_assoc A X, List.getElem?_append_right (by simp only [List.length_append, hA, hX]; omega), List.getElem?_append_left (by simp only [List.length_append, hA, hX]; omega), show (i + 1) * 8 + j - (A ++ X).length = j by simp only [List.length_append, hA, hX]; omega]
        exact hu
    have k1 : (0 : Int) ≤ (i : Int) := by omega
    have k2 : (i : Int) ≤ (cap : Int) := by omega
    have k2' : i ≤ cap := by omega
    have k3 : (0 : Int) ≤ (i : Int) + 1 := by omega
    have k4 : ((i : Int) + 1).toNat = i + 1 := by omega
    have k5 : (i : Int) + 1 ≤ (i : Int) + 1 + (r : Int) := by omega
    have k6 : i + 1 + r - (i + 1) = r := by omega
    have k7 : i + 1 ≤ i + 1 + r := by omega
    go_region_law (refine step_append_run rfl _ _ 38 38 rfl _ _ (by simp [Act.eval, Act.put]) (by simp [Act.eval, Act.put]; rfl) (hrun _ _) ?_)
    have hg1 := setRow_heap w.drew g _ (laid (A ++ (X ++ (C ++ S))) (i * 8) C).toArray _ _ hg
    have hj1 : JustRow g w (w.drew.setRow g (laid (A ++ (X ++ (C ++ S))) (i * 8) C).toArray) := (JustRow.drew g w).setRow _
    generalize w.drew.setRow g (laid (A ++ (X ++ (C ++ S))) (i * 8) C).toArray = W1 at hg1 hj1 ⊢
    have HG : Hid (W1.heap[g]? = some (.cells (laid (A ++ (X ++ (C ++ S))) (i * 8) C).toArray 57 (0, 0))) := hg1
    have HJ : Hid (JustRow g w W1) := hj1
    have hclr : ∀ ty c, (Builtin.clear_ #[38] ty #[.slice (some ⟨g, (i + r) * 8, none⟩) 1 c]).run Tryz.prog W1 = .ok (.tuple #[]) (W1.setRow g (laid (laid (A ++ (X ++ (C ++ S))) (i * 8) C) ((i + r) * 8) [Value.string ByteArray.empty, Value.int .i64 0, Value.string ByteArray.empty, Value.int .i64 0, Value.slice none 0 0, Value.slice none 0 0, Value.slice none 0 0, Value.int .i64 0]).toArray) := by
      intro ty c
      have zc : (Builtin.zeroCells (Value.agg #[.string ByteArray.empty, .int .i64 0, .string ByteArray.empty, .int .i64 0, .slice none 0 0, .slice none 0 0, .slice none 0 0, .int .i64 0]).cells 1).toList = [Value.string ByteArray.empty, Value.int .i64 0, Value.string ByteArray.empty, Value.int .i64 0, Value.slice none 0 0, Value.slice none 0 0, Value.slice none 0 0, Value.int .i64 0] := by kernel_rfl
      have := run_clearK (P := Tryz.prog) W1 38 ty 57 ti (Value.agg #[.string ByteArray.empty, .int .i64 0, .string ByteArray.empty, .int .i64 0, .slice none 0 0, .slice none 0 0, .slice none 0 0, .int .i64 0]) Tryz.underlying38 hti hz g ((i + r) * 8) 1 c _ 57 hg1 (by decide) ?_ ?_
      · rw [zc] at this
        exact this
      · rw [zc]
        simp [laid, hA, hX, hC]; omega
      · rw [zc]
        intro v hv
        simp at hv
        (rcases hv with rfl | rfl | rfl | rfl | rfl | rfl | rfl | rfl <;> rfl)
    have HL : Hid (∀ ty c, (Builtin.clear_ #[38] ty #[.slice (some ⟨g, (i + r) * 8, none⟩) (i + 1 + r - (i + r)) c]).run Tryz.prog W1 = .ok (.tuple #[]) (W1.setRow g (laid (laid (A ++ (X ++ (C ++ S))) (i * 8) C) ((i + r) * 8) [Value.string ByteArray.empty, Value.int .i64 0, Value.string ByteArray.empty, Value.int .i64 0, Value.slice none 0 0, Value.slice none 0 0, Value.slice none 0 0, Value.int .i64 0]).toArray)) := by rw [show i + 1 + r - (i + r) = 1 by omega]; exact hclr
    clear hrun hg1 hj1 hg k6 hclr
    have hlaid : laid (laid (A ++ (X ++ (C ++ S))) (i * 8) C) ((i + r) * 8) [Value.string ByteArray.empty, Value.int .i64 0, Value.string ByteArray.empty, Value.int .i64 0, Value.slice none 0 0, Value.slice none 0 0, Value.slice none 0 0, Value.int .i64 0] = A ++ (C ++ ([Value.string ByteArray.empty, Value.int .i64 0, Value.string ByteArray.empty, Value.int .i64 0, Value.slice none 0 0, Value.slice none 0 0, Value.slice none 0 0, Value.int .i64 0] ++ S)) := by
      rw [show (i + r) * 8 = A.length + C.length by omega, show i * 8 = A.length by omega]
      simpa only [List.append_assoc] using laid_twice A X C S [Value.string ByteArray.empty, Value.int .i64 0, Value.string ByteArray.empty, Value.int .i64 0, Value.slice none 0 0, Value.slice none 0 0, Value.slice none 0 0, Value.int .i64 0] (by simp [hX])
    have HLA : Hid (laid (laid (A ++ (X ++ (C ++ S))) (i * 8) C) ((i + r) * 8) [Value.string ByteArray.empty, Value.int .i64 0, Value.string ByteArray.empty, Value.int .i64 0, Value.slice none 0 0, Value.slice none 0 0, Value.slice none 0 0, Value.int .i64 0] = A ++ (C ++ ([Value.string ByteArray.empty, Value.int .i64 0, Value.string ByteArray.empty, Value.int .i64 0, Value.slice none 0 0, Value.slice none 0 0, Value.slice none 0 0, Value.int .i64 0] ++ S))) := hlaid
    clear hlaid hA hX hC h1
    go_wp2_with fail
    rw [HL.out]
    go_wp2_with fail
    go_ret
    refine ⟨rfl, ?_, HJ.out.setRow _⟩
    have := setRow_heap W1 g _ (laid (laid (A ++ (X ++ (C ++ S))) (i * 8) C) ((i + r) * 8) [Value.string ByteArray.empty, Value.int .i64 0, Value.string ByteArray.empty, Value.int .i64 0, Value.slice none 0 0, Value.slice none 0 0, Value.slice none 0 0, Value.int .i64 0]).toArray _ _ HG.out
    rw [HLA.out] at this ⊢
    exact this
end Go.Proofs.YtfnephnecighaaaGreat
