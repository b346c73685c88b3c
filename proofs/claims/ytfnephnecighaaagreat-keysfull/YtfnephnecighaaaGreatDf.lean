/- slices.DeleteFunc over a row of entries of the call's own: what stays. -/
import Derived.Test.YtfnephnecighaaaGreatFs0J
import Derived.Test.YtfnephnecighaaaGreatVe8
namespace Go.Proofs.YtfnephnecighaaaGreat
open Go.RowKit
set_option linter.unusedVariables false
set_option maxRecDepth 100000

theorem idxI_cases {α : Type} (pr : α → Bool) (l : List α) : (idxI pr l = -1 ∧ ∀ a ∈ l, pr a = false) ∨ ∃ i, ∃ h : i < l.length, idxI pr l = (i : Int) ∧ pr l[i] = true ∧ ∀ j (hj : j < i), pr (l[j]'(by omega)) = false := by
  unfold idxI
  cases h : l.findIdx? pr with
  | none =>
    rw [List.findIdx?_eq_none_iff] at h
    exact .inl ⟨rfl, h⟩
  | some i =>
    rw [List.findIdx?_eq_some_iff_getElem] at h
    obtain ⟨hi, hp, hno⟩ := h
    exact .inr ⟨i, hi, rfl, hp, fun j hj => by simpa using hno j hj⟩
theorem ret_slice {a : Option Addr} {i n c : Nat} (h : n = i) : Ending.returned (.slice a i c) = .returned (.slice a n c) := by rw [h]
theorem drop_at {α : Type} {C A : List α} {j : Nat} (h : C.drop j = A.drop j) (hC : j < C.length) (hA : j < A.length) : C[j] = A[j] := by
  rw [List.drop_eq_getElem_cons hC, List.drop_eq_getElem_cons hA] at h
  exact (List.cons.inj h).1
theorem drop_next {α : Type} {C A : List α} {j : Nat} (h : C.drop j = A.drop j) : C.drop (j + 1) = A.drop (j + 1) := by
  have := congrArg (List.drop 1) h
  simpa [List.drop_drop] using this

set_option maxHeartbeats 8000000 in
theorem deleteFuncE (B g cap f : Nat) (lb : Array Value) (pr : Ent → Bool) (A : List Ent) (S : List Value) (w : World) (eg : ∀ args w, (callFunc f args).run Tryz.prog w = .ok (.enter f args) w)
    (hgB : B ≤ g) (hBw : B ≤ w.heap.size) (hb : w.heap[g]? = some (.cells (A.flatMap encE ++ S).toArray 57 (0, 0))) (hcap : A.length ≤ cap) (hmax : cap ≤ maxLen) (hsm : A.length ≤ 1048576) (hS : (A.flatMap encE ++ S).length = cap * 8)
    (hf : ∀ e ∈ A, ∀ W, Apart B g w W → Calls Tryz.prog f (#[valE e] ++ lb) W fun r w' => r = .returned (.bool (pr e)) ∧ Below W.heap.size W w') :
    Calls Tryz.prog 102 #[.slice (some ⟨g, 0, none⟩) A.length cap, .func (.func f) #[] lb] w fun e w' =>
      e = .returned (.slice (some ⟨g, 0, none⟩) (A.filter (fun e => !pr e)).length cap) ∧ (∃ S', w'.heap[g]? = some (.cells ((A.filter (fun e => !pr e)).flatMap encE ++ S').toArray 57 (0, 0)) ∧ ((A.filter (fun e => !pr e)).flatMap encE ++ S').length = cap * 8) ∧ Apart B g w w' := by
  obtain ⟨ti, hti, hz, hszi, hby⟩ := info_parts info_entry
  have hown : w.ownsRow B 57 8 (.slice (some ⟨g, 0, none⟩) A.length cap) A.length (A.flatMap encE) := own_mk (flat_length lenE A) hgB hb hcap hmax hS
  have hidx := indexFuncE f lb pr _ A eg w (RowAt.ofOwn lenE hown (by omega)) (fun e he W hW => hf e he W ((Apart.refl B g w).step hBw hW))
  have HF : Hid (∀ e ∈ A, ∀ W, Apart B g w W → Calls Tryz.prog f (#[valE e] ++ lb) W fun r w' => r = .returned (.bool (pr e)) ∧ Below W.heap.size W w') := hf
  have HI : Hid (Calls Tryz.prog 86 #[.slice (some ⟨g, 0, none⟩) A.length cap, .func (.func f) #[] lb] w fun e w' => e = .returned (.int .i64 (idxI pr A)) ∧ Below w.heap.size w w') := hidx
  have HB : Hid (w.heap[g]? = some (.cells (A.flatMap encE ++ S).toArray 57 (0, 0)) ∧ (A.flatMap encE ++ S).length = cap * 8) := ⟨hb, hS⟩
  have hgl := lt_at hb
  unfold maxLen at hmax
  clear hf hown hidx hb hS
  go_enter Tryz.func102, Tryz.ntmps102
  go_wp2_with fail
  refine HI.out.mono ?_
  rintro e w1 ⟨rfl, hb1⟩
  have AP1 : Hid (Apart B g w w1) := (Apart.refl B g w).step hBw hb1
  have HB1 : Hid (w1.heap[g]? = some (.cells (A.flatMap encE ++ S).toArray 57 (0, 0))) := (hb1.block g hgl).trans HB.out.1
  clear hb1 HI
  rcases idxI_cases pr A with ⟨hi, hall⟩ | ⟨i0, hi0, hi, hp, hno⟩
  · rw [hi]
    have HA : Hid (A.filter (fun e => !pr e) = A) := List.filter_eq_self.2 fun a ha => by simp [hall a ha]
    clear hall hi
    go_wp2_with fail
    go_ret
    rw [HA.out]
    exact ⟨rfl, ⟨S, HB1.out, HB.out.2⟩, AP1.out⟩
  · rw [hi]
    have HST : Hid (A.take i0 = (A.take (i0 + 1)).filter (fun e => !pr e)) := by
      show A.take i0 = _
      rw [filter_snoc _ _ _ hi0, if_neg (by simp [hp]), List.append_nil]
      symm
      rw [List.filter_eq_self]
      intro a ha
      obtain ⟨j, hj, rfl⟩ := List.getElem_of_mem ha
      rw [List.length_take] at hj
      rw [List.getElem_take, hno j (by omega)]; rfl
    have hne : ((i0 : Int) == -1) = false := beq_eq_false_iff_ne.2 (by omega)
    have hw0 : IntKind.i64.wrap ((i0 : Int) + 1) = (i0 : Int) + 1 := by rw [IntKind.wrap_i64]; omega
    clear hi hp hno
    go_wp2_with fail
    clear hne hw0
    go_loopw [5, 6] (fun iv jv wr => ∃ (i j : Nat) (C : List Ent), iv = .int .i64 (i : Int) ∧ jv = .int .i64 (j : Int) ∧ i < j ∧ j ≤ A.length ∧ C.length = A.length ∧ C.take i = (A.take j).filter (fun e => !pr e) ∧ C.drop j = A.drop j ∧
      wr.heap[g]? = some (.cells (C.flatMap encE ++ S).toArray 57 (0, 0)) ∧ Apart B g w wr) (fun _ jv _ => A.length - (intOf jv).toNat)
    case atStart => exact ⟨i0, i0 + 1, A, rfl, by go_num, by omega, by omega, rfl, HST.out, rfl, HB1.out, AP1.out⟩
    case round =>
      clear HST HB1 AP1 hi0
      obtain ⟨i, j, C, rfl, rfl, hij, hjn, hCl, hCt, hCd, hrow, hap⟩ := hrel
      have HCT : Hid (C.take i = (A.take j).filter (fun e => !pr e)) := hCt
      have HCD : Hid (C.drop j = A.drop j) := hCd
      have HRW : Hid (wr.heap[g]? = some (.cells (C.flatMap encE ++ S).toArray 57 (0, 0))) := hrow
      have HAP : Hid (Apart B g w wr) := hap
      clear hCt hCd hap
      by_cases hlt : j < A.length
      · have hj0 : (j : Int) < (A.length : Int) := by omega
        have hjc : j < C.length := by omega
        have hic : i < C.length := by omega
        have hCj := drop_at HCD.out hjc hlt
        have hkvE : ∃ y : Ent, y = A[j] := ⟨_, rfl⟩
        obtain ⟨e, hel⟩ := hkvE
        have HFe : Hid (∀ W, Apart B g w W → Calls Tryz.prog f (#[valE e] ++ lb) W fun r w' => r = .returned (.bool (pr e)) ∧ Below W.heap.size W w') := fun W hW => HF.out e (by rw [hel]; exact List.getElem_mem hlt) W hW
        have HSN : Hid ((A.take (j + 1)).filter (fun e => !pr e) = C.take i ++ (if (!pr e) = true then [e] else [])) := by
          show (A.take (j + 1)).filter _ = _
          rw [filter_snoc _ _ _ hlt, HCT.out, hel]
        rw [← hel] at hCj
        have HCE : Hid (C[j] = e) := hCj
        obtain ⟨⟨key, ⟨kind, text, count, pairs, items, scores⟩, til⟩, pa, pc, ia, ic, sa, sc⟩ := e
        obtain ⟨c0, c1, c2, c3, c4, c5, c6, c7, fz⟩ := row_eight hrow hjc hCj
        simp only at c0 c1 c2 c3 c4 c5 c6 c7
        have hgw := lt_at hrow
        have hii : (i : Int) < (A.length : Int) := by omega
        have hii0 : (0 : Int) ≤ (i : Int) := by omega
        have hBr : B ≤ wr.heap.size := Nat.le_trans hBw HAP.out.size
        clear hrow hel hCj HF
        go_wp2_with fail
        have hbl := balloc wr (entO key kind text count (.slice pa pairs.length pc) (.slice ia items.length ic) (.slice sa scores.length sc) til)
        have nx := alloc_at wr (entO key kind text count (.slice pa pairs.length pc) (.slice ia items.length ic) (.slice sa scores.length sc) til)
        refine (HFe.out _ (HAP.out.step hBr hbl)).mono ?_
        rintro e w2 ⟨rfl, hb2⟩
        have nx2 := (hb2.block _ (lt_at nx)).trans nx
        have hbb := bstep hbl hb2
        have HRW2 : Hid (w2.heap[g]? = some (.cells (C.flatMap encE ++ S).toArray 57 (0, 0))) := (hbb.block g hgw).trans HRW.out
        have HAP2 : Hid (Apart B g w w2) := HAP.out.step hBr hbb
        clear c0 c1 c2 c3 c4 c5 c6 c7 fz hbl nx hb2 hbb HFe HRW HAP
        cases hp : pr ⟨⟨key, ⟨kind, text, count, pairs, items, scores⟩, til⟩, pa, pc, ia, ic, sa, sc⟩
        · have HP : Hid (pr ⟨⟨key, ⟨kind, text, count, pairs, items, scores⟩, til⟩, pa, pc, ia, ic, sa, sc⟩ = false) := hp
          clear hp
          obtain ⟨x0, xf⟩ := cellsB nx2
          have hCi : ∃ y : Ent, C[i] = y := ⟨_, rfl⟩
          obtain ⟨y, hy⟩ := hCi
          obtain ⟨c0, c1, c2, c3, c4, c5, c6, c7, fz⟩ := row_eight HRW2.out hic hy
          have hg2 := lt_at HRW2.out
          have hgx : ¬ g = wr.heap.size := by omega
          have HNB : Hid _ := eightC_block HRW2.out (i * 8) (.string key) (.int .i64 kind) (.string text) (.int .i64 count) (.slice pa pairs.length pc) (.slice ia items.length ic) (.slice sa scores.length sc) (.int .i64 til)
          have HNA : Hid _ := HAP2.out.eight (o := i * 8) (v0 := .string key) (v1 := .int .i64 kind) (v2 := .string text) (v3 := .int .i64 count) (v4 := .slice pa pairs.length pc) (v5 := .slice ia items.length ic) (v6 := .slice sa scores.length sc) (v7 := .int .i64 til) hgB
          have hwi : IntKind.i64.wrap ((i : Int) + 1) = (i : Int) + 1 := by rw [IntKind.wrap_i64]; omega
          have hwj : IntKind.i64.wrap ((j : Int) + 1) = (j : Int) + 1 := by rw [IntKind.wrap_i64]; omega
          clear hy
          go_wp2_with fail
          refine ⟨⟨i + 1, j + 1, C.set i ⟨⟨key, ⟨kind, text, count, pairs, items, scores⟩, til⟩, pa, pc, ia, ic, sa, sc⟩, by go_num, by go_num, by omega, by omega, by rw [List.length_set]; exact hCl, ?_, ?_, ?_, HNA.out⟩, by simp [intOf]; omega⟩
          · rw [HSN.out, HP.out, List.take_succ_eq_append_getElem (by rw [List.length_set]; exact hic), take_set_self]
            simp
          · rw [List.drop_set_of_lt (by omega)]; exact drop_next HCD.out
          · have := HNB.out
            rw [flat_ent ⟨⟨key, ⟨kind, text, count, pairs, items, scores⟩, til⟩, pa, pc, ia, ic, sa, sc⟩ C i S hic] at this
            exact this
        · have HP : Hid (pr ⟨⟨key, ⟨kind, text, count, pairs, items, scores⟩, til⟩, pa, pc, ia, ic, sa, sc⟩ = true) := hp
          clear hp
          have hwj : IntKind.i64.wrap ((j : Int) + 1) = (j : Int) + 1 := by rw [IntKind.wrap_i64]; omega
          clear nx2
          go_wp2_with fail
          exact ⟨⟨i, j + 1, C, rfl, by go_num, by omega, by omega, hCl, by rw [HSN.out, HP.out]; simp, drop_next HCD.out, HRW2.out, HAP2.out⟩, by simp [intOf]; omega⟩
      · have hge : ¬ (j : Int) < (A.length : Int) := by omega
        obtain rfl : j = A.length := by omega
        have HFL : Hid (A.filter (fun e => !pr e) = C.take i) := by show _ = _; rw [HCT.out, List.take_length]
        have hlenS : (C.flatMap encE ++ S).length = cap * 8 := by
          have := HB.out.2
          rw [List.length_append, flat_length lenE] at this ⊢
          rw [hCl]; exact this
        have q1 : (0 : Int) ≤ (i : Int) := by omega
        have q2 : (i : Int) ≤ (A.length : Int) := by omega
        have q3 : i ≤ A.length := by omega
        have q4 : ¬ cap = i := by omega
        have q5 : (i : Int) ≤ (cap : Int) := by omega
        have q6 : i ≤ cap := by omega
        have hcl : ∀ ty c, (Builtin.clear_ #[38] ty #[.slice (some ⟨g, i * 8, none⟩) (A.length - i) c]).run Tryz.prog wr = .ok (.tuple #[]) (wr.setRow g (laid (C.flatMap encE ++ S) (i * 8) (Builtin.zeroCells (zeroE).cells (A.length - i)).toList).toArray) := by
          intro ty c
          refine run_clearK (P := Tryz.prog) wr 38 ty 57 ti zeroE Tryz.underlying38 hti hz g (i * 8) (A.length - i) c _ 57 hrow (by omega) ?_ (zero_ones _)
          rw [zero_len, List.size_toArray, hlenS]
          omega
        have HCL : Hid (∀ ty c, (Builtin.clear_ #[38] ty #[.slice (some ⟨g, i * 8, none⟩) (A.length - i) c]).run Tryz.prog wr = .ok (.tuple #[]) (wr.setRow g (laid (C.flatMap encE ++ S) (i * 8) (Builtin.zeroCells (zeroE).cells (A.length - i)).toList).toArray)) := hcl
        have HLS : Hid ((C.flatMap encE ++ S).length = cap * 8) := hlenS
        have hil : (C.take i).length = i := by rw [List.length_take]; omega
        have HIL : Hid ((C.take i).length = i) := hil
        clear hcl hlenS hrow hil
        go_wp2_with fail
        rw [HCL.out]
        go_wp2_with fail
        go_ret
        have hl8 : ((C.take i).flatMap encE).length = i * 8 := by rw [flat_length lenE, HIL.out]
        have hfl : (C.take i).flatMap encE ++ ((Builtin.zeroCells (zeroE).cells (A.length - i)).toList ++ (C.flatMap encE ++ S).drop (i * 8 + (Builtin.zeroCells (zeroE).cells (A.length - i)).toList.length)) = laid (C.flatMap encE ++ S) (i * 8) (Builtin.zeroCells (zeroE).cells (A.length - i)).toList := by
          have ht : (C.flatMap encE ++ S).take (i * 8) = (C.take i).flatMap encE := by
            rw [flat_split encE C i, List.append_assoc, ← hl8, List.take_left]
          unfold laid
          rw [ht, List.append_assoc]
        rw [HFL.out]
        generalize (Builtin.zeroCells (zeroE).cells (A.length - i)).toList ++ (C.flatMap encE ++ S).drop (i * 8 + (Builtin.zeroCells (zeroE).cells (A.length - i)).toList.length) = Z at hfl
        refine ⟨ret_slice HIL.out, ⟨Z, ?_, ?_⟩, ?_⟩
        · rw [hfl]
          exact setRow_heap wr g _ _ _ _ HRW.out
        · rw [hfl, laid_len _ _ _ (by rw [zero_len, HLS.out]; omega), HLS.out]
        · exact ⟨(HAP.out.below).trans (JustRow.below (JustRow.setRow (g := g) (w := wr) (w' := wr) ⟨⟨rfl, rfl, rfl⟩, rfl, fun _ _ => rfl⟩ _) hgB), by simpa [World.setRow] using HAP.out.size, fun b hl hne => (setRow_other wr g b _ hne).trans (HAP.out.other b hl hne)⟩
end Go.Proofs.YtfnephnecighaaaGreat
