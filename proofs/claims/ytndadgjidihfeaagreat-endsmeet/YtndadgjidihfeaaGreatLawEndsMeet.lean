/- What is put ahead is taken from ahead, what is put behind from behind, and the rest stays: for all raw numbers, every text and either end the law returns true. No condition. -/
import Derived.Test.YtndadgjidihfeaaGreatFw
import Derived.Test.YtndadgjidihfeaaGreatMv
import Derived.Test.YtndadgjidihfeaaGreatOpJ
import Derived.Test.YtndadgjidihfeaaGreatOb
namespace Go.Proofs.YtndadgjidihfeaaGreat.endsMeetDone
open Go.ChangeShapes Go.WideShapes Go.ChangeAt Go.RowKit
open Go.Proofs.YtndadgjidihfeaaGreat
set_option linter.unusedVariables false
set_option maxRecDepth 100000

theorem push_fold : ∀ (rs : List Raw) (L : List ByteArray), ListL L → 1 ≤ L.length → L.length + rs.length ≤ 20 → ∃ M, foldV 3 (listX L) rs = listX M ∧ ListL M ∧ 1 ≤ M.length ∧ M.length = L.length + rs.length
  | [], L, h, h1, _ => ⟨L, rfl, h, h1, rfl⟩
  | r :: rs, L, h, h1, hl => by
    simp only [List.length_cons] at hl
    obtain ⟨-, e, -⟩ := push_does h h1 (by omega) (show (mkCmd 3 r).k = 7 from rfl) (mkCmd_fault 3 r)
    obtain ⟨ht, -⟩ := cmd_parts (mkCmd_fault 3 r)
    have hL := list_lay h (by omega) L.length ht
    rw [layAt_end] at hL
    obtain ⟨M, h2, h3, h4, h5⟩ := push_fold rs _ hL (by simp) (by simp; omega)
    refine ⟨M, ?_, h3, h4, by rw [h5]; simp; omega⟩
    show foldV 3 (doV (listX L) (mkCmd 3 r)) rs = _
    rw [e]; exact h2
theorem full_list (l : List Raw) (hl : l.length ≤ 15) : ∃ M, fullFor 3 l = listX M ∧ ListL M ∧ 1 ≤ M.length ∧ M.length ≤ 16 := by
  unfold fullFor valFor
  rw [List.take_of_length_le (by simp; omega)]
  obtain ⟨ht, -⟩ := cmd_parts (mkCmd_fault 3 litR)
  have h1 : ListL [(mkCmd 3 litR).txt] := ⟨by simp, fun a ha => by
    have e : a = (mkCmd 3 litR).txt := by simpa using ha
    rw [e]; simp [wrongI, ht]⟩
  obtain ⟨M, h2, h3, h4, h5⟩ := push_fold l _ h1 (by simp) (by simp; omega)
  refine ⟨M, ?_, h3, h4, by rw [h5]; simp; omega⟩
  show foldV 3 (doV (emptyVal 0) (mkCmd 3 litR)) l = _
  rw [push_none rfl (mkCmd_fault 3 litR)]; exact h2

abbrev cmdKT (k : Int) (t : ByteArray) : Cmd := ⟨k, ⟨#[107]⟩, ⟨#[]⟩, t, 0⟩
theorem cmdKT_fault (k : Int) (t : ByteArray) (hk : k = 7 ∨ k = 8 ∨ ((k = 9 ∨ k = 10) ∧ t = ⟨#[]⟩)) (h : t.size ≤ 20) : (cmdKT k t).fault = 0 := by
  have e1 : (⟨#[107]⟩ : ByteArray).size = 1 := by decide +kernel
  have e2 : (⟨#[]⟩ : ByteArray).toList = [] := empty_list
  have e3 : (⟨#[]⟩ : ByteArray).size = 0 := rfl
  rcases hk with rfl | rfl | ⟨rfl | rfl, rfl⟩ <;> simp [Cmd.fault, cmdFault, foreignB, partsB, hasKeyB, hasFieldB, hasTextB, hasNumberB, isNameB, isTextB, isCountB, e1, e2, e3, h]

theorem ends_acts {M : List ByteArray} (h : ListL M) (h1 : 1 ≤ M.length) (h16 : M.length ≤ 16) (t : ByteArray) (ht : t.size ≤ 9) (f : Bool) :
    ∃ M', M'.length = M.length + 1 ∧ Acts (listX M) (cmdKT (if f then 8 else 7) t) (listX M') { n := (M.length : Int) + 1 } 0 ∧ Acts (listX M') (cmdKT (if f then 10 else 9) ⟨#[]⟩) (listX M) { text := t } 0 := by
  have htx : isTextB t = true := by simp [isTextB]; omega
  cases f with
  | false =>
    refine ⟨M ++ [t], by simp, ?_, ?_⟩
    · have hf := cmdKT_fault 7 t (.inl rfl) (by omega)
      obtain ⟨a, b, c⟩ := push_does (c := cmdKT 7 t) h h1 (by omega) rfl hf
      have := acts_any (listX M) (cmdKT 7 t)
      rw [a, b, c] at this; exact this
    · have hL := list_lay h (by omega) M.length htx
      rw [layAt_end] at hL
      have hf := cmdKT_fault 9 ⟨#[]⟩ (.inr (.inr ⟨.inl rfl, rfl⟩)) (by show (0 : Nat) ≤ 20; omega)
      obtain ⟨a, b, c⟩ := pop_does (c := cmdKT 9 ⟨#[]⟩) hL h1 rfl hf
      have := acts_any (listX (M ++ [t])) (cmdKT 9 ⟨#[]⟩)
      rw [a, b, c] at this; exact this
  | true =>
    refine ⟨t :: M, by simp, ?_, ?_⟩
    · have hf := cmdKT_fault 8 t (.inr (.inl rfl)) (by omega)
      obtain ⟨a, b, c⟩ := front_does (c := cmdKT 8 t) h h1 (by omega) rfl hf
      have := acts_any (listX M) (cmdKT 8 t)
      rw [a, b, c] at this; exact this
    · have hL := list_lay h (by omega) 0 htx
      rw [layAt_front] at hL
      have hf := cmdKT_fault 10 ⟨#[]⟩ (.inr (.inr ⟨.inr rfl, rfl⟩)) (by show (0 : Nat) ≤ 20; omega)
      obtain ⟨a, b, c⟩ := shift_does (c := cmdKT 10 ⟨#[]⟩) hL h1 rfl hf
      have := acts_any (listX (t :: M)) (cmdKT 10 ⟨#[]⟩)
      rw [a, b, c] at this; exact this

theorem take_in {w : World} {a : Option Addr} {cap n : Nat} {l : List Raw} (hl : RawsAt w (.slice a l.length cap) l) (hn : n ≤ l.length) (c : Nat) (hc : n ≤ c) (hc' : c ≤ 9223372036854775807) : RawsAt w (.slice a n c) (l.take n) := by
  obtain ⟨hw, a', cap', hs, h1, h2, h3⟩ := hl
  simp only [Value.slice.injEq, true_and] at hs
  obtain ⟨rfl, rfl⟩ := hs
  refine ⟨fun d hd => hw d (List.mem_of_mem_take hd), a, c, by simp [Nat.min_eq_left hn], by simp; omega, hc', ?_⟩
  rcases h3 with rfl | ⟨b, off, ha, hb, hcl⟩
  · simp
  · refine .inr ⟨b, off, ha, hb, fun i hi c hk => ?_⟩
    have hi' : i < n ∧ i < l.length := by simp at hi; omega
    rw [List.getElem_take]; exact hcl i hi'.2 c hk

set_option maxHeartbeats 4000000 in
theorem walk0 (s : Value) (l : List Raw) (t0 : ByteArray) (f : Bool) (w : World) (hl : RawsAt w s l) (hz : l.length * 48 ≤ reachBytes) (bt : t0.size ≤ 9223372036854775807) :
    Calls Tryz.prog 16 #[s, .string t0, .bool f] w fun e w' => e = .returned (.bool true) ∧ Below w.heap.size w w' := by
  obtain ⟨a, cap, rfl, hcap, hmx⟩ : ∃ a cap, s = .slice a l.length cap ∧ l.length ≤ cap ∧ cap ≤ 9223372036854775807 := by obtain ⟨-, a, c, h, h1, h2, -⟩ := hl; exact ⟨a, c, h, h1, h2⟩
  have hF := fun n (hn : n ≤ l.length) c (hc : n ≤ c) (hc' : c ≤ 9223372036854775807) => full_any 3 (.slice a n c) (l.take n) w (by omega) (take_in hl hn c hc hc') (by simp; omega)
  have hp3 : pickedN 3 6 = 3 := by decide
  rw [hp3] at hF
  have hC := fun W => cut_any t0 9 W bt (by omega)
  have hsz := size_cut t0 9
  generalize cutB t0 9 = t at hC hsz
  have hn : min l.length 15 ≤ l.length := Nat.min_le_left _ _
  obtain ⟨M, hM, hL, h1, h16⟩ := full_list (l.take (min l.length 15)) (by simp; omega)
  obtain ⟨M', -, A1, A2⟩ := ends_acts hL h1 h16 t hsz f
  have HC : Hid (∀ W, Calls Tryz.prog 26 #[.string t0, .int .i64 9] W fun e w' => e = .returned (.string t) ∧ W = w') := hC
  have HA1 : Hid (Acts (listX M) (cmdKT (if f then 8 else 7) t) (listX M') { n := (M.length : Int) + 1 } 0) := A1
  have HA2 : Hid (Acts (listX M') (cmdKT (if f then 10 else 9) ⟨#[]⟩) (listX M) { text := t } 0) := A2
  have hFF := hF _ hn cap (by omega) hmx
  rw [hM] at hFF
  have hmin : (min (l.length : Int) 15).toNat = min l.length 15 := by omega
  rw [← hmin] at hFF
  have HF : Hid (Calls Tryz.prog 22 #[.int .i64 3, .slice a (min (l.length : Int) 15).toNat cap] w fun e w' => ∃ v, e = .returned v ∧ RepsF w.heap.size w' v (listX M) ∧ Below w.heap.size w w') := hFF
  clear A1 A2 hC hz bt hL hp3 hF hFF hmin hl hn hM
  go_enter Tryz.func16, Tryz.ntmps16
  go_wp2_with fail
  refine HF.out.mono ?_
  rintro e w1 ⟨v, rfl, hr, hB⟩
  clear HF
  obtain ⟨ps, is, ss, rfl, hv, -⟩ := hr
  obtain ⟨pa, pc, ia, ic, sa, sc, rfl, rfl, rfl, -⟩ := hv.lens
  simp only [List.length_nil] at hv ⊢
  have hm0 : 0 < M.length := by omega
  have hw1 : IntKind.i64.wrap ((M.length : Int) + 1) = (M.length : Int) + 1 := by rw [IntKind.wrap_i64]; omega
  go_wp2_with fail
  have nv := alloc_at w1 (valO 4 ⟨#[]⟩ 0 (.slice pa 0 pc) (.slice ia M.length ic) (.slice sa 0 sc))
  have hbx := balloc w1 (valO 4 ⟨#[]⟩ 0 (.slice pa 0 pc) (.slice ia M.length ic) (.slice sa 0 sc))
  replace hv := hv.below hbx
  replace hB := hB.alloc hB.size (valO 4 ⟨#[]⟩ 0 (.slice pa 0 pc) (.slice ia M.length ic) (.slice sa 0 sc))
  clear hbx
  generalize w1.alloc (valO 4 ⟨#[]⟩ 0 (.slice pa 0 pc) (.slice ia M.length ic) (.slice sa 0 sc)) = V1 at nv hv hB ⊢
  generalize w1.heap.size = bv at nv ⊢
  refine (HC.out _).mono ?_
  rintro e w2 ⟨rfl, rfl⟩
  obtain ⟨c1, f1⟩ := cellsB nv
  cases f
  · have HB1 : Hid (Acts (listX M) (cmdKT 7 t) (listX M') { n := (M.length : Int) + 1 } 0) := HA1
    have HB2 : Hid (Acts (listX M') (cmdKT 9 ⟨#[]⟩) (listX M) { text := t } 0) := HA2
    clear HA1 HA2
    go_wp2_with fail
    clear c1 f1
    have q1 := HB1.out _ _ _ _ hv
    (with_reducible refine q1.mono ?_)
    rintro e w3 ⟨pa2, pc2, ia2, ic2, sa2, sc2, la2, lc2, rfl, hv2, -, hb3⟩
    replace nv := (hb3.block _ (lt_at nv)).trans nv
    replace hv := hv.below hb3
    replace hB := bstep hB hb3
    clear hb3
    simp only [List.length_nil] at hv2 ⊢
    have hlv := lt_at nv
    go_wp2_with fail
    clear hlv
    obtain ⟨nw, na⟩ := two_new w3 (valO 4 ⟨#[]⟩ 0 (.slice pa2 0 pc2) (.slice ia2 M'.length ic2) (.slice sa2 0 sc2)) (repO 0 ⟨#[]⟩ ((M.length : Int) + 1) (.slice la2 0 lc2))
    have hbx : Below w3.heap.size w3 ((w3.alloc (valO 4 ⟨#[]⟩ 0 (.slice pa2 0 pc2) (.slice ia2 M'.length ic2) (.slice sa2 0 sc2))).alloc (repO 0 ⟨#[]⟩ ((M.length : Int) + 1) (.slice la2 0 lc2))) := (balloc _ _).alloc (by simp) _
    replace nv := (hbx.block _ (lt_at nv)).trans nv
    replace hv := hv.below hbx
    replace hv2 := hv2.below hbx
    replace hB := bstep hB hbx
    clear hbx
    generalize (w3.alloc (valO 4 ⟨#[]⟩ 0 (.slice pa2 0 pc2) (.slice ia2 M'.length ic2) (.slice sa2 0 sc2))).alloc (repO 0 ⟨#[]⟩ ((M.length : Int) + 1) (.slice la2 0 lc2)) = V3 at nw na nv hv hv2 hB ⊢
    generalize w3.heap.size = bw at nw na ⊢
    have q2 := HB2.out _ _ _ _ hv2
    (with_reducible refine q2.mono ?_)
    rintro e w4 ⟨pa3, pc3, ia3, ic3, sa3, sc3, la3, lc3, rfl, hv3, -, hb4⟩
    clear hv2
    replace nv := (hb4.block _ (lt_at nv)).trans nv
    replace na := (hb4.block _ (lt_at na)).trans na
    replace hv := hv.below hb4
    replace hB := bstep hB hb4
    clear hb4
    simp only [List.length_nil] at hv3 ⊢
    have hlv := lt_at nv
    have hla := lt_at na
    go_upto_region 10 with fail
    clear hlv hla
    obtain ⟨nx, nb⟩ := two_new w4 (valO 4 ⟨#[]⟩ 0 (.slice pa3 0 pc3) (.slice ia3 M.length ic3) (.slice sa3 0 sc3)) (repO 0 t 0 (.slice la3 0 lc3))
    have hbx : Below w4.heap.size w4 ((w4.alloc (valO 4 ⟨#[]⟩ 0 (.slice pa3 0 pc3) (.slice ia3 M.length ic3) (.slice sa3 0 sc3))).alloc (repO 0 t 0 (.slice la3 0 lc3))) := (balloc _ _).alloc (by simp) _
    replace nv := (hbx.block _ (lt_at nv)).trans nv
    replace na := (hbx.block _ (lt_at na)).trans na
    replace hv := hv.below hbx
    replace hv3 := hv3.below hbx
    replace hB := bstep hB hbx
    clear hbx
    generalize (w4.alloc (valO 4 ⟨#[]⟩ 0 (.slice pa3 0 pc3) (.slice ia3 M.length ic3) (.slice sa3 0 sc3))).alloc (repO 0 t 0 (.slice la3 0 lc3)) = V4 at nx nb nv na hv hv3 hB ⊢
    generalize w4.heap.size = bx at nx nb ⊢
    obtain ⟨c1, f1⟩ := cellsB nv
    obtain ⟨c2, f2⟩ := cellsB na
    obtain ⟨c3, f3⟩ := cellsB nx
    obtain ⟨c4, f4⟩ := cellsB nb
    have hs1 := sameValue_lists hv hv3
    go_wp2_with fail
    (with_reducible refine hs1.mono ?_)
    rintro e w5 ⟨rfl, hb5⟩
    clear c1 f1 c2 f2 c3 f3 c4 f4
    replace nv := (hb5.block _ (lt_at nv)).trans nv
    replace hB := bstep hB hb5
    clear hb5
    obtain ⟨c1, f1⟩ := cellsB nv
    go_wp2_with fail
    go_ret
    exact ⟨rfl, hB⟩
  · have HB1 : Hid (Acts (listX M) (cmdKT 8 t) (listX M') { n := (M.length : Int) + 1 } 0) := HA1
    have HB2 : Hid (Acts (listX M') (cmdKT 10 ⟨#[]⟩) (listX M) { text := t } 0) := HA2
    clear HA1 HA2
    go_wp2_with fail
    clear c1 f1
    have q1 := HB1.out _ _ _ _ hv
    (with_reducible refine q1.mono ?_)
    rintro e w3 ⟨pa2, pc2, ia2, ic2, sa2, sc2, la2, lc2, rfl, hv2, -, hb3⟩
    replace nv := (hb3.block _ (lt_at nv)).trans nv
    replace hv := hv.below hb3
    replace hB := bstep hB hb3
    clear hb3
    simp only [List.length_nil] at hv2 ⊢
    have hlv := lt_at nv
    go_wp2_with fail
    clear hlv
    obtain ⟨nw, na⟩ := two_new w3 (valO 4 ⟨#[]⟩ 0 (.slice pa2 0 pc2) (.slice ia2 M'.length ic2) (.slice sa2 0 sc2)) (repO 0 ⟨#[]⟩ ((M.length : Int) + 1) (.slice la2 0 lc2))
    have hbx : Below w3.heap.size w3 ((w3.alloc (valO 4 ⟨#[]⟩ 0 (.slice pa2 0 pc2) (.slice ia2 M'.length ic2) (.slice sa2 0 sc2))).alloc (repO 0 ⟨#[]⟩ ((M.length : Int) + 1) (.slice la2 0 lc2))) := (balloc _ _).alloc (by simp) _
    replace nv := (hbx.block _ (lt_at nv)).trans nv
    replace hv := hv.below hbx
    replace hv2 := hv2.below hbx
    replace hB := bstep hB hbx
    clear hbx
    generalize (w3.alloc (valO 4 ⟨#[]⟩ 0 (.slice pa2 0 pc2) (.slice ia2 M'.length ic2) (.slice sa2 0 sc2))).alloc (repO 0 ⟨#[]⟩ ((M.length : Int) + 1) (.slice la2 0 lc2)) = V3 at nw na nv hv hv2 hB ⊢
    generalize w3.heap.size = bw at nw na ⊢
    have q2 := HB2.out _ _ _ _ hv2
    (with_reducible refine q2.mono ?_)
    rintro e w4 ⟨pa3, pc3, ia3, ic3, sa3, sc3, la3, lc3, rfl, hv3, -, hb4⟩
    clear hv2
    replace nv := (hb4.block _ (lt_at nv)).trans nv
    replace na := (hb4.block _ (lt_at na)).trans na
    replace hv := hv.below hb4
    replace hB := bstep hB hb4
    clear hb4
    simp only [List.length_nil] at hv3 ⊢
    have hlv := lt_at nv
    have hla := lt_at na
    go_upto_region 10 with fail
    clear hlv hla
    obtain ⟨nx, nb⟩ := two_new w4 (valO 4 ⟨#[]⟩ 0 (.slice pa3 0 pc3) (.slice ia3 M.length ic3) (.slice sa3 0 sc3)) (repO 0 t 0 (.slice la3 0 lc3))
    have hbx : Below w4.heap.size w4 ((w4.alloc (valO 4 ⟨#[]⟩ 0 (.slice pa3 0 pc3) (.slice ia3 M.length ic3) (.slice sa3 0 sc3))).alloc (repO 0 t 0 (.slice la3 0 lc3))) := (balloc _ _).alloc (by simp) _
    replace nv := (hbx.block _ (lt_at nv)).trans nv
    replace na := (hbx.block _ (lt_at na)).trans na
    replace hv := hv.below hbx
    replace hv3 := hv3.below hbx
    replace hB := bstep hB hbx
    clear hbx
    generalize (w4.alloc (valO 4 ⟨#[]⟩ 0 (.slice pa3 0 pc3) (.slice ia3 M.length ic3) (.slice sa3 0 sc3))).alloc (repO 0 t 0 (.slice la3 0 lc3)) = V4 at nx nb nv na hv hv3 hB ⊢
    generalize w4.heap.size = bx at nx nb ⊢
    obtain ⟨c1, f1⟩ := cellsB nv
    obtain ⟨c2, f2⟩ := cellsB na
    obtain ⟨c3, f3⟩ := cellsB nx
    obtain ⟨c4, f4⟩ := cellsB nb
    have hs1 := sameValue_lists hv hv3
    go_wp2_with fail
    (with_reducible refine hs1.mono ?_)
    rintro e w5 ⟨rfl, hb5⟩
    clear c1 f1 c2 f2 c3 f3 c4 f4
    replace nv := (hb5.block _ (lt_at nv)).trans nv
    replace hB := bstep hB hb5
    clear hb5
    obtain ⟨c1, f1⟩ := cellsB nv
    go_wp2_with fail
    go_ret
    exact ⟨rfl, hB⟩

theorem walk (v0 v1 v2 : Value) (w : World) (h0 : IsRaws w v0) (h1 : IsString v1) (h2 : IsBool v2) :
    Calls Tryz.prog 16 #[v0, v1, v2] w fun e w' => e = .returned (.bool true) ∧ Below w.heap.size w w' := by
  obtain ⟨l, hl, hz⟩ := h0
  obtain ⟨t, rfl, ht⟩ := h1
  obtain ⟨f, rfl⟩ := h2
  exact walk0 v0 l t f w hl hz ht

theorem own : ownKnob Tryz.prog.godebug = none := by kernel_rfl
theorem laidOut : laidOutB Tryz.prog = true := by kernel_rfl

set_option maxRecDepth 100000 in
theorem lifted (os : Os) (started : os.Started) (H : Type) (enc : TypeId × Value → H) :
    ReturnsInHanded {} Tryz.checked os 16 .any (Rows.endsMeetSpec.pre6 enc Tryz.prog Tryz.f16 Rows.endsMeetRow.domain false) (Rows.endsMeetSpec.post enc Tryz.prog Tryz.f16 false true false false) := by
  refine returnsInHanded_of_change_sized (C := Tryz.checked) own started (by kernel_rfl) Tryz.func16
    (ChangeSpec.witness6 (enc := enc) (C := Tryz.checked) false ⟨#[], #[.slice none 0 0, .string ByteArray.empty, .bool false], []⟩ 8 (by kernel_rfl) (by kernel_rfl) (by kernel_rfl) (by kernel_rfl)) ?_
  intro W base args ds gs before hval0 hW hcnd hsz _
  have hval : ∀ (j : Nat) t v, Tryz.f16.params[j]? = some t → args[j]? = some v → Value.okWide Tryz.prog W .any base t v := hval0
  have hW' := hW
  obtain ⟨p, q, hA0, hV, rfl, hfz, hnd⟩ := hW
  have hA : DataW.TrodAll enc Tryz.prog W 0 (fun _ => true) true Tryz.f16.params.toList args.toList ds p := hA0
  rw [Tryz.params16] at hA hval
  obtain ⟨v0, vs0, d0, ds0, p0, q0, hargs, rfl, rfl, h0, r0⟩ := trodAll_cons hA
  obtain ⟨v1, vs1, d1, ds1, p1, q1, rfl, rfl, rfl, h1, r1⟩ := trodAll_cons r0
  obtain ⟨v2, vs2, d2, ds2, p2, q2, rfl, rfl, rfl, h2, r2⟩ := trodAll_cons r1
  obtain ⟨rfl, rfl, rfl⟩ := trodAll_nil r2
  obtain rfl : args = #[v0, v1, v2] := by cases args; simp_all
  obtain ⟨rfl, rfl⟩ := trodVars_none hV
  have lt0 : ∀ x ∈ p0, x.block < W.heap.size := by obtain ⟨m, hm⟩ := h0; exact DataW.trod_lt m _ _ _ hm
  have g0 := shape_raws (hval 0 38 v0 rfl rfl) h0 (fun n hn => of_decide_eq_true (List.all_eq_true.1 hsz n (DataW.weights_mem_each (j := 0) rfl rfl n hn)))
  have lt1 : ∀ x ∈ p1, x.block < W.heap.size := by obtain ⟨m, hm⟩ := h1; exact DataW.trod_lt m _ _ _ hm
  have g1 := shape_string (hval 1 9 v1 rfl rfl) h1
  have lt2 : ∀ x ∈ p2, x.block < W.heap.size := by obtain ⟨m, hm⟩ := h2; exact DataW.trod_lt m _ _ _ hm
  have g2 := shape_bool (hval 2 4 v2 rfl rfl) h2
  clear hA0 hval0
  refine (walk v0 v1 v2 W g0 g1 g2).mono fun e W' ⟨he, bel⟩ => ?_
  subst he
  exact ⟨_, rfl, _, _, _, [], _, [], hW', trodAll_mk1 (shut_bool Tryz.underlying4 _), (trodAll_cons_mk (Below.trod laidOut (by kernel_rfl) (of_decide_eq_true (by kernel_rfl)) h0 bel lt0) (trodAll_cons_mk (Below.trod laidOut (by kernel_rfl) (of_decide_eq_true (by kernel_rfl)) h1 bel lt1) (trodAll_cons_mk (Below.trod laidOut (by kernel_rfl) (of_decide_eq_true (by kernel_rfl)) h2 bel lt2) trodAll_mk0))), rfl, bel.frame _, fun h => by cases h⟩

theorem over : Rows.endsMeetRow.holds Tryz.pinned (OpenSpec.ofChange Rows.endsMeetSpec) :=
  OpenClaim.holds_of_wide 16 Tryz.f16 rfl rfl rfl rfl rfl rfl rfl ⟨rfl, rfl, rfl, rfl, rfl⟩ rfl rfl rfl rfl rfl (by kernel_rfl) Tryz.func16 (by kernel_rfl)
    (of_decide_eq_true (by kernel_rfl)) (by unfold Func.isWrapper; first | (rw [if_pos (by decide +kernel)]; kernel_rfl) | (rw [if_neg (by decide +kernel)]; exact ⟨rfl, rfl⟩))
    (fun os started H enc _ => lifted os started H enc)

end Go.Proofs.YtndadgjidihfeaaGreat.endsMeetDone
namespace Go.Proofs.YtndadgjidihfeaaGreat
theorem EndsMeet_holds : Rows.EndsMeetSaid := endsMeetDone.over
end Go.Proofs.YtndadgjidihfeaaGreat
