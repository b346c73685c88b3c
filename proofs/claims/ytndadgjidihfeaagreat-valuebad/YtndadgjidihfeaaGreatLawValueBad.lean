/- What a kind has not, and what is not in its order, is refused: for every kind of elements and all raw numbers the law returns true. No condition. -/
import Derived.Test.YtndadgjidihfeaaGreatFw
namespace Go.Proofs.YtndadgjidihfeaaGreat.valueBadDone
open Go.ChangeShapes Go.WideShapes Go.ChangeAt Go.RowKit
open Go.Proofs.YtndadgjidihfeaaGreat
set_option linter.unusedVariables false
set_option maxRecDepth 100000

theorem bad_acts {y : Val} {f : Int} (hn : y.none = false) (hf : y.fault = f) (h0 : f ≠ 0) : Acts y lenC (emptyVal 0) {} f := by
  have hr : refusalI y lenC = f := by unfold refusalI; rw [if_pos ⟨hn, by rw [hf]; exact h0⟩, hf]
  have := acts_any y lenC
  unfold doV doR at this
  rw [hr, if_pos h0, if_pos h0] at this
  exact this
theorem not_none {y : Val} (h : y.kind ≠ 0) : y.none = false := by simp [Val.none, noneN]; intro e; exact absurd e h
theorem fault_text {x : Val} (h1 : 3 ≤ x.kind) (h2 : x.kind ≤ 6) : Val.fault { x with text := ⟨#[120]⟩ } = 8 := by
  have e : (⟨#[120]⟩ : ByteArray).toList = [120] := by decide +kernel
  unfold Val.fault
  rw [if_neg (by simp; omega), if_pos]
  simp [Val.foreign, foreignN, e]; omega
theorem fault_count {x : Val} (h1 : 3 ≤ x.kind) (h2 : x.kind ≤ 6) : Val.fault { x with count := 1 } = 8 := by
  unfold Val.fault
  rw [if_neg (by simp; omega), if_pos]
  simp [Val.foreign, foreignN]; omega
theorem fault_kind (x : Val) : Val.fault { x with kind := 7 } = 3 := by unfold Val.fault; rw [if_pos (by simp)]
theorem fault_order : Val.fault ⟨5, ⟨#[]⟩, 0, [], [⟨#[98]⟩, ⟨#[97]⟩], []⟩ = 10 := by decide +kernel

set_option maxHeartbeats 4000000 in
theorem walk0 (kind which : Int) (s : Value) (l : List Raw) (w : World) (bk : -9223372036854775808 ≤ kind ∧ kind ≤ 9223372036854775807) (bw : -9223372036854775808 ≤ which ∧ which ≤ 9223372036854775807) (hl : RawsAt w s l) (hz : l.length * 48 ≤ reachBytes) :
    Calls Tryz.prog 14 #[.int .i64 kind, s, .int .i64 which] w fun e w' => e = .returned (.bool true) ∧ Below w.heap.size w w' := by
  have p4 := fun W => picked_any kind 4 W bk.1 bk.2 (by omega) (by omega)
  have l4 := pickedN_lt kind (show 0 < 4 by omega)
  generalize pickedN kind 4 = q at p4 l4
  have p5 := fun W => picked_any which 4 W bw.1 bw.2 (by omega) (by omega)
  have l5 := pickedN_lt which (show 0 < 4 by omega)
  generalize pickedN which 4 = r at p5 l5
  have hF := full_any (2 + (q : Int)) s l w (by omega) hl hz
  have hq : pickedN (2 + (q : Int)) 6 = 2 + q := by
    have := picked_self (2 + q) 6 (by omega)
    rw [show ((2 + q : Nat) : Int) = 2 + (q : Int) by omega] at this; exact this
  rw [hq] at hF
  obtain ⟨hok, hkd⟩ := fullFor_ok (2 + q) (by omega) l
  generalize fullFor (2 + q) l = x at hF hok hkd
  have h3 : 3 ≤ x.kind := by omega
  have h6 := hok.hi
  have hK := fun y W ps is ss (h : Lists W ps is ss y) => check_any (valV y.kind y.text y.count ps is ss) y W ⟨ps, is, ss, rfl, h⟩
  have HK : Hid (∀ W ps is ss, Lists W ps is ss x → Calls Tryz.prog 23 #[valV x.kind x.text x.count ps is ss] W fun e w' => e = .returned (.int .i64 0) ∧ Below W.heap.size W w') := by
    have := hK x; rwa [hok.fault] at this
  have HF : Hid (Calls Tryz.prog 22 #[.int .i64 (2 + (q : Int)), s] w fun e w' => ∃ v, e = .returned v ∧ RepsF w.heap.size w' v x ∧ Below w.heap.size w w') := hF
  have P4 : Hid (∀ W, Calls Tryz.prog 28 #[.int .i64 kind, .int .i64 4] W fun e w' => e = .returned (.int .i64 (q : Nat)) ∧ W = w') := p4
  have P5 : Hid (∀ W, Calls Tryz.prog 28 #[.int .i64 which, .int .i64 4] W fun e w' => e = .returned (.int .i64 (r : Nat)) ∧ W = w') := p5
  clear hF p4 p5 hok hkd hl hz hq bk bw
  go_enter Tryz.func14, Tryz.ntmps14
  go_wp2_with fail
  refine (P4.out _).mono ?_
  rintro e w0 ⟨rfl, rfl⟩
  go_wp2_with fail
  refine HF.out.mono ?_
  rintro e w1 ⟨v, rfl, hr, hB⟩
  clear HF P4
  obtain ⟨ps, is, ss, rfl, hv, -⟩ := hr
  obtain ⟨pa, pc, ia, ic, sa, sc, rfl, rfl, rfl, -⟩ := hv.lens
  go_wp2_with fail
  have nv := alloc_here w1 (valO x.kind x.text x.count (.slice pa x.pairs.length pc) (.slice ia x.items.length ic) (.slice sa x.scores.length sc))
  have hu := balloc w1 (valO x.kind x.text x.count (.slice pa x.pairs.length pc) (.slice ia x.items.length ic) (.slice sa x.scores.length sc))
  generalize w1.alloc (valO x.kind x.text x.count (.slice pa x.pairs.length pc) (.slice ia x.items.length ic) (.slice sa x.scores.length sc)) = V1 at nv hu ⊢
  have hBs := hB.size
  generalize hbv : w1.heap.size = bv at nv hu hBs ⊢
  rw [← hbv] at hu
  refine (HK.out _ _ _ _ (hv.below hu)).mono ?_
  rintro e w2 ⟨rfl, hb2⟩
  replace nv := (hb2.block _ (lt_at nv)).trans nv
  replace hu := bstep hu hb2
  clear hb2 HK
  go_wp2_with fail
  refine (P5.out _).mono ?_
  rintro e w3 ⟨rfl, rfl⟩
  clear P5
  have hr4 : r = 0 ∨ r = 1 ∨ r = 2 ∨ r = 3 := by omega
  have hlv := lt_at nv
  obtain ⟨c1, f1⟩ := cellsB nv
  have hbb : w1.heap.size ≤ bv := by omega
  rcases hr4 with rfl | rfl | rfl | rfl
  · have hf := (fault_text h3 h6)
    have hA := bad_acts (y := { x with text := ⟨#[120]⟩ }) (not_none (by simp <;> omega)) hf (by decide)
    have hC := hK { x with text := ⟨#[120]⟩ }
    rw [hf] at hC
    have HA : Hid (Acts { x with text := ⟨#[120]⟩ } lenC (emptyVal 0) {} 8) := hA
    have HC : Hid (∀ (W : World) (ps is ss : Value), Lists W ps is ss { x with text := ⟨#[120]⟩ } → Calls Tryz.prog 23 #[valV x.kind ⟨#[120]⟩ x.count ps is ss] W fun e w' => e = .returned (.int .i64 8) ∧ Below W.heap.size W w') := hC
    clear hA hC hf hK
    have nv2 : (w2.setCell ⟨bv, 1, none⟩ (.string ⟨#[120]⟩)).heap[bv]? = some (valO x.kind ⟨#[120]⟩ x.count (.slice pa x.pairs.length pc) (.slice ia x.items.length ic) (.slice sa x.scores.length sc)) := setCell_sameV (o := 1) (.string ⟨#[120]⟩) nv
    have hu2 : Below w1.heap.size w1 (w2.setCell ⟨bv, 1, none⟩ (.string ⟨#[120]⟩)) := hu.setCell hbb _
    have hs2 : (w2.setCell ⟨bv, 1, none⟩ (.string ⟨#[120]⟩)).heap.size = w2.heap.size := by simp [World.setCell]
    go_wp2_with fail
    clear c1 f1
    generalize w2.setCell ⟨bv, 1, none⟩ (.string ⟨#[120]⟩) = V2 at nv2 hu2 hs2 ⊢
    have hv2 : Lists V2 (.slice pa x.pairs.length pc) (.slice ia x.items.length ic) (.slice sa x.scores.length sc) { x with text := ⟨#[120]⟩ } := ⟨(hv.below hu2).p, (hv.below hu2).i, (hv.below hu2).s⟩
    refine (HA.out _ _ _ _ hv2).mono ?_
    rintro e w4 ⟨pa2, pc2, ia2, ic2, sa2, sc2, la2, lc2, rfl, -, -, hb4⟩
    replace nv2 := (hb4.block _ (lt_at nv2)).trans nv2
    replace hv2 := hv2.below hb4
    replace hu2 := bstep hu2 hb4
    have hlv2 := lt_at nv2
    obtain ⟨c1, f1⟩ := cellsB nv2
    simp only [emptyVal, List.length_nil]
    go_wp2_with fail
    have hx2 : Below w4.heap.size w4 ((w4.alloc (valO 0 ⟨#[]⟩ 0 (.slice pa2 0 pc2) (.slice ia2 0 ic2) (.slice sa2 0 sc2))).alloc (repO 0 ⟨#[]⟩ 0 (.slice la2 0 lc2))) := (balloc _ _).alloc (by simp) _
    refine (HC.out _ _ _ _ (hv2.below hx2)).mono ?_
    rintro e w5 ⟨rfl, hb5⟩
    go_wp2_with fail
    go_ret
    exact ⟨rfl, hB.trans ((bstep (bstep hu2 hx2) hb5).mono (by omega))⟩
  · have hf := (fault_count h3 h6)
    have hA := bad_acts (y := { x with count := 1 }) (not_none (by simp <;> omega)) hf (by decide)
    have hC := hK { x with count := 1 }
    rw [hf] at hC
    have HA : Hid (Acts { x with count := 1 } lenC (emptyVal 0) {} 8) := hA
    have HC : Hid (∀ (W : World) (ps is ss : Value), Lists W ps is ss { x with count := 1 } → Calls Tryz.prog 23 #[valV x.kind x.text 1 ps is ss] W fun e w' => e = .returned (.int .i64 8) ∧ Below W.heap.size W w') := hC
    clear hA hC hf hK
    have nv2 : (w2.setCell ⟨bv, 2, none⟩ (.int .i64 1)).heap[bv]? = some (valO x.kind x.text 1 (.slice pa x.pairs.length pc) (.slice ia x.items.length ic) (.slice sa x.scores.length sc)) := setCell_sameV (o := 2) (.int .i64 1) nv
    have hu2 : Below w1.heap.size w1 (w2.setCell ⟨bv, 2, none⟩ (.int .i64 1)) := hu.setCell hbb _
    have hs2 : (w2.setCell ⟨bv, 2, none⟩ (.int .i64 1)).heap.size = w2.heap.size := by simp [World.setCell]
    go_wp2_with fail
    clear c1 f1
    generalize w2.setCell ⟨bv, 2, none⟩ (.int .i64 1) = V2 at nv2 hu2 hs2 ⊢
    have hv2 : Lists V2 (.slice pa x.pairs.length pc) (.slice ia x.items.length ic) (.slice sa x.scores.length sc) { x with count := 1 } := ⟨(hv.below hu2).p, (hv.below hu2).i, (hv.below hu2).s⟩
    refine (HA.out _ _ _ _ hv2).mono ?_
    rintro e w4 ⟨pa2, pc2, ia2, ic2, sa2, sc2, la2, lc2, rfl, -, -, hb4⟩
    replace nv2 := (hb4.block _ (lt_at nv2)).trans nv2
    replace hv2 := hv2.below hb4
    replace hu2 := bstep hu2 hb4
    have hlv2 := lt_at nv2
    obtain ⟨c1, f1⟩ := cellsB nv2
    simp only [emptyVal, List.length_nil]
    go_wp2_with fail
    have hx2 : Below w4.heap.size w4 ((w4.alloc (valO 0 ⟨#[]⟩ 0 (.slice pa2 0 pc2) (.slice ia2 0 ic2) (.slice sa2 0 sc2))).alloc (repO 0 ⟨#[]⟩ 0 (.slice la2 0 lc2))) := (balloc _ _).alloc (by simp) _
    refine (HC.out _ _ _ _ (hv2.below hx2)).mono ?_
    rintro e w5 ⟨rfl, hb5⟩
    go_wp2_with fail
    go_ret
    exact ⟨rfl, hB.trans ((bstep (bstep hu2 hx2) hb5).mono (by omega))⟩
  · have hf := (fault_kind x)
    have hA := bad_acts (y := { x with kind := 7 }) (not_none (by simp <;> omega)) hf (by decide)
    have hC := hK { x with kind := 7 }
    rw [hf] at hC
    have HA : Hid (Acts { x with kind := 7 } lenC (emptyVal 0) {} 3) := hA
    have HC : Hid (∀ (W : World) (ps is ss : Value), Lists W ps is ss { x with kind := 7 } → Calls Tryz.prog 23 #[valV 7 x.text x.count ps is ss] W fun e w' => e = .returned (.int .i64 3) ∧ Below W.heap.size W w') := hC
    clear hA hC hf hK
    have nv2 : (w2.setCell ⟨bv, 0, none⟩ (.int .i64 7)).heap[bv]? = some (valO 7 x.text x.count (.slice pa x.pairs.length pc) (.slice ia x.items.length ic) (.slice sa x.scores.length sc)) := setCell_sameV (o := 0) (.int .i64 7) nv
    have hu2 : Below w1.heap.size w1 (w2.setCell ⟨bv, 0, none⟩ (.int .i64 7)) := hu.setCell hbb _
    have hs2 : (w2.setCell ⟨bv, 0, none⟩ (.int .i64 7)).heap.size = w2.heap.size := by simp [World.setCell]
    go_wp2_with fail
    clear c1 f1
    generalize w2.setCell ⟨bv, 0, none⟩ (.int .i64 7) = V2 at nv2 hu2 hs2 ⊢
    have hv2 : Lists V2 (.slice pa x.pairs.length pc) (.slice ia x.items.length ic) (.slice sa x.scores.length sc) { x with kind := 7 } := ⟨(hv.below hu2).p, (hv.below hu2).i, (hv.below hu2).s⟩
    refine (HA.out _ _ _ _ hv2).mono ?_
    rintro e w4 ⟨pa2, pc2, ia2, ic2, sa2, sc2, la2, lc2, rfl, -, -, hb4⟩
    replace nv2 := (hb4.block _ (lt_at nv2)).trans nv2
    replace hv2 := hv2.below hb4
    replace hu2 := bstep hu2 hb4
    have hlv2 := lt_at nv2
    obtain ⟨c1, f1⟩ := cellsB nv2
    simp only [emptyVal, List.length_nil]
    go_wp2_with fail
    have hx2 : Below w4.heap.size w4 ((w4.alloc (valO 0 ⟨#[]⟩ 0 (.slice pa2 0 pc2) (.slice ia2 0 ic2) (.slice sa2 0 sc2))).alloc (repO 0 ⟨#[]⟩ 0 (.slice la2 0 lc2))) := (balloc _ _).alloc (by simp) _
    refine (HC.out _ _ _ _ (hv2.below hx2)).mono ?_
    rintro e w5 ⟨rfl, hb5⟩
    go_wp2_with fail
    go_ret
    exact ⟨rfl, hB.trans ((bstep (bstep hu2 hx2) hb5).mono (by omega))⟩
  · have hf := fault_order
    have hA := bad_acts (not_none (by simp)) hf (by decide)
    have hC := hK ⟨5, ⟨#[]⟩, 0, [], [⟨#[98]⟩, ⟨#[97]⟩], []⟩
    rw [hf] at hC
    have HA : Hid (Acts ⟨5, ⟨#[]⟩, 0, [], [⟨#[98]⟩, ⟨#[97]⟩], []⟩ lenC (emptyVal 0) {} 10) := hA
    have HC : Hid (∀ (W : World) (ps is ss : Value), Lists W ps is ss ⟨5, ⟨#[]⟩, 0, [], [⟨#[98]⟩, ⟨#[97]⟩], []⟩ → Calls Tryz.prog 23 #[valV 5 ⟨#[]⟩ 0 ps is ss] W fun e w' => e = .returned (.int .i64 10) ∧ Below W.heap.size W w') := hC
    clear hA hC hf hK
    go_wp2_with fail
    clear c1 f1
    have nz := storedV_block (kind := 5) (text := ⟨#[]⟩) (count := 0) (ps := .slice none 0 0) (is := .slice (some ⟨w2.heap.size, 0, none⟩) 2 2) (ss := .slice none 0 0) nv
    have huz : Below w1.heap.size w1 (storedV w2 bv 5 ⟨#[]⟩ 0 (.slice none 0 0) (.slice (some ⟨w2.heap.size, 0, none⟩) 2 2) (.slice none 0 0)) := storedV_below hu hbb
    have hsz : (storedV w2 bv 5 ⟨#[]⟩ 0 (.slice none 0 0) (.slice (some ⟨w2.heap.size, 0, none⟩) 2 2) (.slice none 0 0)).heap.size = w2.heap.size := sizeV _ _ _ _ _ _ _ _
    show Calls _ _ _ ((storedV w2 bv 5 ⟨#[]⟩ 0 (.slice none 0 0) (.slice (some ⟨w2.heap.size, 0, none⟩) 2 2) (.slice none 0 0)).alloc (.cells #[.string ⟨#[98]⟩, .string ⟨#[97]⟩] 9)) _
    generalize storedV w2 bv 5 ⟨#[]⟩ 0 (.slice none 0 0) (.slice (some ⟨w2.heap.size, 0, none⟩) 2 2) (.slice none 0 0) = Z at nz huz hsz ⊢
    generalize w2.heap.size = bl at nz hsz ⊢
    subst hsz
    have hrow : RowAt 1 encI (Z.alloc (.cells #[.string ⟨#[98]⟩, .string ⟨#[97]⟩] 9)) (.slice (some ⟨Z.heap.size, 0, none⟩) 2 2) [⟨#[98]⟩, ⟨#[97]⟩] := by
      refine ⟨by simp, _, 2, rfl, by simp, by omega, .inr ⟨Z.heap.size, 0, rfl, by simp, ?_⟩⟩
      intro i hi c hc
      obtain rfl : c = 0 := by omega
      have : i = 0 ∨ i = 1 := by simp at hi; omega
      rcases this with rfl | rfl <;> simp [encI]
    have nv2 := ((balloc Z (.cells #[.string ⟨#[98]⟩, .string ⟨#[97]⟩] 9)).block _ (lt_at nz)).trans nz
    have hu2 := bstep huz (balloc Z (.cells #[.string ⟨#[98]⟩, .string ⟨#[97]⟩] 9))
    generalize Z.alloc (.cells #[.string ⟨#[98]⟩, .string ⟨#[97]⟩] 9) = V2 at hrow nv2 hu2 ⊢
    generalize Z.heap.size = bl at hrow nv2 ⊢
    have hv2 : Lists V2 (.slice none 0 0) (.slice (some ⟨bl, 0, none⟩) 2 2) (.slice none 0 0) ⟨5, ⟨#[]⟩, 0, [], [⟨#[98]⟩, ⟨#[97]⟩], []⟩ := ⟨RowAt.nil _ _ _, hrow, RowAt.nil _ _ _⟩
    refine (HA.out _ _ _ _ hv2).mono ?_
    rintro e w4 ⟨pa2, pc2, ia2, ic2, sa2, sc2, la2, lc2, rfl, -, -, hb4⟩
    replace nv2 := (hb4.block _ (lt_at nv2)).trans nv2
    replace hv2 := hv2.below hb4
    replace hu2 := bstep hu2 hb4
    have hlv2 := lt_at nv2
    obtain ⟨c1, f1⟩ := cellsB nv2
    simp only [emptyVal, List.length_nil]
    go_wp2_with fail
    have hx2 : Below w4.heap.size w4 ((w4.alloc (valO 0 ⟨#[]⟩ 0 (.slice pa2 0 pc2) (.slice ia2 0 ic2) (.slice sa2 0 sc2))).alloc (repO 0 ⟨#[]⟩ 0 (.slice la2 0 lc2))) := (balloc _ _).alloc (by simp) _
    refine (HC.out _ _ _ _ (hv2.below hx2)).mono ?_
    rintro e w5 ⟨rfl, hb5⟩
    go_wp2_with fail
    go_ret
    exact ⟨rfl, hB.trans ((bstep (bstep hu2 hx2) hb5).mono (by omega))⟩

theorem walk (v0 v1 v2 : Value) (w : World) (h0 : IsInt v0) (h1 : IsRaws w v1) (h2 : IsInt v2) :
    Calls Tryz.prog 14 #[v0, v1, v2] w fun e w' => e = .returned (.bool true) ∧ Below w.heap.size w w' := by
  obtain ⟨k, rfl, c1, c2⟩ := h0
  obtain ⟨l, hl, hz⟩ := h1
  obtain ⟨k2, rfl, c3, c4⟩ := h2
  exact walk0 k k2 v1 l w ⟨c1, c2⟩ ⟨c3, c4⟩ hl hz

theorem own : ownKnob Tryz.prog.godebug = none := by kernel_rfl
theorem laidOut : laidOutB Tryz.prog = true := by kernel_rfl

set_option maxRecDepth 100000 in
theorem lifted (os : Os) (started : os.Started) (H : Type) (enc : TypeId × Value → H) :
    ReturnsInHanded {} Tryz.checked os 14 .any (Rows.valueBadSpec.pre6 enc Tryz.prog Tryz.f14 Rows.valueBadRow.domain false) (Rows.valueBadSpec.post enc Tryz.prog Tryz.f14 false true false false) := by
  refine returnsInHanded_of_change_sized (C := Tryz.checked) own started (by kernel_rfl) Tryz.func14
    (ChangeSpec.witness6 (enc := enc) (C := Tryz.checked) false ⟨#[], #[.int .i64 0, .slice none 0 0, .int .i64 0], []⟩ 8 (by kernel_rfl) (by kernel_rfl) (by kernel_rfl) (by kernel_rfl)) ?_
  intro W base args ds gs before hval0 hW hcnd hsz _
  have hval : ∀ (j : Nat) t v, Tryz.f14.params[j]? = some t → args[j]? = some v → Value.okWide Tryz.prog W .any base t v := hval0
  have hW' := hW
  obtain ⟨p, q, hA0, hV, rfl, hfz, hnd⟩ := hW
  have hA : DataW.TrodAll enc Tryz.prog W 0 (fun _ => true) true Tryz.f14.params.toList args.toList ds p := hA0
  rw [Tryz.params14] at hA hval
  obtain ⟨v0, vs0, d0, ds0, p0, q0, hargs, rfl, rfl, h0, r0⟩ := trodAll_cons hA
  obtain ⟨v1, vs1, d1, ds1, p1, q1, rfl, rfl, rfl, h1, r1⟩ := trodAll_cons r0
  obtain ⟨v2, vs2, d2, ds2, p2, q2, rfl, rfl, rfl, h2, r2⟩ := trodAll_cons r1
  obtain ⟨rfl, rfl, rfl⟩ := trodAll_nil r2
  obtain rfl : args = #[v0, v1, v2] := by cases args; simp_all
  obtain ⟨rfl, rfl⟩ := trodVars_none hV
  have lt0 : ∀ x ∈ p0, x.block < W.heap.size := by obtain ⟨m, hm⟩ := h0; exact DataW.trod_lt m _ _ _ hm
  have g0 := shape_int (hval 0 3 v0 rfl rfl) h0
  have lt1 : ∀ x ∈ p1, x.block < W.heap.size := by obtain ⟨m, hm⟩ := h1; exact DataW.trod_lt m _ _ _ hm
  have g1 := shape_raws (hval 1 38 v1 rfl rfl) h1 (fun n hn => of_decide_eq_true (List.all_eq_true.1 hsz n (DataW.weights_mem_each (j := 1) rfl rfl n hn)))
  have lt2 : ∀ x ∈ p2, x.block < W.heap.size := by obtain ⟨m, hm⟩ := h2; exact DataW.trod_lt m _ _ _ hm
  have g2 := shape_int (hval 2 3 v2 rfl rfl) h2
  clear hA0 hval0
  refine (walk v0 v1 v2 W g0 g1 g2).mono fun e W' ⟨he, bel⟩ => ?_
  subst he
  exact ⟨_, rfl, _, _, _, [], _, [], hW', trodAll_mk1 (shut_bool Tryz.underlying4 _), (trodAll_cons_mk (Below.trod laidOut (by kernel_rfl) (of_decide_eq_true (by kernel_rfl)) h0 bel lt0) (trodAll_cons_mk (Below.trod laidOut (by kernel_rfl) (of_decide_eq_true (by kernel_rfl)) h1 bel lt1) (trodAll_cons_mk (Below.trod laidOut (by kernel_rfl) (of_decide_eq_true (by kernel_rfl)) h2 bel lt2) trodAll_mk0))), rfl, bel.frame _, fun h => by cases h⟩

theorem over : Rows.valueBadRow.holds Tryz.pinned (OpenSpec.ofChange Rows.valueBadSpec) :=
  OpenClaim.holds_of_wide 14 Tryz.f14 rfl rfl rfl rfl rfl rfl rfl ⟨rfl, rfl, rfl, rfl, rfl⟩ rfl rfl rfl rfl rfl (by kernel_rfl) Tryz.func14 (by kernel_rfl)
    (of_decide_eq_true (by kernel_rfl)) (by unfold Func.isWrapper; first | (rw [if_pos (by decide +kernel)]; kernel_rfl) | (rw [if_neg (by decide +kernel)]; exact ⟨rfl, rfl⟩))
    (fun os started H enc _ => lifted os started H enc)

end Go.Proofs.YtndadgjidihfeaaGreat.valueBadDone
namespace Go.Proofs.YtndadgjidihfeaaGreat
theorem ValueBad_holds : Rows.ValueBadSaid := valueBadDone.over
end Go.Proofs.YtndadgjidihfeaaGreat
