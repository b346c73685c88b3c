/- Whatever is done, a store may be; its time never goes back: for all steps, every step more and every time the law returns true. No condition. -/
import Derived.Test.YtfnephnecighaaaGreatSyJ
import Derived.Test.YtfnephnecighaaaGreatSs
namespace Go.Proofs.YtfnephnecighaaaGreat.storeMayDone
open Go.ChangeShapes Go.WideShapes Go.ChangeAt Go.RowKit
open Go.Proofs.YtfnephnecighaaaGreat
set_option linter.unusedVariables false
set_option maxRecDepth 100000

theorem fin_cutB {wr w3 Z : World} {B g g' m ec : Nat} {now : Int} {L : List Kv} {ea : Option Addr} {t : Value} {f : Int} (A : Aft w3 Z g g' (stoO now (.slice ea m ec)))
    (hs : RepsStF B w3 (stoV now (.slice ea m ec)) ⟨now, L⟩) (HB : Below wr.heap.size wr w3) (ht : t = .pointer (some ⟨g, 0, none⟩)) (e3 : wr.heap.size ≤ g) (e4 : wr.heap.size ≤ g') (e5 : wr.heap.size ≤ B) (e6 : (g < B ∨ w3.heap.size ≤ g) ∧ (g' < B ∨ w3.heap.size ≤ g')) :
    ∃ g ea ec, t = .pointer (some ⟨g, 0, none⟩) ∧ (Value.int .i64 f) = .int .i64 f ∧ Z.heap[g]? = some (stoO now (.slice ea m ec)) ∧ StL Z now ea m ec L ∧ Below wr.heap.size wr Z :=
  ⟨g, ea, ec, ht, rfl, A.at', (hs.same (fun k hk1 hk2 => A.kept k hk2 (by omega) (by omega)) A.size).st, A.below _ _ HB e3 e4 HB.size⟩
theorem ref_early {s : Sto} (h : OkSto s) {t : Int} (ht : isTimeB t = false) (c : Cmd) : refS s t c = 2 ∧ applyS s t c = ⟨0, []⟩ ∧ applyR s t c = {} := by
  have h0 := okSto.2 h
  have h2 : refS s t c = 2 := by rw [refS, if_neg (by simp [h0]), if_pos ht]
  exact ⟨h2, by rw [applyS, if_pos (by omega)], by rw [applyR, if_pos (by omega)]⟩

set_option maxHeartbeats 16000000 in
theorem walk0 (v : Value) (l : List Stp) (d : Stp) (n : Int) (w : World) (hl : StepsAt w v l) (hd : d.wf) (bn : -9223372036854775808 ≤ n ∧ n ≤ 9223372036854775807) :
    Calls Tryz.prog 5 #[v, .agg (encStp d).toArray, .int .i64 n] w fun e w' => e = .returned (.bool true) ∧ Below w.heap.size w w' := by
  have hst := fun W hW => store_any v l W (hl.below hW)
  have hso := storeFor_ok l
  have hPk := fun W => picked_any n 400 W bn.1 bn.2 (by omega) (by omega)
  have hp := pickedN_lt n (show 0 < 400 by omega)
  generalize pickedN n 400 = t at hPk hp
  have hMk := fun W => command_any d.r.k d.r.key d.r.fld d.r.n d.r.txt W hd.1.1 hd.1.2.1 hd.1.2.2.1 hd.1.2.2.2.1 hd.1.2.2.2.2
  have hcf := rawCmd_fault d.r
  generalize storeFor l = s at hst hso
  have hMk' : ∀ W, Calls Tryz.prog 22 #[rawV d.r.k d.r.key d.r.fld d.r.n d.r.txt] W fun e w' => e = .returned (rawCmd d.r).v ∧ Below W.heap.size W w' := hMk
  clear hMk hd
  obtain ⟨⟨dk, dkey, dfld, dn, dtxt⟩, dw⟩ := d
  simp only at hMk' hcf
  generalize rawCmd ⟨dk, dkey, dfld, dn, dtxt⟩ = c at hMk' hcf
  have hr1 := (refS_ok (s := s) (t := (t : Int)) (c := c)).2 ⟨hso, ⟨by omega, by omega⟩, hcf⟩
  have ho1 := applyS_ok (c := c) (t := (t : Int)) hr1
  have hnow : (applyS s (t : Int) c).now = max s.now (t : Int) := by rw [applyS, if_neg (by simp [hr1])]
  obtain ⟨e2, e2s, e2r⟩ := ref_early hso (t := -1) (by decide) c
  obtain ⟨e3, e3s, e3r⟩ := ref_early hso (t := 1073741825) (by decide) c
  have a1 := acts_s s (t : Int) c
  have a2 := acts_s s (-1) c
  have a3 := acts_s s 1073741825 c
  rw [hr1] at a1
  rw [e2, e2s, e2r] at a2
  rw [e3, e3s, e3r] at a3
  have hc1 := fun W v (h : RepsSt W v s) => storeCheck_any v s W h
  have hc2 := fun W v (h : RepsSt W v (applyS s (t : Int) c)) => storeCheck_any v _ W h
  rw [okSto.2 hso] at hc1
  rw [okSto.2 ho1] at hc2
  generalize applyS s (t : Int) c = y at *
  generalize applyR s (t : Int) c = r at *
  obtain ⟨now, L⟩ := s
  obtain ⟨now', L'⟩ := y
  obtain ⟨rc, rt, rn, rl⟩ := r
  obtain ⟨ck, ckey, cfld, ctxt, cn⟩ := c
  simp only at hnow
  obtain ⟨m, hm⟩ : ∃ m, L.length = m := ⟨_, rfl⟩
  obtain ⟨m', hm'⟩ : ∃ m', L'.length = m' := ⟨_, rfl⟩
  obtain ⟨q', hq'⟩ : ∃ q', rl.length = q' := ⟨_, rfl⟩
  have A1 : Hid (ActsW now L (t : Int) ck ckey cfld ctxt cn now' L' m' rc rt rn rl q' 0) := acts_w a1 hm' hq'
  have A2 : Hid (ActsW now L (-1) ck ckey cfld ctxt cn 0 [] 0 0 ⟨#[]⟩ 0 [] 0 2) := acts_w a2 rfl rfl
  have A3 : Hid (ActsW now L 1073741825 ck ckey cfld ctxt cn 0 [] 0 0 ⟨#[]⟩ 0 [] 0 2) := acts_w a3 rfl rfl
  have HST : Hid (∀ W, Below w.heap.size w W → Calls Tryz.prog 20 #[v] W fun e w' => ∃ ea ec, e = .returned (stoV now (.slice ea m ec)) ∧ StL w' now ea m ec L ∧ Below W.heap.size W w') := fun W hW => (hst W hW).mono fun e w' ⟨v', h1, h2, h3⟩ => by
    obtain ⟨ea, ec, rfl⟩ := h2.shape
    simp only [hm] at h1 h2
    exact ⟨ea, ec, h1, h2.st, h3⟩
  have HK : Hid (∀ W, Calls Tryz.prog 22 #[rawV dk dkey dfld dn dtxt] W fun e w' => e = .returned (cmdV ck ckey cfld ctxt cn) ∧ Below W.heap.size W w') := hMk'
  have HP : Hid (∀ W, Calls Tryz.prog 21 #[.int .i64 n, .int .i64 400] W fun e w' => e = .returned (.int .i64 (t : Nat)) ∧ W = w') := hPk
  have HC1 : Hid (∀ W ea ec, StL W now ea m ec L → Calls Tryz.prog 23 #[stoV now (.slice ea m ec)] W fun e w' => e = .returned (.int .i64 0) ∧ Below W.heap.size W w') := fun W ea ec h => hc1 W _ h
  have HC2 : Hid (∀ W ea ec, StL W now' ea m' ec L' → Calls Tryz.prog 23 #[stoV now' (.slice ea m' ec)] W fun e w' => e = .returned (.int .i64 0) ∧ Below W.heap.size W w') := fun W ea ec h => hc2 W _ h
  have HNOW : Hid (now' = max now (t : Int)) := hnow
  obtain ⟨-, va, vc, rfl, -⟩ := hl
  generalize l.length = lv at *
  clear hst hso hPk hMk' hcf hr1 ho1 hnow e2 e2s e2r e3 e3s e3r a1 a2 a3 hc1 hc2 hm hm' hq' bn
  show Calls Tryz.prog 5 #[.slice va lv vc, .agg #[.int .i64 dk, .int .i64 dkey, .int .i64 dfld, .int .i64 dn, .string dtxt, .int .i64 dw], .int .i64 n] w fun e w' => e = .returned (.bool true) ∧ Below w.heap.size w w'
  go_enter Tryz.func5, Tryz.ntmps5
  go_wp2_with fail
  have hB := Below.refl w.heap.size w
  have ge_b := hB.size
  have n4 := alloc_at w (.cells #[.int .i64 dk, .int .i64 dkey, .int .i64 dfld, .int .i64 dn, .string dtxt, .int .i64 dw] 50)
  have hbx := balloc w (.cells #[.int .i64 dk, .int .i64 dkey, .int .i64 dfld, .int .i64 dn, .string dtxt, .int .i64 dw] 50)
  replace hB := hB.alloc hB.size (.cells #[.int .i64 dk, .int .i64 dkey, .int .i64 dfld, .int .i64 dn, .string dtxt, .int .i64 dw] 50)
  clear hbx
  generalize w.alloc (.cells #[.int .i64 dk, .int .i64 dkey, .int .i64 dfld, .int .i64 dn, .string dtxt, .int .i64 dw] 50) = V0 at n4 hB ⊢
  generalize w.heap.size = b at n4 ge_b ⊢
  refine (HST.out _ hB).mono ?_
  rintro e w1 ⟨ea, ec, rfl, hs, hb1⟩
  replace n4 := (hb1.block _ (lt_at n4)).trans n4
  replace hB := bstep hB hb1
  clear hb1
  have l4 := lt_at n4
  go_wp2_with fail
  clear l4
  have ge_b1 := hB.size
  have n7 := alloc_at w1 (stoO now (.slice ea m ec))
  have hbx := balloc w1 (stoO now (.slice ea m ec))
  replace n4 := (hbx.block _ (lt_at n4)).trans n4
  replace hs := hs.below hbx
  replace hB := hB.alloc hB.size (stoO now (.slice ea m ec))
  clear hbx
  generalize w1.alloc (stoO now (.slice ea m ec)) = wr at n7 n4 hs hB ⊢
  generalize w1.heap.size = b1 at n7 ge_b1 ⊢
  refine (HP.out _).mono ?_
  rintro e w2 ⟨rfl, rfl⟩
  obtain ⟨c7, f7⟩ := cellsB n7
  obtain ⟨c4, f4⟩ := cellsB n4
  have hb1w := lt_at n7
  have hbw := lt_at n4
  obtain ⟨s0, s1⟩ : wr.cell? ⟨b1, 0, none⟩ = some (.int .i64 now) ∧ wr.cell? ⟨b1, 1, none⟩ = some (.slice ea m ec) := ⟨c7 0, c7 1⟩
  obtain ⟨x0, x1, x2, x3, x4⟩ : wr.cell? ⟨b, 0, none⟩ = some (.int .i64 dk) ∧ wr.cell? ⟨b, 1, none⟩ = some (.int .i64 dkey) ∧ wr.cell? ⟨b, 2, none⟩ = some (.int .i64 dfld) ∧ wr.cell? ⟨b, 3, none⟩ = some (.int .i64 dn) ∧ wr.cell? ⟨b, 4, none⟩ = some (.string dtxt) := ⟨c4 0, c4 1, c4 2, c4 3, c4 4⟩
  have HD : Hid (∀ W, Below wr.heap.size wr W → Calls Tryz.prog 17 #[stoV now (.slice ea m ec), .int .i64 (t : Int), cmdV ck ckey cfld ctxt cn] W fun e w' => ∃ ea' ec' la q lc, e = .returned (.tuple #[stoV (now') (.slice ea' m' ec'), repV rc rt rn (.slice la q lc), .int .i64 0]) ∧ RepsStF W.heap.size w' (stoV (now') (.slice ea' m' ec')) ⟨now', L'⟩ ∧ Below W.heap.size W w') := fun W hW =>
    (A1.out W _ _ _ (hs.below hW)).mono fun e w' ⟨ea', ec', la, lc, h1, h2, h3, h4, h5⟩ => ⟨ea', ec', la, _, lc, h1, h3, h5⟩
  have HW : Hid (wr.heap[b1]? = some (stoO now (.slice ea m ec)) ∧ wr.heap[b]? = some (.cells #[.int .i64 dk, .int .i64 dkey, .int .i64 dfld, .int .i64 dn, .string dtxt, .int .i64 dw] 50 (0, 0)) ∧ StL wr now ea m ec L ∧ Below w.heap.size w wr) := ⟨n7, n4, hs, hB⟩
  clear c7 c4 n7 n4 hs hB
  go_upto_region 3 with fail
  go_cut [9, 11] (fun sp se wx => ∃ g ea' ec', sp = .pointer (some ⟨g, 0, none⟩) ∧ se = .int .i64 0 ∧ wx.heap[g]? = some (stoO (now') (.slice ea' m' ec')) ∧ StL wx (now') ea' m' ec' (L') ∧ Below wr.heap.size wr wx)
  case first =>
      go_region_held3 (fun w' => w'.cell? ⟨b1, 0, none⟩ = some (.int .i64 now) ∧ w'.cell? ⟨b1, 1, none⟩ = some (.slice ea m ec) ∧ w'.cell? ⟨b, 0, none⟩ = some (.int .i64 dk) ∧ w'.cell? ⟨b, 1, none⟩ = some (.int .i64 dkey) ∧ w'.cell? ⟨b, 2, none⟩ = some (.int .i64 dfld) ∧ w'.cell? ⟨b, 3, none⟩ = some (.int .i64 dn) ∧ w'.cell? ⟨b, 4, none⟩ = some (.string dtxt)) (go_keep) (first
        | (go_at_call 22; refine (HK.out _).mono ?_; rintro e w2 ⟨rfl, hb2⟩; (first
            | (have u2 : Below wr.heap.size wr w2 := (by with_reducible exact bstep (Below.refl _ _).drew hb2); have t0 : (7 : Nat) < 8 := (by decide))
            | (have u2 : Below wr.heap.size wr w2 := (by with_reducible exact bstep (balloc _ _).drew hb2); have m7 := boxD1 hb2; have sz2 := sizeD1 hb2; have t0 : (7 : Nat) < 9 := (by decide))
            | (have u2 : Below wr.heap.size wr w2 := (by with_reducible exact bstep ((balloc _ _).alloc (Nat.le_of_lt (size_a1 _ _)) _).drew hb2); obtain ⟨m7, m8⟩ := boxD2 hb2; have sz2 := sizeD2 hb2; have t0 : (7 : Nat) < 10 := (by decide))); obtain ⟨e1, e2⟩ := same_block (u2.block b1 hb1w); obtain ⟨e3, e4⟩ := same_block (u2.block b hbw))
        | (go_at_call 17; (first
            | (with_reducible refine (HD.out _ (((u2.alloc u2.size _).alloc (Nat.le_trans u2.size (Nat.le_of_lt (size_a1 _ _))) _))).mono ?_; rintro e w3 ⟨ea', ec', la, q, lc, rfl, hv', hb3⟩; have u3 : Below wr.heap.size wr w3 := (by with_reducible exact bstep ((u2.alloc u2.size _).alloc (Nat.le_trans u2.size (Nat.le_of_lt (size_a1 _ _))) _) hb3); have hv2 : RepsStF (w2.heap.size + 2) w3 (stoV (now') (.slice ea' m' ec')) ⟨now', L'⟩ := hv'.mono (by simp); have t1 : (7 : Nat) < 8 := (by assumption); obtain ⟨m9, m10⟩ := boxA2 hb3; obtain ⟨p1, p2⟩ := block_cells m9; obtain ⟨p3, p4⟩ := block_cells m10; have s3 := sizeA2 hb3; have z3 := u3.size; have z2 := u2.size; have y1 : ¬ b1 = w2.heap.size := (by omega); have x1 : ¬ w2.heap.size = b1 := (by omega); have y2 : ¬ b1 = (w2.heap.size + 1) := (by omega); have x2 : ¬ (w2.heap.size + 1) = b1 := (by omega); have y3 : ¬ b = w2.heap.size := (by omega); have x3 : ¬ w2.heap.size = b := (by omega); have y4 : ¬ b = (w2.heap.size + 1) := (by omega); have x4 : ¬ (w2.heap.size + 1) = b := (by omega); have y5 : ¬ w2.heap.size = (w2.heap.size + 1) := (by omega); have x5 : ¬ (w2.heap.size + 1) = w2.heap.size := (by omega))
            | (with_reducible refine (HD.out _ ((u2.alloc u2.size _))).mono ?_; rintro e w3 ⟨ea', ec', la, q, lc, rfl, hv', hb3⟩; have u3 : Below wr.heap.size wr w3 := (by with_reducible exact bstep (u2.alloc u2.size _) hb3); have hv2 : RepsStF (w2.heap.size + 1) w3 (stoV (now') (.slice ea' m' ec')) ⟨now', L'⟩ := hv'.mono (by simp); have t1 : (7 : Nat) < 8 := (by assumption); have m9 := boxA1 hb3; obtain ⟨p1, p2⟩ := block_cells m9; have s3 := sizeA1 hb3; have z3 := u3.size; have z2 := u2.size; have y1 : ¬ b1 = w2.heap.size := (by omega); have x1 : ¬ w2.heap.size = b1 := (by omega); have y2 : ¬ b1 = w3.heap.size := (by omega); have x2 : ¬ w3.heap.size = b1 := (by omega); have y3 : ¬ b = w2.heap.size := (by omega); have x3 : ¬ w2.heap.size = b := (by omega); have y4 : ¬ b = w3.heap.size := (by omega); have x4 : ¬ w3.heap.size = b := (by omega); have y5 : ¬ w2.heap.size = w3.heap.size := (by omega); have x5 : ¬ w3.heap.size = w2.heap.size := (by omega))
            | (with_reducible refine (HD.out _ ((u2))).mono ?_; rintro e w3 ⟨ea', ec', la, q, lc, rfl, hv', hb3⟩; have u3 : Below wr.heap.size wr w3 := (by with_reducible exact bstep (u2) hb3); have hv2 : RepsStF (w2.heap.size) w3 (stoV (now') (.slice ea' m' ec')) ⟨now', L'⟩ := hv'.mono (by simp); have t1 : (7 : Nat) < 8 := (by assumption); have s3 := hb3.size; have z3 := u3.size; have z2 := u2.size; have y1 : ¬ b1 = w3.heap.size := (by omega); have x1 : ¬ w3.heap.size = b1 := (by omega); have y2 : ¬ b1 = (w3.heap.size + 1) := (by omega); have x2 : ¬ (w3.heap.size + 1) = b1 := (by omega); have y3 : ¬ b = w3.heap.size := (by omega); have x3 : ¬ w3.heap.size = b := (by omega); have y4 : ¬ b = (w3.heap.size + 1) := (by omega); have x4 : ¬ (w3.heap.size + 1) = b := (by omega); have y5 : ¬ w3.heap.size = (w3.heap.size + 1) := (by omega); have x5 : ¬ (w3.heap.size + 1) = w3.heap.size := (by omega))
            | (with_reducible refine (HD.out _ ((u2))).mono ?_; rintro e w3 ⟨ea', ec', la, q, lc, rfl, hv', hb3⟩; have u3 : Below wr.heap.size wr w3 := (by with_reducible exact bstep (u2) hb3); have hv2 : RepsStF (w2.heap.size) w3 (stoV (now') (.slice ea' m' ec')) ⟨now', L'⟩ := hv'.mono (by simp); have t1 : (7 : Nat) < 10 := (by assumption); have ux := hb3; have m7' := ((ux.block wr.heap.size (by omega)).trans m7); obtain ⟨p1, p2⟩ := block_cells m7'; have l7 : wr.heap.size < w3.heap.size := lt_heap m7'; have m8' := ((ux.block (wr.heap.size + 1) (by omega)).trans m8); obtain ⟨p3, p4⟩ := block_cells m8'; have l8 : wr.heap.size + 1 < w3.heap.size := lt_heap m8'; have z3 := u3.size; have z2 := u2.size; have y1 : ¬ b1 = wr.heap.size := (by omega); have x1 : ¬ wr.heap.size = b1 := (by omega); have y2 : ¬ b1 = (wr.heap.size + 1) := (by omega); have x2 : ¬ (wr.heap.size + 1) = b1 := (by omega); have y3 : ¬ b = wr.heap.size := (by omega); have x3 : ¬ wr.heap.size = b := (by omega); have y4 : ¬ b = (wr.heap.size + 1) := (by omega); have x4 : ¬ (wr.heap.size + 1) = b := (by omega); have y5 : ¬ wr.heap.size = (wr.heap.size + 1) := (by omega); have x5 : ¬ (wr.heap.size + 1) = wr.heap.size := (by omega))
            | (with_reducible refine (HD.out _ ((u2.alloc u2.size _))).mono ?_; rintro e w3 ⟨ea', ec', la, q, lc, rfl, hv', hb3⟩; have u3 : Below wr.heap.size wr w3 := (by with_reducible exact bstep (u2.alloc u2.size _) hb3); have hv2 : RepsStF (w2.heap.size + 1) w3 (stoV (now') (.slice ea' m' ec')) ⟨now', L'⟩ := hv'.mono (by simp); have t1 : (7 : Nat) < 9 := (by assumption); have ux := bstep (balloc w2 _) hb3; have m9 := boxA1 hb3; obtain ⟨p3, p4⟩ := block_cells m9; have s3 := sizeA1 hb3; have m7' := ((ux.block wr.heap.size (by omega)).trans m7); obtain ⟨p1, p2⟩ := block_cells m7'; have l7 : wr.heap.size < w3.heap.size := lt_heap m7'; have z3 := u3.size; have z2 := u2.size; have y1 : ¬ b1 = wr.heap.size := (by omega); have x1 : ¬ wr.heap.size = b1 := (by omega); have y2 : ¬ b1 = w2.heap.size := (by omega); have x2 : ¬ w2.heap.size = b1 := (by omega); have y3 : ¬ b = wr.heap.size := (by omega); have x3 : ¬ wr.heap.size = b := (by omega); have y4 : ¬ b = w2.heap.size := (by omega); have x4 : ¬ w2.heap.size = b := (by omega); have y5 : ¬ wr.heap.size = w2.heap.size := (by omega); have x5 : ¬ w2.heap.size = wr.heap.size := (by omega))
            | (with_reducible refine (HD.out _ ((u2))).mono ?_; rintro e w3 ⟨ea', ec', la, q, lc, rfl, hv', hb3⟩; have u3 : Below wr.heap.size wr w3 := (by with_reducible exact bstep (u2) hb3); have hv2 : RepsStF (w2.heap.size) w3 (stoV (now') (.slice ea' m' ec')) ⟨now', L'⟩ := hv'.mono (by simp); have t1 : (7 : Nat) < 9 := (by assumption); have ux := hb3; have s3 := hb3.size; have m7' := ((ux.block wr.heap.size (by omega)).trans m7); obtain ⟨p1, p2⟩ := block_cells m7'; have l7 : wr.heap.size < w3.heap.size := lt_heap m7'; have z3 := u3.size; have z2 := u2.size; have y1 : ¬ b1 = wr.heap.size := (by omega); have x1 : ¬ wr.heap.size = b1 := (by omega); have y2 : ¬ b1 = w3.heap.size := (by omega); have x2 : ¬ w3.heap.size = b1 := (by omega); have y3 : ¬ b = wr.heap.size := (by omega); have x3 : ¬ wr.heap.size = b := (by omega); have y4 : ¬ b = w3.heap.size := (by omega); have x4 : ¬ w3.heap.size = b := (by omega); have y5 : ¬ wr.heap.size = w3.heap.size := (by omega); have x5 : ¬ w3.heap.size = wr.heap.size := (by omega))); obtain ⟨e5, e6⟩ := same_block (u3.block b1 hb1w); obtain ⟨e7, e8⟩ := same_block (u3.block b hbw)))
      all_goals
        go_wp2_with fail
        go_meet
        with_reducible refine fin_cutB (g' := ?_) ?_ hv2 u3 rfl ?_ ?_ ?_ ?_
        any_goals first
            | with_reducible exact aft1 _ _ _
            | with_reducible exact aft2 _ _ _
            | ((with_reducible refine aft4S ?_ ?_) <;> (first | assumption | omega))
            | ((with_reducible refine aft3S _ ?_) <;> assumption)
            | ((with_reducible refine aft5 _ ?_) <;> omega)
        all_goals omega
  case rest =>
    obtain ⟨bu, eu, euc, rfl, rfl, nu, hu, hbx⟩ := hcut
    have n7 := (hbx.block _ hb1w).trans HW.out.1
    have n4 := (hbx.block _ hbw).trans HW.out.2.1
    have hs := HW.out.2.2.1.below hbx
    have hB := bstep HW.out.2.2.2 hbx
    clear HW hbx HD hb1w hbw s0 s1 x0 x1 x2 x3 x4 f7 f4
    obtain ⟨c7, f7⟩ := cellsB n7
    obtain ⟨c4, f4⟩ := cellsB n4
    have hb1w := lt_at n7
    have hbw := lt_at n4
    obtain ⟨s0, s1⟩ : wc.cell? ⟨b1, 0, none⟩ = some (.int .i64 now) ∧ wc.cell? ⟨b1, 1, none⟩ = some (.slice ea m ec) := ⟨c7 0, c7 1⟩
    obtain ⟨x0, x1, x2, x3, x4⟩ : wc.cell? ⟨b, 0, none⟩ = some (.int .i64 dk) ∧ wc.cell? ⟨b, 1, none⟩ = some (.int .i64 dkey) ∧ wc.cell? ⟨b, 2, none⟩ = some (.int .i64 dfld) ∧ wc.cell? ⟨b, 3, none⟩ = some (.int .i64 dn) ∧ wc.cell? ⟨b, 4, none⟩ = some (.string dtxt) := ⟨c4 0, c4 1, c4 2, c4 3, c4 4⟩
    have HD : Hid (∀ W, Below wc.heap.size wc W → Calls Tryz.prog 17 #[stoV now (.slice ea m ec), .int .i64 (-1), cmdV ck ckey cfld ctxt cn] W fun e w' => ∃ ea' ec' la q lc, e = .returned (.tuple #[stoV (0) (.slice ea' 0 ec'), repV 0 ⟨#[]⟩ 0 (.slice la q lc), .int .i64 2]) ∧ RepsStF W.heap.size w' (stoV (0) (.slice ea' 0 ec')) ⟨0, []⟩ ∧ Below W.heap.size W w') := fun W hW =>
      (A2.out W _ _ _ (hs.below hW)).mono fun e w' ⟨ea', ec', la, lc, h1, h2, h3, h4, h5⟩ => ⟨ea', ec', la, _, lc, h1, h3, h5⟩
    have HW : Hid (wc.heap[b1]? = some (stoO now (.slice ea m ec)) ∧ wc.heap[b]? = some (.cells #[.int .i64 dk, .int .i64 dkey, .int .i64 dfld, .int .i64 dn, .string dtxt, .int .i64 dw] 50 (0, 0)) ∧ StL wc now ea m ec L ∧ Below w.heap.size w wc ∧ wc.heap[bu]? = some (stoO now' (.slice eu m' euc)) ∧ StL wc now' eu m' euc L') := ⟨n7, n4, hs, hB, nu, hu⟩
    clear c7 c4 n7 n4 hs hB nu hu
    go_upto_region 4 with fail
    go_cut [12, 14] (fun sp se wx => ∃ g ea' ec', sp = .pointer (some ⟨g, 0, none⟩) ∧ se = .int .i64 2 ∧ wx.heap[g]? = some (stoO (0) (.slice ea' 0 ec')) ∧ StL wx (0) ea' 0 ec' ([]) ∧ Below wc.heap.size wc wx)
    case first =>
        go_region_held3 (fun w' => w'.cell? ⟨b1, 0, none⟩ = some (.int .i64 now) ∧ w'.cell? ⟨b1, 1, none⟩ = some (.slice ea m ec) ∧ w'.cell? ⟨b, 0, none⟩ = some (.int .i64 dk) ∧ w'.cell? ⟨b, 1, none⟩ = some (.int .i64 dkey) ∧ w'.cell? ⟨b, 2, none⟩ = some (.int .i64 dfld) ∧ w'.cell? ⟨b, 3, none⟩ = some (.int .i64 dn) ∧ w'.cell? ⟨b, 4, none⟩ = some (.string dtxt)) (go_keep) (first
          | (go_at_call 22; refine (HK.out _).mono ?_; rintro e w2 ⟨rfl, hb2⟩; (first
              | (have u2 : Below wc.heap.size wc w2 := (by with_reducible exact bstep (Below.refl _ _).drew hb2); have t0 : (7 : Nat) < 8 := (by decide))
              | (have u2 : Below wc.heap.size wc w2 := (by with_reducible exact bstep (balloc _ _).drew hb2); have m7 := boxD1 hb2; have sz2 := sizeD1 hb2; have t0 : (7 : Nat) < 9 := (by decide))
              | (have u2 : Below wc.heap.size wc w2 := (by with_reducible exact bstep ((balloc _ _).alloc (Nat.le_of_lt (size_a1 _ _)) _).drew hb2); obtain ⟨m7, m8⟩ := boxD2 hb2; have sz2 := sizeD2 hb2; have t0 : (7 : Nat) < 10 := (by decide))); obtain ⟨e1, e2⟩ := same_block (u2.block b1 hb1w); obtain ⟨e3, e4⟩ := same_block (u2.block b hbw))
          | (go_at_call 17; (first
              | (with_reducible refine (HD.out _ (((u2.alloc u2.size _).alloc (Nat.le_trans u2.size (Nat.le_of_lt (size_a1 _ _))) _))).mono ?_; rintro e w3 ⟨ea', ec', la, q, lc, rfl, hv', hb3⟩; have u3 : Below wc.heap.size wc w3 := (by with_reducible exact bstep ((u2.alloc u2.size _).alloc (Nat.le_trans u2.size (Nat.le_of_lt (size_a1 _ _))) _) hb3); have hv2 : RepsStF (w2.heap.size + 2) w3 (stoV (0) (.slice ea' 0 ec')) ⟨0, []⟩ := hv'.mono (by simp); have t1 : (7 : Nat) < 8 := (by assumption); obtain ⟨m9, m10⟩ := boxA2 hb3; obtain ⟨p1, p2⟩ := block_cells m9; obtain ⟨p3, p4⟩ := block_cells m10; have s3 := sizeA2 hb3; have z3 := u3.size; have z2 := u2.size; have y1 : ¬ b1 = w2.heap.size := (by omega); have x1 : ¬ w2.heap.size = b1 := (by omega); have y2 : ¬ b1 = (w2.heap.size + 1) := (by omega); have x2 : ¬ (w2.heap.size + 1) = b1 := (by omega); have y3 : ¬ b = w2.heap.size := (by omega); have x3 : ¬ w2.heap.size = b := (by omega); have y4 : ¬ b = (w2.heap.size + 1) := (by omega); have x4 : ¬ (w2.heap.size + 1) = b := (by omega); have y5 : ¬ w2.heap.size = (w2.heap.size + 1) := (by omega); have x5 : ¬ (w2.heap.size + 1) = w2.heap.size := (by omega))
              | (with_reducible refine (HD.out _ ((u2.alloc u2.size _))).mono ?_; rintro e w3 ⟨ea', ec', la, q, lc, rfl, hv', hb3⟩; have u3 : Below wc.heap.size wc w3 := (by with_reducible exact bstep (u2.alloc u2.size _) hb3); have hv2 : RepsStF (w2.heap.size + 1) w3 (stoV (0) (.slice ea' 0 ec')) ⟨0, []⟩ := hv'.mono (by simp); have t1 : (7 : Nat) < 8 := (by assumption); have m9 := boxA1 hb3; obtain ⟨p1, p2⟩ := block_cells m9; have s3 := sizeA1 hb3; have z3 := u3.size; have z2 := u2.size; have y1 : ¬ b1 = w2.heap.size := (by omega); have x1 : ¬ w2.heap.size = b1 := (by omega); have y2 : ¬ b1 = w3.heap.size := (by omega); have x2 : ¬ w3.heap.size = b1 := (by omega); have y3 : ¬ b = w2.heap.size := (by omega); have x3 : ¬ w2.heap.size = b := (by omega); have y4 : ¬ b = w3.heap.size := (by omega); have x4 : ¬ w3.heap.size = b := (by omega); have y5 : ¬ w2.heap.size = w3.heap.size := (by omega); have x5 : ¬ w3.heap.size = w2.heap.size := (by omega))
              | (with_reducible refine (HD.out _ ((u2))).mono ?_; rintro e w3 ⟨ea', ec', la, q, lc, rfl, hv', hb3⟩; have u3 : Below wc.heap.size wc w3 := (by with_reducible exact bstep (u2) hb3); have hv2 : RepsStF (w2.heap.size) w3 (stoV (0) (.slice ea' 0 ec')) ⟨0, []⟩ := hv'.mono (by simp); have t1 : (7 : Nat) < 8 := (by assumption); have s3 := hb3.size; have z3 := u3.size; have z2 := u2.size; have y1 : ¬ b1 = w3.heap.size := (by omega); have x1 : ¬ w3.heap.size = b1 := (by omega); have y2 : ¬ b1 = (w3.heap.size + 1) := (by omega); have x2 : ¬ (w3.heap.size + 1) = b1 := (by omega); have y3 : ¬ b = w3.heap.size := (by omega); have x3 : ¬ w3.heap.size = b := (by omega); have y4 : ¬ b = (w3.heap.size + 1) := (by omega); have x4 : ¬ (w3.heap.size + 1) = b := (by omega); have y5 : ¬ w3.heap.size = (w3.heap.size + 1) := (by omega); have x5 : ¬ (w3.heap.size + 1) = w3.heap.size := (by omega))
              | (with_reducible refine (HD.out _ ((u2))).mono ?_; rintro e w3 ⟨ea', ec', la, q, lc, rfl, hv', hb3⟩; have u3 : Below wc.heap.size wc w3 := (by with_reducible exact bstep (u2) hb3); have hv2 : RepsStF (w2.heap.size) w3 (stoV (0) (.slice ea' 0 ec')) ⟨0, []⟩ := hv'.mono (by simp); have t1 : (7 : Nat) < 10 := (by assumption); have ux := hb3; have m7' := ((ux.block wc.heap.size (by omega)).trans m7); obtain ⟨p1, p2⟩ := block_cells m7'; have l7 : wc.heap.size < w3.heap.size := lt_heap m7'; have m8' := ((ux.block (wc.heap.size + 1) (by omega)).trans m8); obtain ⟨p3, p4⟩ := block_cells m8'; have l8 : wc.heap.size + 1 < w3.heap.size := lt_heap m8'; have z3 := u3.size; have z2 := u2.size; have y1 : ¬ b1 = wc.heap.size := (by omega); have x1 : ¬ wc.heap.size = b1 := (by omega); have y2 : ¬ b1 = (wc.heap.size + 1) := (by omega); have x2 : ¬ (wc.heap.size + 1) = b1 := (by omega); have y3 : ¬ b = wc.heap.size := (by omega); have x3 : ¬ wc.heap.size = b := (by omega); have y4 : ¬ b = (wc.heap.size + 1) := (by omega); have x4 : ¬ (wc.heap.size + 1) = b := (by omega); have y5 : ¬ wc.heap.size = (wc.heap.size + 1) := (by omega); have x5 : ¬ (wc.heap.size + 1) = wc.heap.size := (by omega))
              | (with_reducible refine (HD.out _ ((u2.alloc u2.size _))).mono ?_; rintro e w3 ⟨ea', ec', la, q, lc, rfl, hv', hb3⟩; have u3 : Below wc.heap.size wc w3 := (by with_reducible exact bstep (u2.alloc u2.size _) hb3); have hv2 : RepsStF (w2.heap.size + 1) w3 (stoV (0) (.slice ea' 0 ec')) ⟨0, []⟩ := hv'.mono (by simp); have t1 : (7 : Nat) < 9 := (by assumption); have ux := bstep (balloc w2 _) hb3; have m9 := boxA1 hb3; obtain ⟨p3, p4⟩ := block_cells m9; have s3 := sizeA1 hb3; have m7' := ((ux.block wc.heap.size (by omega)).trans m7); obtain ⟨p1, p2⟩ := block_cells m7'; have l7 : wc.heap.size < w3.heap.size := lt_heap m7'; have z3 := u3.size; have z2 := u2.size; have y1 : ¬ b1 = wc.heap.size := (by omega); have x1 : ¬ wc.heap.size = b1 := (by omega); have y2 : ¬ b1 = w2.heap.size := (by omega); have x2 : ¬ w2.heap.size = b1 := (by omega); have y3 : ¬ b = wc.heap.size := (by omega); have x3 : ¬ wc.heap.size = b := (by omega); have y4 : ¬ b = w2.heap.size := (by omega); have x4 : ¬ w2.heap.size = b := (by omega); have y5 : ¬ wc.heap.size = w2.heap.size := (by omega); have x5 : ¬ w2.heap.size = wc.heap.size := (by omega))
              | (with_reducible refine (HD.out _ ((u2))).mono ?_; rintro e w3 ⟨ea', ec', la, q, lc, rfl, hv', hb3⟩; have u3 : Below wc.heap.size wc w3 := (by with_reducible exact bstep (u2) hb3); have hv2 : RepsStF (w2.heap.size) w3 (stoV (0) (.slice ea' 0 ec')) ⟨0, []⟩ := hv'.mono (by simp); have t1 : (7 : Nat) < 9 := (by assumption); have ux := hb3; have s3 := hb3.size; have m7' := ((ux.block wc.heap.size (by omega)).trans m7); obtain ⟨p1, p2⟩ := block_cells m7'; have l7 : wc.heap.size < w3.heap.size := lt_heap m7'; have z3 := u3.size; have z2 := u2.size; have y1 : ¬ b1 = wc.heap.size := (by omega); have x1 : ¬ wc.heap.size = b1 := (by omega); have y2 : ¬ b1 = w3.heap.size := (by omega); have x2 : ¬ w3.heap.size = b1 := (by omega); have y3 : ¬ b = wc.heap.size := (by omega); have x3 : ¬ wc.heap.size = b := (by omega); have y4 : ¬ b = w3.heap.size := (by omega); have x4 : ¬ w3.heap.size = b := (by omega); have y5 : ¬ wc.heap.size = w3.heap.size := (by omega); have x5 : ¬ w3.heap.size = wc.heap.size := (by omega))); obtain ⟨e5, e6⟩ := same_block (u3.block b1 hb1w); obtain ⟨e7, e8⟩ := same_block (u3.block b hbw)))
        all_goals
          go_wp2_with fail
          go_meet
          with_reducible refine fin_cutB (g' := ?_) ?_ hv2 u3 rfl ?_ ?_ ?_ ?_
          any_goals first
              | with_reducible exact aft1 _ _ _
              | with_reducible exact aft2 _ _ _
              | ((with_reducible refine aft4S ?_ ?_) <;> (first | assumption | omega))
              | ((with_reducible refine aft3S _ ?_) <;> assumption)
              | ((with_reducible refine aft5 _ ?_) <;> omega)
          all_goals omega
    case rest =>
      obtain ⟨g2, e2, c2, rfl, rfl, n2, h2, hbx⟩ := hcut
      have n7 := (hbx.block _ hb1w).trans HW.out.1
      have n4 := (hbx.block _ hbw).trans HW.out.2.1
      have hs := HW.out.2.2.1.below hbx
      have hB := bstep HW.out.2.2.2.1 hbx
      have nu := (hbx.block _ (lt_at HW.out.2.2.2.2.1)).trans HW.out.2.2.2.2.1
      have hu := HW.out.2.2.2.2.2.below hbx
      clear n2 h2
      clear HW hbx HD hb1w hbw s0 s1 x0 x1 x2 x3 x4 f7 f4
      obtain ⟨c7, f7⟩ := cellsB n7
      obtain ⟨c4, f4⟩ := cellsB n4
      have hb1w := lt_at n7
      have hbw := lt_at n4
      obtain ⟨s0, s1⟩ : wc.cell? ⟨b1, 0, none⟩ = some (.int .i64 now) ∧ wc.cell? ⟨b1, 1, none⟩ = some (.slice ea m ec) := ⟨c7 0, c7 1⟩
      obtain ⟨x0, x1, x2, x3, x4⟩ : wc.cell? ⟨b, 0, none⟩ = some (.int .i64 dk) ∧ wc.cell? ⟨b, 1, none⟩ = some (.int .i64 dkey) ∧ wc.cell? ⟨b, 2, none⟩ = some (.int .i64 dfld) ∧ wc.cell? ⟨b, 3, none⟩ = some (.int .i64 dn) ∧ wc.cell? ⟨b, 4, none⟩ = some (.string dtxt) := ⟨c4 0, c4 1, c4 2, c4 3, c4 4⟩
      have HD : Hid (∀ W, Below wc.heap.size wc W → Calls Tryz.prog 17 #[stoV now (.slice ea m ec), .int .i64 1073741825, cmdV ck ckey cfld ctxt cn] W fun e w' => ∃ ea' ec' la q lc, e = .returned (.tuple #[stoV (0) (.slice ea' 0 ec'), repV 0 ⟨#[]⟩ 0 (.slice la q lc), .int .i64 2]) ∧ RepsStF W.heap.size w' (stoV (0) (.slice ea' 0 ec')) ⟨0, []⟩ ∧ Below W.heap.size W w') := fun W hW =>
        (A3.out W _ _ _ (hs.below hW)).mono fun e w' ⟨ea', ec', la, lc, h1, h2, h3, h4, h5⟩ => ⟨ea', ec', la, _, lc, h1, h3, h5⟩
      have HW : Hid (wc.heap[b1]? = some (stoO now (.slice ea m ec)) ∧ wc.heap[b]? = some (.cells #[.int .i64 dk, .int .i64 dkey, .int .i64 dfld, .int .i64 dn, .string dtxt, .int .i64 dw] 50 (0, 0)) ∧ StL wc now ea m ec L ∧ Below w.heap.size w wc ∧ wc.heap[bu]? = some (stoO now' (.slice eu m' euc)) ∧ StL wc now' eu m' euc L') := ⟨n7, n4, hs, hB, nu, hu⟩
      clear c7 c4 n7 n4 hs hB nu hu
      go_upto_region 5 with fail
      go_cut [15, 17] (fun sp se wx => ∃ g ea' ec', sp = .pointer (some ⟨g, 0, none⟩) ∧ se = .int .i64 2 ∧ wx.heap[g]? = some (stoO (0) (.slice ea' 0 ec')) ∧ StL wx (0) ea' 0 ec' ([]) ∧ Below wc.heap.size wc wx)
      case first =>
          go_region_held3 (fun w' => w'.cell? ⟨b1, 0, none⟩ = some (.int .i64 now) ∧ w'.cell? ⟨b1, 1, none⟩ = some (.slice ea m ec) ∧ w'.cell? ⟨b, 0, none⟩ = some (.int .i64 dk) ∧ w'.cell? ⟨b, 1, none⟩ = some (.int .i64 dkey) ∧ w'.cell? ⟨b, 2, none⟩ = some (.int .i64 dfld) ∧ w'.cell? ⟨b, 3, none⟩ = some (.int .i64 dn) ∧ w'.cell? ⟨b, 4, none⟩ = some (.string dtxt)) (go_keep) (first
            | (go_at_call 22; refine (HK.out _).mono ?_; rintro e w2 ⟨rfl, hb2⟩; (first
                | (have u2 : Below wc.heap.size wc w2 := (by with_reducible exact bstep (Below.refl _ _).drew hb2); have t0 : (7 : Nat) < 8 := (by decide))
                | (have u2 : Below wc.heap.size wc w2 := (by with_reducible exact bstep (balloc _ _).drew hb2); have m7 := boxD1 hb2; have sz2 := sizeD1 hb2; have t0 : (7 : Nat) < 9 := (by decide))
                | (have u2 : Below wc.heap.size wc w2 := (by with_reducible exact bstep ((balloc _ _).alloc (Nat.le_of_lt (size_a1 _ _)) _).drew hb2); obtain ⟨m7, m8⟩ := boxD2 hb2; have sz2 := sizeD2 hb2; have t0 : (7 : Nat) < 10 := (by decide))); obtain ⟨e1, e2⟩ := same_block (u2.block b1 hb1w); obtain ⟨e3, e4⟩ := same_block (u2.block b hbw))
            | (go_at_call 17; (first
                | (with_reducible refine (HD.out _ (((u2.alloc u2.size _).alloc (Nat.le_trans u2.size (Nat.le_of_lt (size_a1 _ _))) _))).mono ?_; rintro e w3 ⟨ea', ec', la, q, lc, rfl, hv', hb3⟩; have u3 : Below wc.heap.size wc w3 := (by with_reducible exact bstep ((u2.alloc u2.size _).alloc (Nat.le_trans u2.size (Nat.le_of_lt (size_a1 _ _))) _) hb3); have hv2 : RepsStF (w2.heap.size + 2) w3 (stoV (0) (.slice ea' 0 ec')) ⟨0, []⟩ := hv'.mono (by simp); have t1 : (7 : Nat) < 8 := (by assumption); obtain ⟨m9, m10⟩ := boxA2 hb3; obtain ⟨p1, p2⟩ := block_cells m9; obtain ⟨p3, p4⟩ := block_cells m10; have s3 := sizeA2 hb3; have z3 := u3.size; have z2 := u2.size; have y1 : ¬ b1 = w2.heap.size := (by omega); have x1 : ¬ w2.heap.size = b1 := (by omega); have y2 : ¬ b1 = (w2.heap.size + 1) := (by omega); have x2 : ¬ (w2.heap.size + 1) = b1 := (by omega); have y3 : ¬ b = w2.heap.size := (by omega); have x3 : ¬ w2.heap.size = b := (by omega); have y4 : ¬ b = (w2.heap.size + 1) := (by omega); have x4 : ¬ (w2.heap.size + 1) = b := (by omega); have y5 : ¬ w2.heap.size = (w2.heap.size + 1) := (by omega); have x5 : ¬ (w2.heap.size + 1) = w2.heap.size := (by omega))
                | (with_reducible refine (HD.out _ ((u2.alloc u2.size _))).mono ?_; rintro e w3 ⟨ea', ec', la, q, lc, rfl, hv', hb3⟩; have u3 : Below wc.heap.size wc w3 := (by with_reducible exact bstep (u2.alloc u2.size _) hb3); have hv2 : RepsStF (w2.heap.size + 1) w3 (stoV (0) (.slice ea' 0 ec')) ⟨0, []⟩ := hv'.mono (by simp); have t1 : (7 : Nat) < 8 := (by assumption); have m9 := boxA1 hb3; obtain ⟨p1, p2⟩ := block_cells m9; have s3 := sizeA1 hb3; have z3 := u3.size; have z2 := u2.size; have y1 : ¬ b1 = w2.heap.size := (by omega); have x1 : ¬ w2.heap.size = b1 := (by omega); have y2 : ¬ b1 = w3.heap.size := (by omega); have x2 : ¬ w3.heap.size = b1 := (by omega); have y3 : ¬ b = w2.heap.size := (by omega); have x3 : ¬ w2.heap.size = b := (by omega); have y4 : ¬ b = w3.heap.size := (by omega); have x4 : ¬ w3.heap.size = b := (by omega); have y5 : ¬ w2.heap.size = w3.heap.size := (by omega); have x5 : ¬ w3.heap.size = w2.heap.size := (by omega))
                | (with_reducible refine (HD.out _ ((u2))).mono ?_; rintro e w3 ⟨ea', ec', la, q, lc, rfl, hv', hb3⟩; have u3 : Below wc.heap.size wc w3 := (by with_reducible exact bstep (u2) hb3); have hv2 : RepsStF (w2.heap.size) w3 (stoV (0) (.slice ea' 0 ec')) ⟨0, []⟩ := hv'.mono (by simp); have t1 : (7 : Nat) < 8 := (by assumption); have s3 := hb3.size; have z3 := u3.size; have z2 := u2.size; have y1 : ¬ b1 = w3.heap.size := (by omega); have x1 : ¬ w3.heap.size = b1 := (by omega); have y2 : ¬ b1 = (w3.heap.size + 1) := (by omega); have x2 : ¬ (w3.heap.size + 1) = b1 := (by omega); have y3 : ¬ b = w3.heap.size := (by omega); have x3 : ¬ w3.heap.size = b := (by omega); have y4 : ¬ b = (w3.heap.size + 1) := (by omega); have x4 : ¬ (w3.heap.size + 1) = b := (by omega); have y5 : ¬ w3.heap.size = (w3.heap.size + 1) := (by omega); have x5 : ¬ (w3.heap.size + 1) = w3.heap.size := (by omega))
                | (with_reducible refine (HD.out _ ((u2))).mono ?_; rintro e w3 ⟨ea', ec', la, q, lc, rfl, hv', hb3⟩; have u3 : Below wc.heap.size wc w3 := (by with_reducible exact bstep (u2) hb3); have hv2 : RepsStF (w2.heap.size) w3 (stoV (0) (.slice ea' 0 ec')) ⟨0, []⟩ := hv'.mono (by simp); have t1 : (7 : Nat) < 10 := (by assumption); have ux := hb3; have m7' := ((ux.block wc.heap.size (by omega)).trans m7); obtain ⟨p1, p2⟩ := block_cells m7'; have l7 : wc.heap.size < w3.heap.size := lt_heap m7'; have m8' := ((ux.block (wc.heap.size + 1) (by omega)).trans m8); obtain ⟨p3, p4⟩ := block_cells m8'; have l8 : wc.heap.size + 1 < w3.heap.size := lt_heap m8'; have z3 := u3.size; have z2 := u2.size; have y1 : ¬ b1 = wc.heap.size := (by omega); have x1 : ¬ wc.heap.size = b1 := (by omega); have y2 : ¬ b1 = (wc.heap.size + 1) := (by omega); have x2 : ¬ (wc.heap.size + 1) = b1 := (by omega); have y3 : ¬ b = wc.heap.size := (by omega); have x3 : ¬ wc.heap.size = b := (by omega); have y4 : ¬ b = (wc.heap.size + 1) := (by omega); have x4 : ¬ (wc.heap.size + 1) = b := (by omega); have y5 : ¬ wc.heap.size = (wc.heap.size + 1) := (by omega); have x5 : ¬ (wc.heap.size + 1) = wc.heap.size := (by omega))
                | (with_reducible refine (HD.out _ ((u2.alloc u2.size _))).mono ?_; rintro e w3 ⟨ea', ec', la, q, lc, rfl, hv', hb3⟩; have u3 : Below wc.heap.size wc w3 := (by with_reducible exact bstep (u2.alloc u2.size _) hb3); have hv2 : RepsStF (w2.heap.size + 1) w3 (stoV (0) (.slice ea' 0 ec')) ⟨0, []⟩ := hv'.mono (by simp); have t1 : (7 : Nat) < 9 := (by assumption); have ux := bstep (balloc w2 _) hb3; have m9 := boxA1 hb3; obtain ⟨p3, p4⟩ := block_cells m9; have s3 := sizeA1 hb3; have m7' := ((ux.block wc.heap.size (by omega)).trans m7); obtain ⟨p1, p2⟩ := block_cells m7'; have l7 : wc.heap.size < w3.heap.size := lt_heap m7'; have z3 := u3.size; have z2 := u2.size; have y1 : ¬ b1 = wc.heap.size := (by omega); have x1 : ¬ wc.heap.size = b1 := (by omega); have y2 : ¬ b1 = w2.heap.size := (by omega); have x2 : ¬ w2.heap.size = b1 := (by omega); have y3 : ¬ b = wc.heap.size := (by omega); have x3 : ¬ wc.heap.size = b := (by omega); have y4 : ¬ b = w2.heap.size := (by omega); have x4 : ¬ w2.heap.size = b := (by omega); have y5 : ¬ wc.heap.size = w2.heap.size := (by omega); have x5 : ¬ w2.heap.size = wc.heap.size := (by omega))
                | (with_reducible refine (HD.out _ ((u2))).mono ?_; rintro e w3 ⟨ea', ec', la, q, lc, rfl, hv', hb3⟩; have u3 : Below wc.heap.size wc w3 := (by with_reducible exact bstep (u2) hb3); have hv2 : RepsStF (w2.heap.size) w3 (stoV (0) (.slice ea' 0 ec')) ⟨0, []⟩ := hv'.mono (by simp); have t1 : (7 : Nat) < 9 := (by assumption); have ux := hb3; have s3 := hb3.size; have m7' := ((ux.block wc.heap.size (by omega)).trans m7); obtain ⟨p1, p2⟩ := block_cells m7'; have l7 : wc.heap.size < w3.heap.size := lt_heap m7'; have z3 := u3.size; have z2 := u2.size; have y1 : ¬ b1 = wc.heap.size := (by omega); have x1 : ¬ wc.heap.size = b1 := (by omega); have y2 : ¬ b1 = w3.heap.size := (by omega); have x2 : ¬ w3.heap.size = b1 := (by omega); have y3 : ¬ b = wc.heap.size := (by omega); have x3 : ¬ wc.heap.size = b := (by omega); have y4 : ¬ b = w3.heap.size := (by omega); have x4 : ¬ w3.heap.size = b := (by omega); have y5 : ¬ wc.heap.size = w3.heap.size := (by omega); have x5 : ¬ w3.heap.size = wc.heap.size := (by omega))); obtain ⟨e5, e6⟩ := same_block (u3.block b1 hb1w); obtain ⟨e7, e8⟩ := same_block (u3.block b hbw)))
          all_goals
            go_wp2_with fail
            go_meet
            with_reducible refine fin_cutB (g' := ?_) ?_ hv2 u3 rfl ?_ ?_ ?_ ?_
            any_goals first
                | with_reducible exact aft1 _ _ _
                | with_reducible exact aft2 _ _ _
                | ((with_reducible refine aft4S ?_ ?_) <;> (first | assumption | omega))
                | ((with_reducible refine aft3S _ ?_) <;> assumption)
                | ((with_reducible refine aft5 _ ?_) <;> omega)
            all_goals omega
      case rest =>
        obtain ⟨g3, e3, c3, rfl, rfl, n3, h3, hbx⟩ := hcut
        have n7 := (hbx.block _ hb1w).trans HW.out.1
        have n4 := (hbx.block _ hbw).trans HW.out.2.1
        have hs := HW.out.2.2.1.below hbx
        have hB := bstep HW.out.2.2.2.1 hbx
        have nu := (hbx.block _ (lt_at HW.out.2.2.2.2.1)).trans HW.out.2.2.2.2.1
        have hu := HW.out.2.2.2.2.2.below hbx
        clear n3 h3
        clear HW hbx HD hb1w hbw s0 s1 x0 x1 x2 x3 x4 f7 f4
        obtain ⟨c7, f7⟩ := cellsB n7
        obtain ⟨cu, fu⟩ := cellsB nu
        have l7 := lt_at n7
        have lu := lt_at nu
        have HCK := hideE (HC1.out wc ea ec hs)
        have HN7 : Hid (wc.heap[bu]? = some (stoO now' (.slice eu m' euc)) ∧ wc.heap[b1]? = some (stoO now (.slice ea m ec)) ∧ StL wc now' eu m' euc L' ∧ Below w.heap.size w wc) := ⟨nu, n7, hu, hB⟩
        clear n7 n4 hs hB nu hu
        go_wp2_with fail
        refine HCK.out.mono ?_
        rintro e w8 ⟨rfl, hb8⟩
        have mu := (hb8.block _ lu).trans HN7.out.1
        have m7 := (hb8.block _ l7).trans HN7.out.2.1
        have HCU := hideE (HC2.out w8 eu euc (HN7.out.2.2.1.below hb8))
        have HB8 := hideE (bstep HN7.out.2.2.2 hb8)
        clear c7 f7 cu fu l7 lu hb8 HN7 HCK
        obtain ⟨c7, f7⟩ := cellsB m7
        obtain ⟨cu, fu⟩ := cellsB mu
        have l7 := lt_at m7
        have lu := lt_at mu
        have M7 := hideE m7
        have MU := hideE mu
        clear m7 mu
        go_wp2_with fail
        refine HCU.out.mono ?_
        rintro e w9 ⟨rfl, hb9⟩
        have mu := (hb9.block _ lu).trans MU.out
        have m7 := (hb9.block _ l7).trans M7.out
        have HB9 := hideE (bstep HB8.out hb9)
        clear c7 f7 cu fu l7 lu hb9 M7 MU HB8
        obtain ⟨c7, f7⟩ := cellsB m7
        obtain ⟨cu, fu⟩ := cellsB mu
        have hnw := HNOW.out
        subst hnw
        clear m7 mu
        go_wp2_with fail
        go_ret
        exact ⟨ret_bool (by simp), HB9.out⟩

theorem walk (v0 v1 v2 : Value) (w : World) (h0 : IsSteps w v0) (h1 : IsStep v1) (h2 : IsInt v2) :
    Calls Tryz.prog 5 #[v0, v1, v2] w fun e w' => e = .returned (.bool true) ∧ Below w.heap.size w w' := by
  obtain ⟨l, hl⟩ := h0
  obtain ⟨d, rfl, hd⟩ := h1
  obtain ⟨k, rfl, c1, c2⟩ := h2
  exact walk0 v0 l d k w hl hd ⟨c1, c2⟩

theorem own : ownKnob Tryz.prog.godebug = none := by kernel_rfl
theorem laidOut : laidOutB Tryz.prog = true := by kernel_rfl

set_option maxRecDepth 100000 in
theorem lifted (os : Os) (started : os.Started) (H : Type) (enc : TypeId × Value → H) :
    ReturnsInHanded {} Tryz.checked os 5 .any (Rows.storeMaySpec.pre6 enc Tryz.prog Tryz.f5 Rows.storeMayRow.domain false) (Rows.storeMaySpec.post enc Tryz.prog Tryz.f5 false true false false) := by
  refine returnsInHanded_of_change (C := Tryz.checked) own started (by kernel_rfl) Tryz.func5
    (ChangeSpec.witness6 (enc := enc) (C := Tryz.checked) false ⟨#[], #[.slice none 0 0, .agg #[.int .i64 0, .int .i64 0, .int .i64 0, .int .i64 0, .string ByteArray.empty, .int .i64 0], .int .i64 0], []⟩ 8 (by kernel_rfl) (by kernel_rfl) (by kernel_rfl) (by kernel_rfl)) ?_
  intro W base args ds gs before hval0 hW hcnd _
  have hval : ∀ (j : Nat) t v, Tryz.f5.params[j]? = some t → args[j]? = some v → Value.okWide Tryz.prog W .any base t v := hval0
  have hW' := hW
  obtain ⟨p, q, hA0, hV, rfl, hfz, hnd⟩ := hW
  have hA : DataW.TrodAll enc Tryz.prog W 0 (fun _ => true) true Tryz.f5.params.toList args.toList ds p := hA0
  rw [Tryz.params5] at hA hval
  obtain ⟨v0, vs0, d0, ds0, p0, q0, hargs, rfl, rfl, h0, r0⟩ := trodAll_cons hA
  obtain ⟨v1, vs1, d1, ds1, p1, q1, rfl, rfl, rfl, h1, r1⟩ := trodAll_cons r0
  obtain ⟨v2, vs2, d2, ds2, p2, q2, rfl, rfl, rfl, h2, r2⟩ := trodAll_cons r1
  obtain ⟨rfl, rfl, rfl⟩ := trodAll_nil r2
  obtain rfl : args = #[v0, v1, v2] := by cases args; simp_all
  obtain ⟨rfl, rfl⟩ := trodVars_none hV
  have lt0 : ∀ x ∈ p0, x.block < W.heap.size := by obtain ⟨m, hm⟩ := h0; exact DataW.trod_lt m _ _ _ hm
  have g0 := shape_steps (hval 0 46 v0 rfl rfl) h0
  have lt1 : ∀ x ∈ p1, x.block < W.heap.size := by obtain ⟨m, hm⟩ := h1; exact DataW.trod_lt m _ _ _ hm
  have g1 := shape_step (hval 1 50 v1 rfl rfl) h1
  have lt2 : ∀ x ∈ p2, x.block < W.heap.size := by obtain ⟨m, hm⟩ := h2; exact DataW.trod_lt m _ _ _ hm
  have g2 := shape_int (hval 2 3 v2 rfl rfl) h2
  clear hA0 hval0
  refine (walk v0 v1 v2 W g0 g1 g2).mono fun e W' ⟨he, bel⟩ => ?_
  subst he
  exact ⟨_, rfl, _, _, _, [], _, [], hW', trodAll_mk1 (shut_bool Tryz.underlying4 _), (trodAll_cons_mk (Below.trod laidOut (by kernel_rfl) (of_decide_eq_true (by kernel_rfl)) h0 bel lt0) (trodAll_cons_mk (Below.trod laidOut (by kernel_rfl) (of_decide_eq_true (by kernel_rfl)) h1 bel lt1) (trodAll_cons_mk (Below.trod laidOut (by kernel_rfl) (of_decide_eq_true (by kernel_rfl)) h2 bel lt2) trodAll_mk0))), rfl, bel.frame _, fun h => by cases h⟩

theorem over : Rows.storeMayRow.holds Tryz.pinned (OpenSpec.ofChange Rows.storeMaySpec) :=
  OpenClaim.holds_of_wide 5 Tryz.f5 rfl rfl rfl rfl rfl rfl rfl ⟨rfl, rfl, rfl, rfl, rfl⟩ rfl rfl rfl rfl rfl (by kernel_rfl) Tryz.func5 (by kernel_rfl)
    (of_decide_eq_true (by kernel_rfl)) (by unfold Func.isWrapper; first | (rw [if_pos (by decide +kernel)]; kernel_rfl) | (rw [if_neg (by decide +kernel)]; exact ⟨rfl, rfl⟩))
    (fun os started H enc _ => lifted os started H enc)

end Go.Proofs.YtfnephnecighaaaGreat.storeMayDone
namespace Go.Proofs.YtfnephnecighaaaGreat
theorem StoreMay_holds : Rows.StoreMaySaid := storeMayDone.over
end Go.Proofs.YtfnephnecighaaaGreat
