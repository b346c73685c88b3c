/- A member that is there is put to another place of a rank. -/
import Derived.Test.YtfnephnecighaaaGreatPjJ
import Derived.Test.YtfnephnecighaaaGreatPgJ
namespace Go.Proofs.YtfnephnecighaaaGreat
open Go.RowKit
set_option linter.unusedVariables false

set_option maxHeartbeats 8000000 in
set_option maxRecDepth 100000 in
theorem rank_add_old (x : Val) (c : Cmd) (p : Nat) (i : Nat) (hil : i < x.scores.length) (hk : c.k = 14) (hm : x.size ≤ 20) (hi : x.pairs = []) (hs : x.items = []) (hh : idxI (isMember c.txt) x.scores = (i : Int)) (hp : Parts (fun q => cmpSc q (c.txt, c.n)) (x.scores.take i ++ x.scores.drop (i + 1)) p) :
    Does 99 x c { x with scores := ((x.scores.take i ++ x.scores.drop (i + 1))).take p ++ (c.txt, c.n) :: ((x.scores.take i ++ x.scores.drop (i + 1))).drop p } {} := by
  intro B N W ps is ss hBN hN ho op oi os
  have hml : x.scores.length ≤ 20 := by unfold Val.size at hm; omega
  have hls := ho.lists (by omega)
  obtain rfl := ho.p.2 hi
  obtain rfl := ho.i.2 hs
  have hps := ho.s.1
  obtain ⟨sa, sc, rfl⟩ := ownsRow_shape hps
  have n4 : (c.k == 14) = true := by simp [hk]
  obtain ⟨n0, n1, n2, n3, hb0, hz0⟩ := four_at W (valO x.kind x.text x.count (.slice none 0 0) (.slice none 0 0) (.slice sa x.scores.length sc)) (cmdC c) (valO 0 ⟨#[]⟩ 0 (.slice none 0 0) (.slice none 0 0) (.slice none 0 0)) (repO 0 ⟨#[]⟩ 0 (.slice none 0 0))
  have hBS := indexFuncS 140 #[.pointer (some ⟨W.heap.size + 1, 0, none⟩)] (isMember c.txt) member_enter (.slice sa x.scores.length sc) x.scores _ ((RowAt.ofOwn lenS hps (by omega)).below hb0) (member_pred c _ _ n1)
  rw [hh] at hBS
  clear hh hk
  go_enter Tryz.func99, Tryz.ntmps99
  go_wp2_with fail
  refine hBS.mono ?_
  rintro e w1 ⟨rfl, hb1⟩
  have hB1 := bstep hb0 hb1
  have sz1 : W.heap.size + 4 ≤ w1.heap.size := by rw [← hz0]; exact hb1.size
  have m0 := (hb1.block W.heap.size (by omega)).trans n0
  have m1 := (hb1.block (W.heap.size + 1) (by omega)).trans n1
  have m2 := (hb1.block (W.heap.size + 1 + 1) (by omega)).trans n2
  have m3 := (hb1.block (W.heap.size + 1 + 1 + 1) (by omega)).trans n3
  have hF := isFull_any (valV x.kind x.text x.count (.slice none 0 0) (.slice none 0 0) (.slice sa x.scores.length sc)) x w1 ⟨_, _, _, rfl, hls.below hB1⟩
  have hM : Mid B N W x c (.slice sa x.scores.length sc) w1 (.slice sa x.scores.length sc) x.scores := ⟨Keeps.ofBelow hB1, own_kept hps hB1, fun k hk => ⟨(hps.lt k hk).1, .inl (os k hk)⟩, sz1, m0, m1, m2, m3⟩
  clear n0 n1 n2 n3 hb1 hBS hz0 hb0 hls
  obtain ⟨c0, f0⟩ := block_cells m0
  obtain ⟨c1, f1⟩ := block_cells m1
  clear hF; go_wp2_with fail
  have hlL : ((x.scores.take i ++ x.scores.drop (i + 1))).length ≤ 20 := by first | omega | (simp; omega)
  have HI : Hid (∀ w s, Mid B N W x c (.slice sa x.scores.length sc) w s ((x.scores.take i ++ x.scores.drop (i + 1))) → Calls Tryz.prog 142 #[s, valS (c.txt, c.n)] w fun e w' => ∃ a cc, e = .returned (.slice a (((x.scores.take i ++ x.scores.drop (i + 1))).length + 1) cc) ∧ Mid B N W x c (.slice sa x.scores.length sc) w' (.slice a (((x.scores.take i ++ x.scores.drop (i + 1))).length + 1) cc) (((x.scores.take i ++ x.scores.drop (i + 1))).take p ++ (c.txt, c.n) :: ((x.scores.take i ++ x.scores.drop (i + 1))).drop p)) := fun w s h => mid_insert (c.txt, c.n) h hBN hN (by omega) hp
  have HW : Hid (∀ w, w = w1.drew → Calls Tryz.prog 143 #[.slice sa x.scores.length sc, .int .i64 ((i : Int))] w fun e w' => ∃ a cc, e = .returned (.slice a ((x.scores.take i ++ x.scores.drop (i + 1))).length cc) ∧ Mid B N W x c (.slice sa x.scores.length sc) w' (.slice a ((x.scores.take i ++ x.scores.drop (i + 1))).length cc) ((x.scores.take i ++ x.scores.drop (i + 1)))) := fun w e => mid_without (hM.heap e) hil (by omega)
  have HP : Hid (hitB (fun q => cmpSc q (c.txt, c.n)) ((x.scores.take i ++ x.scores.drop (i + 1))) p = hitB (fun q => cmpSc q (c.txt, c.n)) ((x.scores.take i ++ x.scores.drop (i + 1))) p) := rfl
  have hpl : p ≤ ((x.scores.take i ++ x.scores.drop (i + 1))).length := hp.1
  clear hp ho hps
  have q0 : W.heap.size < w1.heap.size := by have := hM.size; omega
  clear m0 m1 m2 m3 hM hB1 sz1
  generalize hL0 : x.scores.take i ++ x.scores.drop (i + 1) = L at HI HW hlL hpl ⊢
  have HL0 : Hid (x.scores.take i ++ x.scores.drop (i + 1) = L) := hL0
  clear hL0
  go_cut [6] (fun s6 wx => s6 = .int .i64 ((i : Int)) ∧ ∃ w3 a3 cc3, Mid B N W x c (.slice sa x.scores.length sc) w3 (.slice a3 ((L).length + 1) cc3) ((L).take p ++ (c.txt, c.n) :: (L).drop p) ∧ (wx = w3.setCell ⟨W.heap.size, 5, none⟩ (.slice a3 ((L).length + 1) cc3) ∨ wx = (w3.setCell ⟨W.heap.size, 5, none⟩ (.slice a3 ((L).length + 1) cc3)).drew))
  case first =>
    go_region_with (first
      | (go_at_call 143; refine (HW.out _ rfl).mono ?_; rintro e w2 ⟨a2, cc2, rfl, hM2⟩; obtain ⟨c1', f1'⟩ := block_cells hM2.b1; obtain ⟨c0', f0'⟩ := block_cells hM2.b0)
      | (go_at_call 142; refine (HI.out _ _ hM2).mono ?_; rintro e w3 ⟨a3, cc3, rfl, hM3⟩; obtain ⟨c0'', f0''⟩ := block_cells hM3.b0))
    all_goals
      go_wp2_with fail
      go_meet
      exact ⟨rfl, _, _, _, hM3, by first | exact .inl rfl | exact .inr rfl⟩
  case rest =>
    obtain ⟨rfl, w3, a3, cc3, hM3, hwx⟩ := hcut
    have hlen : ((L).take p ++ (c.txt, c.n) :: (L).drop p).length = (L).length + 1 := by simp only [List.length_append, List.length_cons, List.length_take, List.length_drop]; omega
    have hl20 : (L).length ≤ 20 := hlL
    clear c0 f0 c1 f1 HW HI hlL hpl
    generalize hLL : (L).take p ++ (c.txt, c.n) :: (L).drop p = LL at hM3 hlen ⊢
    generalize hNN : (L).length + 1 = NN at hM3 hlen hwx
    have e0 := own_ne hM3.own hM3.b0 (by decide)
    have e2 := own_ne hM3.own hM3.b2 (by decide)
    have e3 := own_ne hM3.own hM3.b3 (by decide)
    obtain ⟨c2', f2⟩ := block_cells hM3.b2
    obtain ⟨c3, f3⟩ := block_cells hM3.b3
    obtain ⟨c0, f0⟩ := block_cells hM3.b0
    have q3 : W.heap.size < w3.heap.size := by have := hM3.size; omega
    have HO : Hid (w3.ownsRow B 69 2 (.slice a3 NN cc3) LL.length (LL.flatMap encS)) := hM3.own
    have HE : Hid ((Value.slice a3 NN cc3).ownBlock ≠ some W.heap.size ∧ (Value.slice a3 NN cc3).ownBlock ≠ some (W.heap.size + 1 + 1) ∧ (Value.slice a3 NN cc3).ownBlock ≠ some (W.heap.size + 1 + 1 + 1)) := ⟨e0, e2, e3⟩
    have HK : Hid (Keeps B N W w3) := hM3.keeps
    have HIN : Hid (In B N W.heap.size (.slice a3 NN cc3)) := hM3.inn
    have HL : Hid (LL.length ≤ 140737488355328) := (by omega : LL.length ≤ 140737488355328)
    have HN : Hid (LL.length = NN) := hlen
    have HLL : Hid (_ = LL) := hLL
    clear hM3 e0 e2 e3 hLL hNN hlen hl20
    rcases hwx with rfl | rfl
    all_goals
      go_wp2_with fail
      go_region_with (go_at_call 133; refine (number_any _ _).mono ?_; rintro e w4 ⟨rfl, rfl⟩)
      all_goals
        go_wp2_with fail
        refine bodyPost_ret (v := .tuple #[valV x.kind x.text x.count (.slice none 0 0) (.slice none 0 0) (.slice a3 NN cc3), repV 0 ⟨#[]⟩ 0 (.slice none 0 0)]) (by simp [results, Tryz.results99, go_sem, c2', c3]) rfl ?_
        rw [HL0.out, HLL.out]
        refine ⟨_, _, rfl, ⟨_, _, _, rfl, ⟨(by show RowAt 2 encP _ (.slice none 0 0) x.pairs; rw [hi]; exact RowAt.nil _ _ _), (by show RowAt 1 encI _ (.slice none 0 0) x.items; rw [hs]; exact RowAt.nil _ _ _), RowAt.ofOwn lenS (base := B) (e := 69) ?_ HL.out⟩, In.nil _ _ _, In.nil _ _ _, ?_⟩, ⟨_, rfl, RowAt.nil _ _ _, In.nil _ _ _⟩, ?_⟩
        · (repeat (with_reducible refine own_drew ?_))
          (iterate 11 (refine own_set ?_ (by first | exact HE.out.1 | exact HE.out.2.1 | exact HE.out.2.2) _))
          exact HO.out
        · exact HIN.out
        · (repeat (with_reducible refine Keeps.drew ?_))
          (iterate 11 (refine Keeps.setCell ?_ (by first | omega | (simp <;> omega)) _))
          exact HK.out
end Go.Proofs.YtfnephnecighaaaGreat

/- A member that is not there yet is put into a rank. -/
namespace Go.Proofs.YtfnephnecighaaaGreat
open Go.RowKit
set_option linter.unusedVariables false

set_option maxHeartbeats 8000000 in
set_option maxRecDepth 100000 in
theorem rank_add_new (x : Val) (c : Cmd) (p : Nat)  (hk : c.k = 14) (hm : x.size < 20) (hi : x.pairs = []) (hs : x.items = []) (hh : idxI (isMember c.txt) x.scores = -1) (hp : Parts (fun q => cmpSc q (c.txt, c.n)) x.scores p) :
    Does 99 x c { x with scores := (x.scores).take p ++ (c.txt, c.n) :: (x.scores).drop p } { n := 1 } := by
  intro B N W ps is ss hBN hN ho op oi os
  have hml : x.scores.length ≤ 20 := by unfold Val.size at hm; omega
  have hls := ho.lists (by omega)
  obtain rfl := ho.p.2 hi
  obtain rfl := ho.i.2 hs
  have hps := ho.s.1
  obtain ⟨sa, sc, rfl⟩ := ownsRow_shape hps
  have n4 : (c.k == 14) = true := by simp [hk]
  obtain ⟨n0, n1, n2, n3, hb0, hz0⟩ := four_at W (valO x.kind x.text x.count (.slice none 0 0) (.slice none 0 0) (.slice sa x.scores.length sc)) (cmdC c) (valO 0 ⟨#[]⟩ 0 (.slice none 0 0) (.slice none 0 0) (.slice none 0 0)) (repO 0 ⟨#[]⟩ 0 (.slice none 0 0))
  have hBS := indexFuncS 140 #[.pointer (some ⟨W.heap.size + 1, 0, none⟩)] (isMember c.txt) member_enter (.slice sa x.scores.length sc) x.scores _ ((RowAt.ofOwn lenS hps (by omega)).below hb0) (member_pred c _ _ n1)
  rw [hh] at hBS
  clear hh hk
  go_enter Tryz.func99, Tryz.ntmps99
  go_wp2_with fail
  refine hBS.mono ?_
  rintro e w1 ⟨rfl, hb1⟩
  have hB1 := bstep hb0 hb1
  have sz1 : W.heap.size + 4 ≤ w1.heap.size := by rw [← hz0]; exact hb1.size
  have m0 := (hb1.block W.heap.size (by omega)).trans n0
  have m1 := (hb1.block (W.heap.size + 1) (by omega)).trans n1
  have m2 := (hb1.block (W.heap.size + 1 + 1) (by omega)).trans n2
  have m3 := (hb1.block (W.heap.size + 1 + 1 + 1) (by omega)).trans n3
  have hF := isFull_any (valV x.kind x.text x.count (.slice none 0 0) (.slice none 0 0) (.slice sa x.scores.length sc)) x w1 ⟨_, _, _, rfl, hls.below hB1⟩
  have hM : Mid B N W x c (.slice sa x.scores.length sc) w1 (.slice sa x.scores.length sc) x.scores := ⟨Keeps.ofBelow hB1, own_kept hps hB1, fun k hk => ⟨(hps.lt k hk).1, .inl (os k hk)⟩, sz1, m0, m1, m2, m3⟩
  clear n0 n1 n2 n3 hb1 hBS hz0 hb0 hls
  obtain ⟨c0, f0⟩ := block_cells m0
  obtain ⟨c1, f1⟩ := block_cells m1
  rw [show decide (20 ≤ x.size) = false by simp; omega] at hF; go_wp2_with fail; refine hF.mono ?_; rintro e w1' ⟨rfl, hb1'⟩; replace hM := hM.below hb1'; clear c0 f0 c1 f1 hF hb1'; obtain ⟨c0, f0⟩ := block_cells hM.b0; obtain ⟨c1, f1⟩ := block_cells hM.b1; go_wp2_with fail
  have hlL : (x.scores).length ≤ 20 := by first | omega | (simp; omega)
  have HI : Hid (∀ w s, Mid B N W x c (.slice sa x.scores.length sc) w s (x.scores) → Calls Tryz.prog 142 #[s, valS (c.txt, c.n)] w fun e w' => ∃ a cc, e = .returned (.slice a ((x.scores).length + 1) cc) ∧ Mid B N W x c (.slice sa x.scores.length sc) w' (.slice a ((x.scores).length + 1) cc) ((x.scores).take p ++ (c.txt, c.n) :: (x.scores).drop p)) := fun w s h => mid_insert (c.txt, c.n) h hBN hN (by omega) hp
  have HW : Hid (∀ w, w = w1'.drew → Calls Tryz.prog 143 #[.slice sa x.scores.length sc, .int .i64 (-1)] w fun e w' => ∃ a cc, e = .returned (.slice a (x.scores).length cc) ∧ Mid B N W x c (.slice sa x.scores.length sc) w' (.slice a (x.scores).length cc) (x.scores)) := fun w e => mid_keep (hM.heap e)
  have HP : Hid (hitB (fun q => cmpSc q (c.txt, c.n)) (x.scores) p = hitB (fun q => cmpSc q (c.txt, c.n)) (x.scores) p) := rfl
  have hpl : p ≤ (x.scores).length := hp.1
  clear hp ho hps
  have q0 : W.heap.size < w1'.heap.size := by have := hM.size; omega
  clear m0 m1 m2 m3 hM hB1 sz1
  go_cut [6] (fun s6 wx => s6 = .int .i64 (-1) ∧ ∃ w3 a3 cc3, Mid B N W x c (.slice sa x.scores.length sc) w3 (.slice a3 ((x.scores).length + 1) cc3) ((x.scores).take p ++ (c.txt, c.n) :: (x.scores).drop p) ∧ (wx = w3.setCell ⟨W.heap.size, 5, none⟩ (.slice a3 ((x.scores).length + 1) cc3) ∨ wx = (w3.setCell ⟨W.heap.size, 5, none⟩ (.slice a3 ((x.scores).length + 1) cc3)).drew))
  case first =>
    go_region_with (first
      | (go_at_call 143; refine (HW.out _ rfl).mono ?_; rintro e w2 ⟨a2, cc2, rfl, hM2⟩; obtain ⟨c1', f1'⟩ := block_cells hM2.b1; obtain ⟨c0', f0'⟩ := block_cells hM2.b0)
      | (go_at_call 142; refine (HI.out _ _ hM2).mono ?_; rintro e w3 ⟨a3, cc3, rfl, hM3⟩; obtain ⟨c0'', f0''⟩ := block_cells hM3.b0))
    all_goals
      go_wp2_with fail
      go_meet
      exact ⟨rfl, _, _, _, hM3, by first | exact .inl rfl | exact .inr rfl⟩
  case rest =>
    obtain ⟨rfl, w3, a3, cc3, hM3, hwx⟩ := hcut
    have hlen : ((x.scores).take p ++ (c.txt, c.n) :: (x.scores).drop p).length = (x.scores).length + 1 := by simp only [List.length_append, List.length_cons, List.length_take, List.length_drop]; omega
    have hl20 : (x.scores).length ≤ 20 := hlL
    clear c0 f0 c1 f1 HW HI hlL hpl
    generalize hLL : (x.scores).take p ++ (c.txt, c.n) :: (x.scores).drop p = LL at hM3 hlen ⊢
    generalize hNN : (x.scores).length + 1 = NN at hM3 hlen hwx
    have e0 := own_ne hM3.own hM3.b0 (by decide)
    have e2 := own_ne hM3.own hM3.b2 (by decide)
    have e3 := own_ne hM3.own hM3.b3 (by decide)
    obtain ⟨c2', f2⟩ := block_cells hM3.b2
    obtain ⟨c3, f3⟩ := block_cells hM3.b3
    obtain ⟨c0, f0⟩ := block_cells hM3.b0
    have q3 : W.heap.size < w3.heap.size := by have := hM3.size; omega
    have HO : Hid (w3.ownsRow B 69 2 (.slice a3 NN cc3) LL.length (LL.flatMap encS)) := hM3.own
    have HE : Hid ((Value.slice a3 NN cc3).ownBlock ≠ some W.heap.size ∧ (Value.slice a3 NN cc3).ownBlock ≠ some (W.heap.size + 1 + 1) ∧ (Value.slice a3 NN cc3).ownBlock ≠ some (W.heap.size + 1 + 1 + 1)) := ⟨e0, e2, e3⟩
    have HK : Hid (Keeps B N W w3) := hM3.keeps
    have HIN : Hid (In B N W.heap.size (.slice a3 NN cc3)) := hM3.inn
    have HL : Hid (LL.length ≤ 140737488355328) := (by omega : LL.length ≤ 140737488355328)
    have HN : Hid (LL.length = NN) := hlen
    have HLL : Hid (_ = LL) := hLL
    clear hM3 e0 e2 e3 hLL hNN hlen hl20
    rcases hwx with rfl | rfl
    all_goals
      go_wp2_with fail
      go_region_with (go_at_call 133; refine (number_any _ _).mono ?_; rintro e w4 ⟨rfl, rfl⟩)
      all_goals
        go_wp2_with fail
        refine bodyPost_ret (v := .tuple #[valV x.kind x.text x.count (.slice none 0 0) (.slice none 0 0) (.slice a3 NN cc3), repV 0 ⟨#[]⟩ 1 (.slice none 0 0)]) (by simp [results, Tryz.results99, go_sem, c2', c3]) rfl ?_
        rw [HLL.out]
        refine ⟨_, _, rfl, ⟨_, _, _, rfl, ⟨(by show RowAt 2 encP _ (.slice none 0 0) x.pairs; rw [hi]; exact RowAt.nil _ _ _), (by show RowAt 1 encI _ (.slice none 0 0) x.items; rw [hs]; exact RowAt.nil _ _ _), RowAt.ofOwn lenS (base := B) (e := 69) ?_ HL.out⟩, In.nil _ _ _, In.nil _ _ _, ?_⟩, ⟨_, rfl, RowAt.nil _ _ _, In.nil _ _ _⟩, ?_⟩
        · (repeat (with_reducible refine own_drew ?_))
          (iterate 11 (refine own_set ?_ (by first | exact HE.out.1 | exact HE.out.2.1 | exact HE.out.2.2) _))
          exact HO.out
        · exact HIN.out
        · (repeat (with_reducible refine Keeps.drew ?_))
          (iterate 11 (refine Keeps.setCell ?_ (by first | omega | (simp <;> omega)) _))
          exact HK.out
end Go.Proofs.YtfnephnecighaaaGreat

/- Out of what is done with a value of a kind: what perform makes. -/
namespace Go.Proofs.YtfnephnecighaaaGreat
open Go.RowKit
set_option linter.unusedVariables false

/-- A command that is for values of one kind. -/
def ofKind (k : Int) : Prop := (k == 1) = false ∧ (k == 2) = false ∧ (k == 3) = false ∧ (k == 17) = false ∧ (k == 18) = false

set_option maxHeartbeats 4000000 in
theorem perf_hash (x : Val) (c : Cmd) (y : Val) (r : Rep) (hx : x.kind = 3) (hk : ofKind c.k) (hd : Does 96 x c y r) : PerfOk x c y r := by
  intro B W ps is ss hB ho
  obtain ⟨n0, n1, n2, n3, hb0, hz0⟩ := four_at W (valO x.kind x.text x.count ps is ss) (cmdC c) (valO 0 ⟨#[]⟩ 0 (.slice none 0 0) (.slice none 0 0) (.slice none 0 0)) (repO 0 ⟨#[]⟩ 0 (.slice none 0 0))
  have hD := hd B W.heap.size _ ps is ss hB hb0.size (ho.kept hb0) (fun k h => (ho.p.1.lt k h).2) (fun k h => (ho.i.1.lt k h).2) (fun k h => (ho.s.1.lt k h).2)
  obtain ⟨pa, pc, ia, ic, sa, sc, rfl, rfl, rfl⟩ := ho.shapes
  obtain ⟨m1, m2, m3, m17, m18⟩ := hk
  have t1 : (x.kind == 3) = true := by simp [hx]
  have t2 : (x.kind == 4) = false := by simp [hx]
  have t3 : (x.kind == 5) = false := by simp [hx]
  clear hx ho hd
  go_enter Tryz.func57, Tryz.ntmps57
  go_wp2_with fail
  refine hD.mono ?_
  rintro e w2 ⟨v2, u2, rfl, hr2, hu2, hK2⟩
  obtain ⟨pa2, pc2, ia2, ic2, sa2, sc2, rfl⟩ := hr2.repsF.reps.shapes
  obtain ⟨la2, lc2, rfl⟩ := hu2.repRF.rep.shapes
  have k2 := (hK2.block (W.heap.size + 1 + 1) (by omega) (.inr (by omega))).trans n2
  have k3 := (hK2.block (W.heap.size + 1 + 1 + 1) (by omega) (.inr (by omega))).trans n3
  have sz2 := hK2.size
  have hK : Keeps B W.heap.size W w2 := (Keeps.ofBelow hb0).trans hK2
  have HK : Hid (Keeps B W.heap.size W w2) := hK
  clear n0 n1 n2 n3 hD hK2 hK
  obtain ⟨c2, f2⟩ := block_cells k2
  obtain ⟨c3, f3⟩ := block_cells k3
  clear k2 k3
  go_wp2_with fail
  refine bodyPost_ret (v := .tuple #[_, _]) (by simp [results, Tryz.results57, go_sem, c2, c3]; exact ⟨rfl, rfl⟩) rfl ⟨_, _, rfl, RepsA.repsF (N := W.heap.size) (M := W.heap.size + 4) ?_, RepRA.repRF (N := W.heap.size) (M := W.heap.size + 4) ?_, Keeps.below (N := W.heap.size) ?_ hB⟩
  · (iterate 10 (refine RepsA.set ?_ (by first | omega | (simp <;> omega)) (by first | omega | (simp <;> omega)) _))
    rw [← hz0]
    exact hr2
  · (iterate 10 (refine RepRA.set ?_ (by first | omega | (simp <;> omega)) (by first | omega | (simp <;> omega)) _))
    rw [← hz0]
    exact hu2
  · (iterate 10 (refine Keeps.setCell ?_ (by first | omega | (simp <;> omega)) _))
    exact HK.out
set_option maxHeartbeats 4000000 in
theorem perf_list (x : Val) (c : Cmd) (y : Val) (r : Rep) (hx : x.kind = 4) (hk : ofKind c.k) (hd : Does 97 x c y r) : PerfOk x c y r := by
  intro B W ps is ss hB ho
  obtain ⟨n0, n1, n2, n3, hb0, hz0⟩ := four_at W (valO x.kind x.text x.count ps is ss) (cmdC c) (valO 0 ⟨#[]⟩ 0 (.slice none 0 0) (.slice none 0 0) (.slice none 0 0)) (repO 0 ⟨#[]⟩ 0 (.slice none 0 0))
  have hD := hd B W.heap.size _ ps is ss hB hb0.size (ho.kept hb0) (fun k h => (ho.p.1.lt k h).2) (fun k h => (ho.i.1.lt k h).2) (fun k h => (ho.s.1.lt k h).2)
  obtain ⟨pa, pc, ia, ic, sa, sc, rfl, rfl, rfl⟩ := ho.shapes
  obtain ⟨m1, m2, m3, m17, m18⟩ := hk
  have t1 : (x.kind == 3) = false := by simp [hx]
  have t2 : (x.kind == 4) = true := by simp [hx]
  have t3 : (x.kind == 5) = false := by simp [hx]
  clear hx ho hd
  go_enter Tryz.func57, Tryz.ntmps57
  go_wp2_with fail
  refine hD.mono ?_
  rintro e w2 ⟨v2, u2, rfl, hr2, hu2, hK2⟩
  obtain ⟨pa2, pc2, ia2, ic2, sa2, sc2, rfl⟩ := hr2.repsF.reps.shapes
  obtain ⟨la2, lc2, rfl⟩ := hu2.repRF.rep.shapes
  have k2 := (hK2.block (W.heap.size + 1 + 1) (by omega) (.inr (by omega))).trans n2
  have k3 := (hK2.block (W.heap.size + 1 + 1 + 1) (by omega) (.inr (by omega))).trans n3
  have sz2 := hK2.size
  have hK : Keeps B W.heap.size W w2 := (Keeps.ofBelow hb0).trans hK2
  have HK : Hid (Keeps B W.heap.size W w2) := hK
  clear n0 n1 n2 n3 hD hK2 hK
  obtain ⟨c2, f2⟩ := block_cells k2
  obtain ⟨c3, f3⟩ := block_cells k3
  clear k2 k3
  go_wp2_with fail
  refine bodyPost_ret (v := .tuple #[_, _]) (by simp [results, Tryz.results57, go_sem, c2, c3]; exact ⟨rfl, rfl⟩) rfl ⟨_, _, rfl, RepsA.repsF (N := W.heap.size) (M := W.heap.size + 4) ?_, RepRA.repRF (N := W.heap.size) (M := W.heap.size + 4) ?_, Keeps.below (N := W.heap.size) ?_ hB⟩
  · (iterate 10 (refine RepsA.set ?_ (by first | omega | (simp <;> omega)) (by first | omega | (simp <;> omega)) _))
    rw [← hz0]
    exact hr2
  · (iterate 10 (refine RepRA.set ?_ (by first | omega | (simp <;> omega)) (by first | omega | (simp <;> omega)) _))
    rw [← hz0]
    exact hu2
  · (iterate 10 (refine Keeps.setCell ?_ (by first | omega | (simp <;> omega)) _))
    exact HK.out
set_option maxHeartbeats 4000000 in
theorem perf_set (x : Val) (c : Cmd) (y : Val) (r : Rep) (hx : x.kind = 5) (hk : ofKind c.k) (hd : Does 98 x c y r) : PerfOk x c y r := by
  intro B W ps is ss hB ho
  obtain ⟨n0, n1, n2, n3, hb0, hz0⟩ := four_at W (valO x.kind x.text x.count ps is ss) (cmdC c) (valO 0 ⟨#[]⟩ 0 (.slice none 0 0) (.slice none 0 0) (.slice none 0 0)) (repO 0 ⟨#[]⟩ 0 (.slice none 0 0))
  have hD := hd B W.heap.size _ ps is ss hB hb0.size (ho.kept hb0) (fun k h => (ho.p.1.lt k h).2) (fun k h => (ho.i.1.lt k h).2) (fun k h => (ho.s.1.lt k h).2)
  obtain ⟨pa, pc, ia, ic, sa, sc, rfl, rfl, rfl⟩ := ho.shapes
  obtain ⟨m1, m2, m3, m17, m18⟩ := hk
  have t1 : (x.kind == 3) = false := by simp [hx]
  have t2 : (x.kind == 4) = false := by simp [hx]
  have t3 : (x.kind == 5) = true := by simp [hx]
  clear hx ho hd
  go_enter Tryz.func57, Tryz.ntmps57
  go_wp2_with fail
  refine hD.mono ?_
  rintro e w2 ⟨v2, u2, rfl, hr2, hu2, hK2⟩
  obtain ⟨pa2, pc2, ia2, ic2, sa2, sc2, rfl⟩ := hr2.repsF.reps.shapes
  obtain ⟨la2, lc2, rfl⟩ := hu2.repRF.rep.shapes
  have k2 := (hK2.block (W.heap.size + 1 + 1) (by omega) (.inr (by omega))).trans n2
  have k3 := (hK2.block (W.heap.size + 1 + 1 + 1) (by omega) (.inr (by omega))).trans n3
  have sz2 := hK2.size
  have hK : Keeps B W.heap.size W w2 := (Keeps.ofBelow hb0).trans hK2
  have HK : Hid (Keeps B W.heap.size W w2) := hK
  clear n0 n1 n2 n3 hD hK2 hK
  obtain ⟨c2, f2⟩ := block_cells k2
  obtain ⟨c3, f3⟩ := block_cells k3
  clear k2 k3
  go_wp2_with fail
  refine bodyPost_ret (v := .tuple #[_, _]) (by simp [results, Tryz.results57, go_sem, c2, c3]; exact ⟨rfl, rfl⟩) rfl ⟨_, _, rfl, RepsA.repsF (N := W.heap.size) (M := W.heap.size + 4) ?_, RepRA.repRF (N := W.heap.size) (M := W.heap.size + 4) ?_, Keeps.below (N := W.heap.size) ?_ hB⟩
  · (iterate 10 (refine RepsA.set ?_ (by first | omega | (simp <;> omega)) (by first | omega | (simp <;> omega)) _))
    rw [← hz0]
    exact hr2
  · (iterate 10 (refine RepRA.set ?_ (by first | omega | (simp <;> omega)) (by first | omega | (simp <;> omega)) _))
    rw [← hz0]
    exact hu2
  · (iterate 10 (refine Keeps.setCell ?_ (by first | omega | (simp <;> omega)) _))
    exact HK.out
set_option maxHeartbeats 4000000 in
theorem perf_rank (x : Val) (c : Cmd) (y : Val) (r : Rep) (hx : x.kind = 6) (hk : ofKind c.k) (hd : Does 99 x c y r) : PerfOk x c y r := by
  intro B W ps is ss hB ho
  obtain ⟨n0, n1, n2, n3, hb0, hz0⟩ := four_at W (valO x.kind x.text x.count ps is ss) (cmdC c) (valO 0 ⟨#[]⟩ 0 (.slice none 0 0) (.slice none 0 0) (.slice none 0 0)) (repO 0 ⟨#[]⟩ 0 (.slice none 0 0))
  have hD := hd B W.heap.size _ ps is ss hB hb0.size (ho.kept hb0) (fun k h => (ho.p.1.lt k h).2) (fun k h => (ho.i.1.lt k h).2) (fun k h => (ho.s.1.lt k h).2)
  obtain ⟨pa, pc, ia, ic, sa, sc, rfl, rfl, rfl⟩ := ho.shapes
  obtain ⟨m1, m2, m3, m17, m18⟩ := hk
  have t1 : (x.kind == 3) = false := by simp [hx]
  have t2 : (x.kind == 4) = false := by simp [hx]
  have t3 : (x.kind == 5) = false := by simp [hx]
  clear hx ho hd
  go_enter Tryz.func57, Tryz.ntmps57
  go_wp2_with fail
  refine hD.mono ?_
  rintro e w2 ⟨v2, u2, rfl, hr2, hu2, hK2⟩
  obtain ⟨pa2, pc2, ia2, ic2, sa2, sc2, rfl⟩ := hr2.repsF.reps.shapes
  obtain ⟨la2, lc2, rfl⟩ := hu2.repRF.rep.shapes
  have k2 := (hK2.block (W.heap.size + 1 + 1) (by omega) (.inr (by omega))).trans n2
  have k3 := (hK2.block (W.heap.size + 1 + 1 + 1) (by omega) (.inr (by omega))).trans n3
  have sz2 := hK2.size
  have hK : Keeps B W.heap.size W w2 := (Keeps.ofBelow hb0).trans hK2
  have HK : Hid (Keeps B W.heap.size W w2) := hK
  clear n0 n1 n2 n3 hD hK2 hK
  obtain ⟨c2, f2⟩ := block_cells k2
  obtain ⟨c3, f3⟩ := block_cells k3
  clear k2 k3
  go_wp2_with fail
  refine bodyPost_ret (v := .tuple #[_, _]) (by simp [results, Tryz.results57, go_sem, c2, c3]; exact ⟨rfl, rfl⟩) rfl ⟨_, _, rfl, RepsA.repsF (N := W.heap.size) (M := W.heap.size + 4) ?_, RepRA.repRF (N := W.heap.size) (M := W.heap.size + 4) ?_, Keeps.below (N := W.heap.size) ?_ hB⟩
  · (iterate 10 (refine RepsA.set ?_ (by first | omega | (simp <;> omega)) (by first | omega | (simp <;> omega)) _))
    rw [← hz0]
    exact hr2
  · (iterate 10 (refine RepRA.set ?_ (by first | omega | (simp <;> omega)) (by first | omega | (simp <;> omega)) _))
    rw [← hz0]
    exact hu2
  · (iterate 10 (refine Keeps.setCell ?_ (by first | omega | (simp <;> omega)) _))
    exact HK.out
end Go.Proofs.YtfnephnecighaaaGreat
