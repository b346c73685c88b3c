/- The document's answers on logs: LogFault. -/
import Derived.Test.YtdpjganbielnkaaGb
import Derived.Test.YtdpjganbielnkaaRg
import Derived.Deep.RegionHeld3
import Derived.Deep.RegionWith
namespace Go.Proofs.Ytdpjganbielnkaa
open Go.RowKit
set_option linter.unusedVariables false
set_option maxRecDepth 100000

theorem inNum_any (n : Int) (w : World) : Calls Try.prog 50 #[.int .i64 n, .int .i64 0, .int .i64 1048576] w fun e w' => e = .returned (.bool (inB n 0 1048576)) ∧ w = w' := in_any _ _ _ _

/-- What the document says of the base, in its own order. -/
def headB (b t : Int) (n : Nat) : Bool := inB b 0 1048576 && inB t 0 1048576 && ((b == 0) == (t == 0)) && decide (n ≤ 200) && decide (b + n ≤ 1048576)
theorem head_ok (g : Lg) : g.okB = (headB g.base g.term g.items.length && itemsOk g.term 0 g.items) := by
  obtain ⟨b, t, l⟩ := g
  have e1 : decide (Lg.last ⟨b, t, l⟩ ≤ 1048576) = decide (b + l.length ≤ 1048576) := rfl
  simp only [Lg.okB, e1, headB, baseB]
  by_cases h : b = 0
  · subst h
    by_cases h' : t = 0
    · subst h'; simp [inB]
    · simp [h']
  · by_cases h' : t = 0
    · subst h'; simp [h, numB]
    · have e2 : numB b = inB b 0 1048576 := by
        unfold numB inB; rw [Bool.eq_iff_iff]; simp; omega
      have e3 : numB t = inB t 0 1048576 := by
        unfold numB inB; rw [Bool.eq_iff_iff]; simp; omega
      have e4 : (b == 0) = false := by simpa using h
      have e5 : (t == 0) = false := by simpa using h'
      simp [h, e2, e3, e4, e5]

theorem cmdFault_codes (k : Int) (key fld txt : ByteArray) (n : Int) : cmdFault k key fld txt n = 0 ∨ cmdFault k key fld txt n = 1 ∨ cmdFault k key fld txt n = 2 ∨ cmdFault k key fld txt n = 3 ∨ cmdFault k key fld txt n = 8 := by
  unfold cmdFault; (repeat' split) <;> simp
theorem fault_time {x : Itm} (h : x.fault = 0) : 0 ≤ x.u := by
  unfold Itm.fault itemFault at h
  split at h
  · rename_i e; simp [timeB] at e; omega
  · omega
theorem fault_codes (x : Itm) : x.fault = 0 ∨ x.fault = 1 ∨ x.fault = 2 ∨ x.fault = 3 ∨ x.fault = 8 := by
  unfold Itm.fault itemFault callFault
  have := cmdFault_codes x.c.k x.c.key x.c.fld x.c.txt x.c.n
  (repeat' split) <;> simp_all

/-- The fault of a log by the document's order of asking. -/
theorem fault_head (g : Lg) (h : headB g.base g.term g.items.length = false) : g.fault = 13 := fault_not (by rw [head_ok, h]; rfl)
theorem fault_items (g : Lg) (h : headB g.base g.term g.items.length = true) : g.fault = if itemsOk g.term 0 g.items = true then 0 else 13 := by
  unfold Lg.fault; rw [head_ok, h]; simp

set_option maxHeartbeats 16000000 in
theorem logFault_any (g : Lg) (s : Value) (w : World) (hr : RowI w s g.items) :
    Calls Try.prog 25 #[logV g.base g.term s] w fun e w' => e = .returned (.int .i64 g.fault) ∧ Below w.heap.size w w' := by
  obtain ⟨b, t, l⟩ := g
  simp only at *
  obtain ⟨hl, a, cap, rfl, h1, h2, h3⟩ := hr
  generalize hF : Lg.fault ⟨b, t, l⟩ = f
  have HF : Hid (Lg.fault ⟨b, t, l⟩ = f) := hF
  clear hF
  have HN : Hid (∀ (n : Int) (W : World), Calls Try.prog 50 #[.int .i64 n, .int .i64 0, .int .i64 1048576] W fun e w' => e = .returned (.bool (inB n 0 1048576)) ∧ W = w') := fun n W => inNum_any n W
  go_enter Try.func25, Try.ntmps25
  go_wp2_with fail
  refine (HN.out _ _).mono ?_
  rintro e w1 ⟨rfl, rfl⟩
  cases x1 : inB b 0 1048576 with
  | false =>
    go_wp2_with fail
    go_ret
    exact ⟨ret_int (by rw [← HF.out, fault_head _ (by simp [headB, x1])]), balloc _ _⟩
  | true =>
    have y1 : 0 ≤ b ∧ b ≤ 1048576 := by simpa [inB] using x1
    go_wp2_with fail
    refine (HN.out _ _).mono ?_
    rintro e w1 ⟨rfl, rfl⟩
    cases x2 : inB t 0 1048576 with
    | false =>
      go_wp2_with fail
      go_ret
      exact ⟨ret_int (by rw [← HF.out, fault_head _ (by simp [headB, x2])]), balloc _ _⟩
    | true =>
      by_cases x3 : (b == 0) = (t == 0)
      case neg =>
        obtain ⟨p, z1, z2⟩ : ∃ p, (b == 0) = p ∧ (t == 0) = !p := ⟨_, rfl, by revert x3; cases (b == 0) <;> cases (t == 0) <;> simp⟩
        cases p with
        | false =>
          go_wp2_with fail
          go_ret
          exact ⟨ret_int (by rw [← HF.out, fault_head _ (by simp [headB, z1, z2])]), balloc _ _⟩
        | true =>
          go_wp2_with fail
          go_ret
          exact ⟨ret_int (by rw [← HF.out, fault_head _ (by simp [headB, z1, z2])]), balloc _ _⟩
      case pos =>
        obtain ⟨p, z1, z2⟩ : ∃ p, (b == 0) = p ∧ (t == 0) = p := ⟨_, rfl, x3.symm⟩
        clear x3
        by_cases x4 : l.length ≤ 200
        · have y4 : ¬ (200 < (l.length : Int)) := by omega
          by_cases x5 : b + (l.length : Int) ≤ 1048576
          · have y5 : ¬ (1048576 < b + (l.length : Int)) := by omega
            have HH : Hid (headB b t l.length = true) := by
              show headB b t l.length = true
              simp only [headB, x1, x2, x4, x5, decide_true, Bool.true_and, Bool.and_true]
              simp [z1, z2]
            go_wp2_with fail
            have hwb := alloc_at w (logO b t (.slice a l.length cap))
            have hB0 := balloc w (logO b t (.slice a l.length cap))
            clear HN x1 x2 z1 z2 y4 y5 x4 x5 y1
            generalize w.alloc (logO b t (.slice a l.length cap)) = w0 at hwb hB0 ⊢
            go_loopw [3] (fun c wr => ∃ (m : Nat) (t1 u1 : Int), c = .int .i64 (m : Int) ∧ m ≤ l.length ∧ Below w.heap.size w wr ∧ wr.heap[w.heap.size]? = some (logO b t (.slice a l.length cap)) ∧ itemsOk t 0 l = itemsOk t1 u1 (l.drop m) ∧
              t ≤ t1 ∧ ((m = 0 ∧ t1 = t ∧ u1 = 0) ∨ ∃ k, ∃ h : k < l.length, m = k + 1 ∧ l[k].t = t1 ∧ l[k].u = u1)) (fun c _ => l.length - (intOf c).toNat)
            case atStart => exact ⟨0, t, 0, by simp, by omega, hB0, hwb, by simp, by omega, .inl ⟨rfl, rfl, rfl⟩⟩
            case round =>
              obtain ⟨m, t1, u1, rfl, hm, hb, hn, heq, htt, hpv⟩ := hrel
              clear hwb hB0
              have HY : Hid (itemsOk t 0 l = itemsOk t1 u1 (l.drop m)) := heq
              clear heq
              have hz0 := lt_at hn
              obtain ⟨q1, q2⟩ := cellsB hn
              obtain ⟨r1, r2⟩ : wr.cell? ⟨w.heap.size, 1, none⟩ = some (.int .i64 t) ∧ wr.cell? ⟨w.heap.size, 2, none⟩ = some (.slice a l.length cap) := ⟨q1 1, q1 2⟩
              by_cases hlt : m < l.length
              · rcases h3 with rfl | ⟨bk, off, rfl, hbk, hc⟩
                · simp at hlt
                · have hst := itemsOk_step (term := t1) (time := u1) hlt
                  have HS : Hid (itemsOk t1 u1 (l.drop m) = (decide (l[m].fault = 0) && decide (t1 ≤ l[m].t) && decide (u1 ≤ l[m].u) && itemsOk l[m].t l[m].u (l.drop (m + 1)))) := hst
                  clear hst q1
                  have hcw : ∀ i (h : i < l.length) (c : Nat), c < 10 → wr.cell? ⟨bk, off + i * 10 + c, none⟩ = (encIt l[i])[c]? := fun i hi c hk => (hb.cell (p := ⟨bk, off + i * 10 + c, none⟩) hbk).trans (hc i hi c hk)
                  obtain ⟨c0, c1, c2, c3, c4, c5, c6, c7, c8, c9⟩ := RowAt.ten hcw m hlt
                  generalize hoo : off + m * 10 = o at c0 c1 c2 c3 c4 c5 c6 c7 c8 c9
                  have hi0 : (m : Int) < (l.length : Int) := by omega
                  have hF : l[m].fault = itemFault l[m].t l[m].u l[m].p l[m].cl l[m].seq l[m].c.k l[m].c.key l[m].c.fld l[m].c.txt l[m].c.n := rfl
                  have hbw : bk < wr.heap.size := Nat.lt_of_lt_of_le hbk hb.size
                  have hne : ¬ bk = w.heap.size := by omega
                  have htime := fault_time (x := l[m])
                  obtain ⟨y, hy⟩ : ∃ y, l[m] = y := ⟨_, rfl⟩
                  have HX : Hid (l[m] = y) := hy
                  rw [hy] at c0 c1 c2 c3 c4 c5 c6 c7 c8 c9 HS hF htime
                  clear hy
                  obtain ⟨xt, xu, xp, xcl, xseq, ck, ckey, cfld, ctxt, cn⟩ := y
                  simp only at *
                  have hC := fun W => itemFault_any xt xu xp xcl xseq ck ckey cfld ctxt cn W
                  rw [← hF] at hC
                  clear hF
                  generalize Itm.fault ⟨xt, xu, xp, xcl, xseq, ck, ckey, cfld, ctxt, cn⟩ = f0 at hC HS htime
                  have HT0 : Hid (f0 = 0 → 0 ≤ xu) := htime
                  clear htime
                  have HC : Hid (∀ W, Calls Try.prog 51 #[itemV xt xu xp xcl xseq ck ckey cfld ctxt cn] W fun e w' => e = .returned (.int .i64 f0) ∧ Below W.heap.size W w') := hC
                  clear hC
                  by_cases hf : f0 = 0
                  · subst hf
                    go_wp2_with fail
                    go_region_held3 (fun w' => w'.cell? ⟨w.heap.size, 1, none⟩ = some (.int .i64 t) ∧ w'.cell? ⟨w.heap.size, 2, none⟩ = some (.slice (some ⟨bk, off, none⟩) l.length cap) ∧ w'.cell? ⟨bk, o, none⟩ = some (.int .i64 xt) ∧ w'.cell? ⟨bk, o + 1, none⟩ = some (.int .i64 xu) ∧ w'.cell? ⟨bk, o + 2, none⟩ = some (.bool xp) ∧ w'.cell? ⟨bk, o + 3, none⟩ = some (.int .i64 xcl) ∧ w'.cell? ⟨bk, o + 4, none⟩ = some (.int .i64 xseq) ∧ w'.cell? ⟨bk, o + 5, none⟩ = some (.int .i64 ck) ∧ w'.cell? ⟨bk, o + 6, none⟩ = some (.string ckey) ∧ w'.cell? ⟨bk, o + 7, none⟩ = some (.string cfld) ∧ w'.cell? ⟨bk, o + 8, none⟩ = some (.string ctxt) ∧ w'.cell? ⟨bk, o + 9, none⟩ = some (.int .i64 cn)) (go_keep) (first
                      | (go_at_call 51; refine (HC.out _).mono ?_; rintro e w4 ⟨rfl, hb4⟩; obtain ⟨d1, d2⟩ := same_block (hb4.block w.heap.size hz0); obtain ⟨d3, d4⟩ := same_block (hb4.block bk hbw)))
                    all_goals
                      have hB4 : Below w.heap.size w w4 := bstep hb.drew hb4
                      have n4 := (hb4.block w.heap.size hz0).trans hn
                      clear hb4
                      by_cases g0 : xt < t
                      · go_wp2_with fail
                        go_ret
                        refine ⟨ret_int ?_, hB4⟩
                        rw [← HF.out, fault_items _ HH.out]
                        show 13 = if itemsOk t 0 l = true then (0 : Int) else 13
                        rw [HY.out, HS.out]; simp; omega
                      · obtain ⟨q5, q6⟩ := cellsB n4
                        have hz4 := lt_at n4
                        rcases hpv with ⟨rfl, rfl, rfl⟩ | ⟨k, hk, hmk0, hk1, hk2⟩
                        · go_wp2_with fail
                          go_quiet (fail)
                          go_wp2_with fail
                          refine ⟨⟨1, xt, xu, by go_num, by omega, ⟨hB4.os, hB4.tape, hB4.output, hB4.size, hB4.block⟩, n4, ?_, by omega, .inr ⟨0, hlt, rfl, congrArg Itm.t HX.out, congrArg Itm.u HX.out⟩⟩, by simp [intOf]; omega⟩
                          have hti : 0 ≤ xu := by simpa using HT0.out
                          rw [HY.out, HS.out]; simp; omega
                        · have e0 := (RowAt.ten hcw k hk).1
                          have e1 := (RowAt.ten hcw k hk).2.1
                          rw [hk1] at e0
                          rw [hk2] at e1
                          have HK : Hid (l[k].t = t1 ∧ l[k].u = u1) := ⟨hk1, hk2⟩
                          have HMK : Hid (m = k + 1) := hmk0
                          have hmk : (m : Int) - 1 = (k : Int) := by omega
                          have hwk : IntKind.i64.wrap (k : Int) = (k : Int) := by rw [IntKind.wrap_i64]; omega
                          have hmp : 0 < m := by omega
                          have hmq : decide (0 < (m : Int)) = true := by simpa using hmp
                          clear hk1 hk2 hcw hc hmk0
                          have hi2 : (k : Int) < (l.length : Int) := by omega
                          by_cases g1 : xt < t1
                          · have g1' : decide (xt < t1) = true := by simpa using g1
                            go_wp2_with fail
                            go_quiet (fail)
                            go_wp2_with fail
                            go_ret
                            refine ⟨ret_int ?_, ⟨hB4.os, hB4.tape, hB4.output, hB4.size, hB4.block⟩⟩
                            rw [← HF.out, fault_items _ HH.out]
                            show 13 = if itemsOk t 0 l = true then (0 : Int) else 13
                            rw [HY.out, HS.out]; simp; omega
                          · have g1' : decide (xt < t1) = false := by simpa using g1
                            by_cases g2 : xu < u1
                            · go_wp2_with fail
                              go_quiet (fail)
                              go_wp2_with fail
                              go_ret
                              refine ⟨ret_int ?_, ⟨hB4.os, hB4.tape, hB4.output, hB4.size, hB4.block⟩⟩
                              rw [← HF.out, fault_items _ HH.out]
                              show 13 = if itemsOk t 0 l = true then (0 : Int) else 13
                              rw [HY.out, HS.out]; simp; omega
                            · go_wp2_with fail
                              go_quiet (fail)
                              go_wp2_with fail
                              have hmk1 := HMK.out
                              refine ⟨⟨m + 1, xt, xu, by go_num, by omega, ⟨hB4.os, hB4.tape, hB4.output, hB4.size, hB4.block⟩, n4, ?_, by omega, .inr ⟨m, hlt, rfl, congrArg Itm.t HX.out, congrArg Itm.u HX.out⟩⟩, by simp [intOf]; omega⟩
                              rw [HY.out, HS.out]; simp; omega
                  · have hfb : (f0 != 0) = true := by simpa using hf
                    go_wp2_with fail
                    refine wp_region_any (by kernel_rfl) ?_
                    change wpAny _ _ _ _ _ _ _ (World.drew _)
                    refine wpAny_take (i := 0) rfl (by kernel_rfl) (by kernel_rfl) (by kernel_rfl) (fun _ _ _ h => h) (Or.inl ⟨by rfl, fun W => by go_simp <;> with_reducible rfl⟩) ?_
                    change wpAny _ _ _ _ _ _ (Act.put _ (some 45) _) _
                    dsimp only [Act.put]
                    refine wpAny_take (i := 2) rfl (by kernel_rfl) (by kernel_rfl) (by kernel_rfl) (fun _ _ _ h => h) (Or.inl ⟨by rfl, fun W => by go_simp <;> with_reducible rfl⟩) ?_
                    change wpAny _ _ _ _ _ _ (Act.put _ (some 47) _) _
                    dsimp only [Act.put]
                    refine wpAny_ready (rs := [1]) (by kernel_rfl) (by simp) ?_
                    refine AllReady.cons rfl (fun K hK => ?_) AllReady.nil
                    go_simp
                    refine hK _ _ ?_
                    clear hK K
                    refine wpAny_ready (rs := [3]) (by kernel_rfl) (by simp) ?_
                    refine AllReady.cons rfl (fun K hK => ?_) AllReady.nil
                    go_simp
                    refine hK _ _ ?_
                    clear hK K
                    refine wpAny_ready (rs := [4]) (by kernel_rfl) (by simp) ?_
                    refine AllReady.cons rfl (fun K hK => ?_) AllReady.nil
                    go_simp
                    refine hK _ _ ?_
                    clear hK K
                    refine wpAny_ready (rs := [5]) (by kernel_rfl) (by simp) ?_
                    refine AllReady.cons rfl (fun K hK => ?_) AllReady.nil
                    go_simp
                    refine (HC.out _).mono ?_
                    rintro e w4 ⟨rfl, hb4⟩
                    go_simp
                    refine hK _ _ ?_
                    clear hK K
                    refine wpAny_take (i := 6) rfl (by kernel_rfl) (by kernel_rfl) (by kernel_rfl) (fun _ _ _ h => h) (Or.inl ⟨by rfl, fun W => by go_simp <;> with_reducible rfl⟩) ?_
                    change wpAny _ _ _ _ _ _ (Act.put _ (some 51) _) _
                    dsimp only [Act.put]
                    refine wpAny_take (i := 7) rfl (by kernel_rfl) (by kernel_rfl) (by kernel_rfl) (fun _ _ _ h => h) (Or.inl ⟨by rfl, fun W => by go_simp <;> with_reducible rfl⟩) ?_
                    change wpAny _ _ _ _ _ _ (Act.put _ (some 52) _) _
                    dsimp only [Act.put]
                    refine wpAny_skips (fun _ _ _ _ h => h) [(8, 53), (10, 55), (14, 59), (9, 54), (15, 60), (11, 56), (12, 57), (13, 58), (16, 61)] 1 _ _ (by kernel_rfl) ?_
                    dsimp only [skipTo, Act.put]
                    refine wpAny_take (i := 17) (v := .bool true) rfl (by kernel_rfl) (by kernel_rfl) (by kernel_rfl) (fun _ _ _ h => h) (Or.inl ⟨by kernel_rfl, ?_⟩) ?_
                    · (intro W; go_simp)
                    change wpAny _ _ _ _ _ _ (Act.put _ (some 62) _) _
                    refine wpAny_done (by kernel_rfl) ?_ _
                    simp only [Act.put, List.setIfInBounds_toArray, List.set_cons_zero, List.set_cons_succ]
                    have hB4 : Below w.heap.size w w4 := bstep hb.drew hb4
                    clear hb4
                    go_wp2_with fail
                    go_ret
                    refine ⟨ret_int ?_, hB4⟩
                    rw [← HF.out, fault_items _ HH.out]
                    show 13 = if itemsOk t 0 l = true then (0 : Int) else 13
                    rw [HY.out, HS.out]; simp [hf]
              · have hge : ¬ (m : Int) < (l.length : Int) := by omega
                go_wp2_with fail
                go_ret
                refine ⟨ret_int ?_, hb⟩
                rw [← HF.out, fault_items _ HH.out]
                show 0 = if itemsOk t 0 l = true then (0 : Int) else 13
                rw [HY.out, List.drop_of_length_le (by omega)]; rfl
          · have y5 : 1048576 < b + (l.length : Int) := by omega
            go_wp2_with fail
            go_ret
            exact ⟨ret_int (by rw [← HF.out, fault_head _ (by simp [headB, x5])]), balloc _ _⟩
        · have y4 : 200 < (l.length : Int) := by omega
          go_wp2_with fail
          go_ret
          exact ⟨ret_int (by rw [← HF.out, fault_head _ (by simp [headB, x4])]), balloc _ _⟩
end Go.Proofs.Ytdpjganbielnkaa
