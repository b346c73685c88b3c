/- ledger: lastPlace, baseMayBe, itemsMayBe, Check. -/
import Derived.Test.YtpbgadojocgefaaEi
import Derived.BigQuiet
import Derived.Deep.QuietTactic
namespace Go.Proofs.Ytpbgadojocgefaa
open Go.RowKit
set_option linter.unusedVariables false
set_option maxRecDepth 100000

set_option maxHeartbeats 400000 in
theorem lastPlace_any (b t : Int) (a : Option Addr) (len cap : Nat) (w : World) :
    Calls Try.prog 27 #[logV b t (.slice a len cap)] w fun e w' => e = .returned (.int .i64 (wrap64 (b + len))) ∧ Below w.heap.size w w' := by
  go_enter Try.func27, Try.ntmps27
  go_wp2
  go_ret
  exact ⟨ret_int rfl, balloc _ _⟩

set_option maxHeartbeats 400000 in
theorem baseMayBe_any (b t : Int) (s : Value) (w : World) :
    Calls Try.prog 26 #[logV b t s] w fun e w' => e = .returned (.bool (baseB b t)) ∧ Below w.heap.size w w' := by
  go_enter Try.func26, Try.ntmps26
  go_wp2_with (go_at_call 36; refine (isNumber_any _ _).mono ?_; rintro e w1 ⟨rfl, rfl⟩)
  all_goals (go_ret; exact ⟨ret_bool (by simp_all [baseB]; try rfl), balloc _ _⟩)

theorem itemsOk_step {term time : Int} {l : List Itm} {m : Nat} (h : m < l.length) : itemsOk term time (l.drop m) = (decide (l[m].fault = 0) && decide (term ≤ l[m].t) && decide (time ≤ l[m].u) && itemsOk l[m].t l[m].u (l.drop (m + 1))) := by
  rw [List.drop_eq_getElem_cons h]; rfl

set_option maxHeartbeats 4000000 in
theorem itemsMayBe_any (b t : Int) (s : Value) (l : List Itm) (w : World) (hr : RowI w s l) :
    Calls Try.prog 28 #[logV b t s] w fun e w' => e = .returned (.bool (itemsOk t 0 l)) ∧ Below w.heap.size w w' := by
  obtain ⟨hl, a, cap, rfl, h1, h2, h3⟩ := hr
  go_enter Try.func28, Try.ntmps28
  go_wp2
  go_loopw [3, 4, 12] (fun tv uv c wr => ∃ (m : Nat) (t1 u1 : Int), c = .int .i64 (m : Int) ∧ tv = .int .i64 t1 ∧ uv = .int .i64 u1 ∧ m ≤ l.length ∧ Below w.heap.size w wr ∧ itemsOk t 0 l = itemsOk t1 u1 (l.drop m)) (fun _ _ c _ => l.length - (intOf c).toNat)
  case atStart => exact ⟨0, t, 0, by simp, rfl, rfl, by omega, balloc _ _, by simp⟩
  case round =>
    obtain ⟨m, t1, u1, rfl, rfl, rfl, hkl, hb, hyes⟩ := hrel
    have HY : Hid (itemsOk t 0 l = itemsOk t1 u1 (l.drop m)) := hyes
    clear hyes
    by_cases hlt : m < l.length
    · rcases h3 with rfl | ⟨bk, off, rfl, hbk, hc⟩
      · simp at hlt
      · have hst := itemsOk_step (term := t1) (time := u1) hlt
        have HS : Hid (itemsOk t1 u1 (l.drop m) = (decide (l[m].fault = 0) && decide (t1 ≤ l[m].t) && decide (u1 ≤ l[m].u) && itemsOk l[m].t l[m].u (l.drop (m + 1)))) := hst
        clear hst
        have hcw : ∀ i (h : i < l.length) (c : Nat), c < 10 → wr.cell? ⟨bk, off + i * 10 + c, none⟩ = (encIt l[i])[c]? := fun i hi c hk => (hb.cell (p := ⟨bk, off + i * 10 + c, none⟩) hbk).trans (hc i hi c hk)
        obtain ⟨c0, c1, c2, c3, c4, c5, c6, c7, c8, c9⟩ := RowAt.ten hcw m hlt
        clear hcw hc
        have hi0 : (m : Int) < (l.length : Int) := by omega
        have hF : l[m].fault = itemFault l[m].t l[m].u l[m].p l[m].cl l[m].seq l[m].c.k l[m].c.key l[m].c.fld l[m].c.txt l[m].c.n := rfl
        generalize l[m] = x at *
        obtain ⟨xt, xu, xp, xcl, xseq, ck, ckey, cfld, ctxt, cn⟩ := x
        simp only at *
        have hC := fun W => checkItem_any xt xu xp xcl xseq ck ckey cfld ctxt cn W
        rw [← hF] at hC
        clear hF
        generalize Itm.fault ⟨xt, xu, xp, xcl, xseq, ck, ckey, cfld, ctxt, cn⟩ = f at hC HS
        have HC : Hid (∀ W, Calls Try.prog 37 #[itemV xt xu xp xcl xseq ck ckey cfld ctxt cn] W fun e w' => e = .returned (.int .i64 f) ∧ Below W.heap.size W w') := hC
        clear hC
        go_wp2_with fail
        refine (HC.out _).mono ?_
        rintro e w1 ⟨rfl, hb1⟩
        obtain ⟨d1, d2⟩ := same_block (hb1.block wr.heap.size (by simp))
        have hz : wr.heap.size < w1.heap.size := Nat.lt_of_lt_of_le (by simp) hb1.size
        have hB1 := bstep (hb.alloc hb.size _) hb1
        clear hb1 HC
        by_cases hf : f = 0
        · subst hf
          by_cases g1 : xt < t1
          · go_wp2_with fail
            go_ret
            exact ⟨ret_bool (by rw [HY.out, HS.out]; simp; omega), hB1⟩
          · by_cases g2 : xu < u1
            · go_wp2_with fail
              go_ret
              exact ⟨ret_bool (by rw [HY.out, HS.out]; simp; omega), hB1⟩
            · go_wp2_with fail
              go_quiet (fail)
              go_wp2_with fail
              refine ⟨⟨m + 1, xt, xu, by go_num, rfl, rfl, by omega, ?_, ?_⟩, by simp [intOf]; omega⟩
              · exact ⟨hB1.os, hB1.tape, hB1.output, hB1.size, hB1.block⟩
              · rw [HY.out, HS.out]; simp; omega
        · go_wp2_with fail
          go_ret
          exact ⟨ret_bool (by rw [HY.out, HS.out]; simp [hf]), hB1⟩
    · have hge : ¬ (m : Int) < (l.length : Int) := by omega
      go_wp2_with fail
      go_ret
      exact ⟨ret_bool (by rw [HY.out, List.drop_of_length_le (by omega)]; rfl), hb⟩

theorem wrap_small {n : Int} (h1 : 0 ≤ n) (h2 : n ≤ 9223372036854775807) : wrap64 n = n := by
  have := IntKind.wrap_i64 n
  unfold wrap64
  omega

theorem baseB_le {b t : Int} (h : baseB b t = true) : 0 ≤ b ∧ b ≤ 1048576 ∧ 0 ≤ t ∧ t ≤ 1048576 := by
  unfold baseB at h
  split at h
  · simp at h; omega
  · simp [numB] at h; omega

set_option maxHeartbeats 4000000 in
theorem check_any (g : Lg) (s : Value) (w : World) (hr : RowI w s g.items) :
    Calls Try.prog 15 #[logV g.base g.term s] w fun e w' => e = .returned (.int .i64 g.fault) ∧ Below w.heap.size w w' := by
  obtain ⟨b, t, l⟩ := g
  simp only at *
  have hr' := hr
  obtain ⟨hl, a, cap, rfl, h1, h2, -⟩ := hr'
  have HB : Hid (∀ W, Calls Try.prog 26 #[logV b t (.slice a l.length cap)] W fun e w' => e = .returned (.bool (baseB b t)) ∧ Below W.heap.size W w') := fun W => baseMayBe_any b t _ W
  have HL : Hid (∀ W, Calls Try.prog 27 #[logV b t (.slice a l.length cap)] W fun e w' => e = .returned (.int .i64 (wrap64 (b + l.length))) ∧ Below W.heap.size W w') := fun W => lastPlace_any b t _ _ _ W
  have HI : Hid (∀ W, Below w.heap.size w W → Calls Try.prog 28 #[logV b t (.slice a l.length cap)] W fun e w' => e = .returned (.bool (itemsOk t 0 l)) ∧ Below W.heap.size W w') := fun W hW => itemsMayBe_any b t _ l W (hr.below hW)
  generalize hF : Lg.fault ⟨b, t, l⟩ = f
  have HF : Hid (Lg.fault ⟨b, t, l⟩ = f) := hF
  clear hF
  clear hr
  have hi200 : (200 < (l.length : Int)) ↔ ¬ l.length ≤ 200 := by omega
  go_enter Try.func15, Try.ntmps15
  go_wp2_with fail
  refine (HB.out _).mono ?_
  rintro e w1 ⟨rfl, hb1⟩
  obtain ⟨d1, e1⟩ := same_block (hb1.block w.heap.size (by simp))
  have hB1 := bstep (balloc _ _) hb1
  have hz1 : w.heap.size < w1.heap.size := Nat.lt_of_lt_of_le (by simp) hb1.size
  clear HB
  cases hbB : baseB b t with
  | false =>
    go_wp2_with fail
    go_ret
    exact ⟨ret_int (by rw [← HF.out]; simp_all [Lg.fault, Lg.okB, Lg.last]), hB1⟩
  | true =>
    have hle := baseB_le hbB
    by_cases h200 : l.length ≤ 200
    · have hwr := wrap_small (n := b + l.length) (by omega) (by omega)
      rw [hwr] at HL
      clear hwr
      have hn2 : ¬ (200 < (l.length : Int)) := by omega
      clear hi200
      go_wp2_with fail
      refine (HL.out _).mono ?_
      rintro e w2 ⟨rfl, hb2⟩
      obtain ⟨d2, e2⟩ := same_block (hb2.block w.heap.size (by omega))
      have hB2 := bstep hB1 hb2
      have hz2 : w.heap.size < w2.heap.size := Nat.lt_of_lt_of_le hz1 hb2.size
      clear HL
      by_cases hmx : 1048576 < b + (l.length : Int)
      · go_wp2_with fail
        go_ret
        exact ⟨ret_int (by rw [← HF.out]; have hn : ¬ (b + (l.length : Int) ≤ 1048576) := by omega
                           simp [Lg.fault, Lg.okB, Lg.last, hn]), hB2⟩
      · have HM : Hid (b + (l.length : Int) ≤ 1048576) := by show b + (l.length : Int) ≤ 1048576; omega
        go_wp2_with fail
        refine (HI.out _ hB2).mono ?_
        rintro e w3 ⟨rfl, hb3⟩
        have hB3 := bstep hB2 hb3
        have HM' := HM.out
        cases hit : itemsOk t 0 l with
        | false =>
          go_wp2_with fail
          go_ret
          exact ⟨ret_int (by rw [← HF.out]; simp_all [Lg.fault, Lg.okB, Lg.last]), hB3⟩
        | true =>
          go_wp2_with fail
          go_ret
          exact ⟨ret_int (by rw [← HF.out]; simp_all [Lg.fault, Lg.okB, Lg.last]; try omega), hB3⟩
    · have hn2 : 200 < (l.length : Int) := by omega
      clear hi200
      go_wp2_with fail
      go_ret
      exact ⟨ret_int (by rw [← HF.out]; simp_all [Lg.fault, Lg.okB, Lg.last]; try omega), hB1⟩
end Go.Proofs.Ytpbgadojocgefaa
