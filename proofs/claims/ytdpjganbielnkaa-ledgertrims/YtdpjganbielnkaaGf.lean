/- The document's answers on logs: TermOf, NewerThan. -/
import Derived.Test.YtdpjganbielnkaaGd
namespace Go.Proofs.Ytdpjganbielnkaa
open Go.RowKit
set_option linter.unusedVariables false
set_option maxRecDepth 100000

theorem itemsOk_mem {l : List Itm} : ∀ {t u : Int}, itemsOk t u l = true → ∀ x ∈ l, 1 ≤ x.t := by
  induction l with
  | nil => intro t u _ x hx; simp at hx
  | cons y r ih =>
    intro t u h x hx
    simp only [itemsOk, Bool.and_eq_true, decide_eq_true_eq] at h
    rcases List.mem_cons.1 hx with rfl | hx
    · have := h.1.1.1
      unfold Itm.fault itemFault at this
      split at this
      · rename_i e; simp [numB] at e; omega
      · omega
    · exact ih h.2 x hx
theorem termAt_nonneg {g : Lg} (hk : g.okB = true) (p : Int) : 0 ≤ g.termAt p := by
  have hle := okB_le hk
  unfold Lg.termAt
  split
  · omega
  · cases hx : g.items[(p - g.base - 1).toNat]? with
    | none => simp
    | some x =>
      have hm := List.mem_of_getElem? hx
      have hi : itemsOk g.term 0 g.items = true := by
        rw [head_ok] at hk; simp only [Bool.and_eq_true] at hk; exact hk.2
      have := itemsOk_mem hi x hm
      simp; omega

set_option maxHeartbeats 4000000 in
theorem termOf_any (g : Lg) (s : Value) (p : Int) (w : World) (hr : RowI w s g.items) :
    Calls Try.prog 29 #[logV g.base g.term s, .int .i64 p] w fun e w' => e = .returned (.tuple #[.int .i64 (g.termR p).1, .int .i64 (g.termR p).2]) ∧ Below w.heap.size w w' := by
  have hC := fun W (hW : Below w.heap.size w W) => logFault_any g s W (hr.below hW)
  have HN : Hid (∀ (W : World), Calls Try.prog 50 #[.int .i64 p, .int .i64 0, .int .i64 1048576] W fun e w' => e = .returned (.bool (inB p 0 1048576)) ∧ W = w') := fun W => inNum_any p W
  cases hk : g.okB with
  | false =>
    rw [fault_not hk] at hC
    have hT : g.termR p = (0, 13) := by simp [Lg.termR, hk]
    rw [hT]
    have HC : Hid (∀ W, Below w.heap.size w W → Calls Try.prog 25 #[logV g.base g.term s] W fun e w' => e = .returned (.int .i64 13) ∧ Below W.heap.size W w') := hC
    clear hC hr
    go_enter Try.func29, Try.ntmps29
    go_wp2_with fail
    refine (HC.out _ (balloc _ _)).mono ?_
    rintro e w1 ⟨rfl, hb1⟩
    have hB1 := bstep (balloc _ _) hb1
    go_wp2_with fail
    refine bodyPost_ret (v := .tuple #[.int .i64 0, .int .i64 13]) (by simp [results, Try.results29, go_sem]) rfl ⟨rfl, hB1⟩
  | true =>
    rw [fault_yes hk] at hC
    have hle := okB_le hk
    have HC : Hid (∀ W, Below w.heap.size w W → Calls Try.prog 25 #[logV g.base g.term s] W fun e w' => e = .returned (.int .i64 0) ∧ Below W.heap.size W w') := hC
    have HT : Hid (∀ W, Below w.heap.size w W → Calls Try.prog 54 #[logV g.base g.term s, .int .i64 p] W fun e w' => e = .returned (.int .i64 (g.tAt p)) ∧ Below W.heap.size W w') := fun W hW => refTermAt_any g s p W (hr.below hW) hle.1 hle.2.1
    have hnn := termAt_nonneg hk p
    cases hin : inB p 0 1048576 with
    | false =>
      have hp : placeI g.base g.last p = 2 := by unfold placeI; rw [if_pos (by simp [inB] at hin; omega)]
      have hT : g.termR p = (0, 2) := by simp [Lg.termR, hk, hp]
      rw [hT]
      rw [hin] at HN
      clear hC hr hT hp hle hk hin HT hnn
      go_enter Try.func29, Try.ntmps29
      go_wp2_with fail
      refine (HC.out _ (balloc _ _)).mono ?_
      rintro e w1 ⟨rfl, hb1⟩
      have hB1 := bstep (balloc _ _) hb1
      go_wp2_with fail
      refine (HN.out _).mono ?_
      rintro e w2 ⟨rfl, rfl⟩
      go_wp2_with fail
      refine bodyPost_ret (v := .tuple #[.int .i64 0, .int .i64 2]) (by simp [results, Try.results29, go_sem]) rfl ⟨rfl, hB1⟩
    | true =>
      rw [hin] at HN
      have hpl : placeI g.base g.last p = heldI g.base g.last p := by unfold placeI; rw [if_neg (by simp [inB] at hin; omega)]
      obtain ⟨T, c, e, hT, hT'⟩ : ∃ T c e : Int, g.tAt p = T ∧ g.termR p = (c, e) ∧ ((T = -1 ∧ c = 0 ∧ e = 11) ∨ (T = -2 ∧ c = 0 ∧ e = 5) ∨ (0 ≤ T ∧ c = T ∧ e = 0)) := by
        unfold Lg.tAt Lg.termR
        rw [if_pos hk, hpl]
        unfold heldI
        by_cases x1 : p < g.base
        · exact ⟨-1, 0, 11, by rw [if_pos x1], by simp [x1], by simp⟩
        · by_cases x2 : g.last < p
          · exact ⟨-2, 0, 5, by rw [if_neg x1, if_pos x2], by simp [x1, x2], by simp⟩
          · exact ⟨g.termAt p, g.termAt p, 0, by rw [if_neg x1, if_neg x2], by simp [x1, x2], by simp [hnn]⟩
      rw [hT] at HT
      obtain ⟨hT1, hT2⟩ := hT'
      rw [hT1]
      obtain ⟨b, t, l⟩ := g
      simp only at *
      clear hC hr hT hT1 hpl hle hk hin hnn
      rcases hT2 with ⟨rfl, rfl, rfl⟩ | ⟨rfl, rfl, rfl⟩ | ⟨h0, rfl, rfl⟩
      · skip
        go_enter Try.func29, Try.ntmps29
        go_wp2_with fail
        refine (HC.out _ (balloc _ _)).mono ?_
        rintro e w1 ⟨rfl, hb1⟩
        have hB1 := bstep (balloc _ _) hb1
        obtain ⟨d1, e1⟩ := same_block (hb1.block w.heap.size (by simp))
        have hz1 : w.heap.size < w1.heap.size := Nat.lt_of_lt_of_le (by simp) hb1.size
        clear hb1 HC
        go_wp2_with fail
        refine (HN.out _).mono ?_
        rintro e w2 ⟨rfl, rfl⟩
        go_wp2_with fail
        refine (HT.out _ hB1).mono ?_
        rintro e w3 ⟨rfl, hb3⟩
        have hB3 := bstep hB1 hb3
        go_wp2_with fail
        refine bodyPost_ret (v := .tuple #[.int .i64 0, .int .i64 11]) (by simp [results, Try.results29, go_sem]) rfl ⟨rfl, hB3⟩
      · skip
        go_enter Try.func29, Try.ntmps29
        go_wp2_with fail
        refine (HC.out _ (balloc _ _)).mono ?_
        rintro e w1 ⟨rfl, hb1⟩
        have hB1 := bstep (balloc _ _) hb1
        obtain ⟨d1, e1⟩ := same_block (hb1.block w.heap.size (by simp))
        have hz1 : w.heap.size < w1.heap.size := Nat.lt_of_lt_of_le (by simp) hb1.size
        clear hb1 HC
        go_wp2_with fail
        refine (HN.out _).mono ?_
        rintro e w2 ⟨rfl, rfl⟩
        go_wp2_with fail
        refine (HT.out _ hB1).mono ?_
        rintro e w3 ⟨rfl, hb3⟩
        have hB3 := bstep hB1 hb3
        go_wp2_with fail
        refine bodyPost_ret (v := .tuple #[.int .i64 0, .int .i64 5]) (by simp [results, Try.results29, go_sem]) rfl ⟨rfl, hB3⟩
      · (have q1 : (c == -1) = false := by simp; omega)
        go_enter Try.func29, Try.ntmps29
        go_wp2_with fail
        refine (HC.out _ (balloc _ _)).mono ?_
        rintro e w1 ⟨rfl, hb1⟩
        have hB1 := bstep (balloc _ _) hb1
        obtain ⟨d1, e1⟩ := same_block (hb1.block w.heap.size (by simp))
        have hz1 : w.heap.size < w1.heap.size := Nat.lt_of_lt_of_le (by simp) hb1.size
        clear hb1 HC
        go_wp2_with fail
        refine (HN.out _).mono ?_
        rintro e w2 ⟨rfl, rfl⟩
        go_wp2_with fail
        refine (HT.out _ hB1).mono ?_
        rintro e w3 ⟨rfl, hb3⟩
        have hB3 := bstep hB1 hb3
        go_wp2_with fail
        refine bodyPost_ret (v := .tuple #[.int .i64 c, .int .i64 0]) (by simp [results, Try.results29, go_sem]) rfl ⟨rfl, hB3⟩

set_option maxHeartbeats 8000000 in
theorem newerThan_any (g : Lg) (s : Value) (p q : Int) (w : World) (hr : RowI w s g.items) :
    Calls Try.prog 34 #[logV g.base g.term s, .int .i64 p, .int .i64 q] w fun e w' => e = .returned (.tuple #[.bool (g.newR p q).1, .int .i64 (g.newR p q).2]) ∧ Below w.heap.size w w' := by
  have hC := fun W (hW : Below w.heap.size w W) => logFault_any g s W (hr.below hW)
  cases hk : g.okB with
  | false =>
    rw [fault_not hk] at hC
    have hT : g.newR p q = (false, 13) := by simp [Lg.newR, hk]
    rw [hT]
    have HC : Hid (∀ W, Below w.heap.size w W → Calls Try.prog 25 #[logV g.base g.term s] W fun e w' => e = .returned (.int .i64 13) ∧ Below W.heap.size W w') := hC
    clear hC hr
    go_enter Try.func34, Try.ntmps34
    go_wp2_with fail
    refine (HC.out _ (balloc _ _)).mono ?_
    rintro e w1 ⟨rfl, hb1⟩
    have hB1 := bstep (balloc _ _) hb1
    go_wp2_with fail
    refine bodyPost_ret (v := .tuple #[.bool false, .int .i64 13]) (by simp [results, Try.results34, go_sem]) rfl ⟨rfl, hB1⟩
  | true =>
    rw [fault_yes hk] at hC
    have hle := okB_le hk
    have HC : Hid (∀ W, Below w.heap.size w W → Calls Try.prog 25 #[logV g.base g.term s] W fun e w' => e = .returned (.int .i64 0) ∧ Below W.heap.size W w') := hC
    have HT : Hid (∀ W, Below w.heap.size w W → Calls Try.prog 54 #[logV g.base g.term s, .int .i64 g.last] W fun e w' => e = .returned (.int .i64 (g.termAt g.last)) ∧ Below W.heap.size W w') := fun W hW =>
      refTermAt_ok g s g.last W (hr.below hW) hle.1 hle.2.1 (by unfold Lg.last; omega) (by unfold Lg.last; omega)
    have HL : Hid (∀ W, Calls Try.prog 53 #[logV g.base g.term s] W fun e w' => e = .returned (.int .i64 g.last) ∧ Below W.heap.size W w') := fun W => by
      obtain ⟨-, a, cap, rfl, -⟩ := hr
      exact lastOf_ok _ _ _ _ _ W hle.1 hle.2.1
    have hT : g.newR p q = (newB g.last (g.termAt g.last) p q, 0) := by simp [Lg.newR, hk]
    rw [hT]
    generalize g.termAt g.last = T at *
    generalize g.last = L at *
    obtain ⟨b, t, l⟩ := g
    simp only at *
    clear hr hle hk hC hT
    generalize hN : newB L T p q = N
    have HN : Hid (newB L T p q = N) := hN
    clear hN
    go_enter Try.func34, Try.ntmps34
    go_wp2_with fail
    refine (HC.out _ (balloc _ _)).mono ?_
    rintro e w1 ⟨rfl, hb1⟩
    have hB1 := bstep (balloc _ _) hb1
    have n1 := (hb1.block w.heap.size (by simp)).trans (alloc_at w (logO b t s))
    clear hb1 HC
    obtain ⟨d1, e1⟩ := cellsB n1
    have hz1 := lt_at n1
    obtain ⟨c0, c1, c2⟩ : w1.cell? ⟨w.heap.size, 0, none⟩ = some (.int .i64 b) ∧ w1.cell? ⟨w.heap.size, 1, none⟩ = some (.int .i64 t) ∧ w1.cell? ⟨w.heap.size, 2, none⟩ = some s := ⟨d1 0, d1 1, d1 2⟩
    clear d1
    go_wp2_with fail
    go_region_held3 (fun w' => w'.cell? ⟨w.heap.size, 0, none⟩ = some (.int .i64 b) ∧ w'.cell? ⟨w.heap.size, 1, none⟩ = some (.int .i64 t) ∧ w'.cell? ⟨w.heap.size, 2, none⟩ = some s) (go_keep) (first
      | (go_at_call 53; refine (HL.out _).mono ?_; rintro e w2 ⟨rfl, hb2⟩; (first | (have hBx : Below w.heap.size w w2 := bstep hBx hb2; obtain ⟨x1, x2⟩ := same_block (hb2.block w.heap.size hzx); have hzx : w.heap.size < w2.heap.size := Nat.lt_of_lt_of_le hzx hb2.size) | (have hBx : Below w.heap.size w w2 := bstep hB1.drew hb2; obtain ⟨x1, x2⟩ := same_block (hb2.block w.heap.size hz1); have hzx : w.heap.size < w2.heap.size := Nat.lt_of_lt_of_le hz1 hb2.size)))
      | (go_at_call 54; refine (HT.out _ ?_).mono ?_; (first | exact hBx | exact hBx.drew | exact hB1.drew); rintro e w3 ⟨rfl, hb3⟩; (first | (have hBx : Below w.heap.size w w3 := bstep hBx hb3; obtain ⟨x1, x2⟩ := same_block (hb3.block w.heap.size hzx); have hzx : w.heap.size < w3.heap.size := Nat.lt_of_lt_of_le hzx hb3.size) | (have hBx : Below w.heap.size w w3 := bstep hB1.drew hb3; obtain ⟨x1, x2⟩ := same_block (hb3.block w.heap.size hz1); have hzx : w.heap.size < w3.heap.size := Nat.lt_of_lt_of_le hz1 hb3.size))))
    all_goals
      by_cases c3 : q = T
      · subst c3
        go_wp2_with fail
        refine (HL.out _).mono ?_
        rintro e w5 ⟨rfl, hb5⟩
        have hB5 := bstep hBx hb5
        go_wp2_with fail
        exact bodyPost_ret (v := .tuple #[.bool N, .int .i64 0]) (by rw [← HN.out]; simp [results, Try.results34, go_sem, newB]) rfl ⟨rfl, hB5⟩
      · have c4 : (q != T) = true := by simpa using c3
        go_wp2_with fail
        exact bodyPost_ret (v := .tuple #[.bool N, .int .i64 0]) (by rw [← HN.out]; simp [results, Try.results34, go_sem, newB, c3]) rfl ⟨rfl, hBx⟩
end Go.Proofs.Ytdpjganbielnkaa
