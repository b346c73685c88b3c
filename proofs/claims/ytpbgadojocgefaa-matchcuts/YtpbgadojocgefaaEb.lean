/- Items of raw numbers: rostrumkeep.Item; what wire.EncodeItem refuses. -/
import Derived.Test.YtpbgadojocgefaaKd
import Derived.Test.YtpbgadojocgefaaEi
import Derived.Deep.RegionHeld3
namespace Go.Proofs.Ytpbgadojocgefaa
open Go.RowKit
set_option linter.unusedVariables false
set_option maxRecDepth 100000

/-- Raw numbers of a deed as a value. -/
abbrev deedV (cl off wait k key fld n : Int) (txt : ByteArray) : Value := .agg #[.int .i64 cl, .int .i64 off, .int .i64 wait, .int .i64 k, .int .i64 key, .int .i64 fld, .int .i64 n, .string txt]

def itemFor (cl off k key fld n : Int) (txt : ByteArray) (t u : Int) : Itm :=
  if pickedN cl 5 = 0 then ⟨1 + (pickedN t 1000 : Nat), (pickedN u 100000 : Nat), true, 0, 0, noCmd⟩
  else if pickedN cl 5 = 1 then ⟨1 + (pickedN t 1000 : Nat), (pickedN u 100000 : Nat), false, 0, 0, noCmd⟩
  else ⟨1 + (pickedN t 1000 : Nat), (pickedN u 100000 : Nat), false, (pickedN cl 50 : Nat) + 1, 1 + (pickedN off 100 : Nat), cmdFor (1 + pickedN k 22) key fld n txt⟩

theorem itemFor_fault (cl off k key fld n : Int) (txt : ByteArray) (t u : Int) : (itemFor cl off k key fld n txt t u).fault = 0 := by
  have l1 := pickedN_lt t (show 0 < 1000 by omega)
  have l2 := pickedN_lt u (show 0 < 100000 by omega)
  have l3 := pickedN_lt cl (show 0 < 50 by omega)
  have l4 := pickedN_lt off (show 0 < 100 by omega)
  have l5 := pickedN_lt k (show 0 < 22 by omega)
  have hF := cmdFor_fault (1 + pickedN k 22) key fld n txt (by omega) (by omega)
  have hn : numB (1 + (pickedN t 1000 : Nat)) = true := by simp [numB]; omega
  have ht : timeB (pickedN u 100000 : Nat) = true := by simp [timeB]; omega
  have he : emptyB 0 0 ⟨#[]⟩ ⟨#[]⟩ ⟨#[]⟩ 0 = true := by decide +kernel
  have n1 : numB ((pickedN cl 50 : Nat) + 1) = true := by simp [numB]; omega
  have n2 : numB (1 + (pickedN off 100 : Nat)) = true := by simp [numB]; omega
  have z : ¬ (((pickedN cl 50 : Nat) : Int) + 1 = 0) := by omega
  unfold itemFor
  split
  · simp [Itm.fault, itemFault, hn, ht, noCmd, he]
  · split
    · simp [Itm.fault, itemFault, hn, ht, noCmd, callFault, he]
    · generalize cmdFor (1 + pickedN k 22) key fld n txt = c at hF
      simp only [Cmd.fault] at hF
      simp [Itm.fault, itemFault, hn, ht, callFault, n1, n2, z, hF]

abbrev deedO (cl off wait k key fld n : Int) (txt : ByteArray) : Obj := .cells #[.int .i64 cl, .int .i64 off, .int .i64 wait, .int .i64 k, .int .i64 key, .int .i64 fld, .int .i64 n, .string txt] 37
theorem three_new (w : World) (o0 o1 o2 : Obj) : (((w.alloc o0).alloc o1).alloc o2).heap[w.heap.size]? = some o0 ∧ (((w.alloc o0).alloc o1).alloc o2).heap[w.heap.size + 1]? = some o1 ∧ (((w.alloc o0).alloc o1).alloc o2).heap[w.heap.size + 1 + 1]? = some o2 ∧
    Below w.heap.size w (((w.alloc o0).alloc o1).alloc o2) ∧ (((w.alloc o0).alloc o1).alloc o2).heap.size = w.heap.size + 3 := by
  refine ⟨?_, ?_, ?_, ((balloc _ _).alloc (by simp) _).alloc (by simp; omega) _, by simp⟩
  · rw [Below.heap_alloc _ _ _ (by simp; omega), Below.heap_alloc _ _ _ (by simp)]
    show ((_ : Array Obj).push _)[_]? = _
    simp
  · rw [Below.heap_alloc _ _ _ (by simp)]
    show ((_ : Array Obj).push _)[_]? = _
    rw [Array.getElem?_push, if_pos (by simp)]
  · show ((_ : Array Obj).push _)[_]? = _
    rw [Array.getElem?_push, if_pos (by simp)]

set_option maxHeartbeats 8000000 in
theorem item_any (cl off wait k key fld n : Int) (txt : ByteArray) (t u : Int) (w : World) (bc : -9223372036854775808 ≤ cl ∧ cl ≤ 9223372036854775807) (bo : -9223372036854775808 ≤ off ∧ off ≤ 9223372036854775807)
    (bk : -9223372036854775808 ≤ k ∧ k ≤ 9223372036854775807) (bkey : -9223372036854775808 ≤ key ∧ key ≤ 9223372036854775807)
    (bf : -9223372036854775808 ≤ fld ∧ fld ≤ 9223372036854775807) (bn : -9223372036854775808 ≤ n ∧ n ≤ 9223372036854775807) (bt : txt.size ≤ 9223372036854775807)
    (b1 : -9223372036854775808 ≤ t ∧ t ≤ 9223372036854775807) (b2 : -9223372036854775808 ≤ u ∧ u ≤ 9223372036854775807) :
    Calls Try.prog 35 #[deedV cl off wait k key fld n txt, .int .i64 t, .int .i64 u] w fun e w' => e = .returned (itemFor cl off k key fld n txt t u).v ∧ Below w.heap.size w w' := by
  have hC := fun W => command_any k key fld n txt W bk bkey bf bn bt
  have p1 := fun W => picked_any t 1000 W b1.1 b1.2 (by omega) (by omega)
  have p2 := fun W => picked_any u 100000 W b2.1 b2.2 (by omega) (by omega)
  have p3 := fun W => picked_any cl 5 W bc.1 bc.2 (by omega) (by omega)
  have p4 := fun W => picked_any cl 50 W bc.1 bc.2 (by omega) (by omega)
  have p5 := fun W => picked_any off 100 W bo.1 bo.2 (by omega) (by omega)
  have l1 := pickedN_lt t (show 0 < 1000 by omega)
  have l2 := pickedN_lt u (show 0 < 100000 by omega)
  have l3 := pickedN_lt cl (show 0 < 5 by omega)
  have l4 := pickedN_lt cl (show 0 < 50 by omega)
  have l5 := pickedN_lt off (show 0 < 100 by omega)
  unfold itemFor
  generalize cmdFor (1 + pickedN k 22) key fld n txt = c at hC ⊢
  generalize pickedN t 1000 = q1 at *
  generalize pickedN u 100000 = q2 at *
  generalize pickedN cl 50 = q4 at *
  generalize pickedN cl 5 = q3 at *
  generalize pickedN off 100 = q5 at *
  obtain ⟨ck, ckey, cfld, ctxt, cn⟩ := c
  have P1 : Hid (∀ W, Calls Try.prog 11 #[.int .i64 t, .int .i64 1000] W fun e w' => e = .returned (.int .i64 (q1 : Nat)) ∧ W = w') := p1
  have P2 : Hid (∀ W, Calls Try.prog 11 #[.int .i64 u, .int .i64 100000] W fun e w' => e = .returned (.int .i64 (q2 : Nat)) ∧ W = w') := p2
  have P3 : Hid (∀ W, Calls Try.prog 11 #[.int .i64 cl, .int .i64 5] W fun e w' => e = .returned (.int .i64 (q3 : Nat)) ∧ W = w') := p3
  have P4 : Hid (∀ W, Calls Try.prog 11 #[.int .i64 cl, .int .i64 50] W fun e w' => e = .returned (.int .i64 (q4 : Nat)) ∧ W = w') := p4
  have P5 : Hid (∀ W, Calls Try.prog 11 #[.int .i64 off, .int .i64 100] W fun e w' => e = .returned (.int .i64 (q5 : Nat)) ∧ W = w') := p5
  have HC : Hid (∀ W, Calls Try.prog 41 #[rawV k key fld n txt] W fun e w' => e = .returned (cmdV ck ckey cfld ctxt cn) ∧ Below W.heap.size W w') := hC
  clear hC p1 p2 p3 p4 p5 bc bo bk bkey bf bn bt b1 b2
  go_enter Try.func35, Try.ntmps35
  have hw1 : IntKind.i64.wrap (1 + (q1 : Int)) = 1 + (q1 : Int) := by rw [IntKind.wrap_i64]; omega
  go_wp2_with fail
  refine (P1.out _).mono ?_
  rintro e w1 ⟨rfl, rfl⟩
  go_wp2_with fail
  refine (P2.out _).mono ?_
  rintro e w1 ⟨rfl, rfl⟩
  go_wp2_with fail
  clear P1 P2
  obtain ⟨n0, n1, n2, hB, hz⟩ := three_new w (deedO cl off wait k key fld n txt) (itemO 0 0 false 0 0 0 ⟨#[]⟩ ⟨#[]⟩ ⟨#[]⟩ 0) (itemO (1 + (q1 : Int)) (q2 : Int) false 0 0 0 ⟨#[]⟩ ⟨#[]⟩ ⟨#[]⟩ 0)
  generalize ((w.alloc (deedO cl off wait k key fld n txt)).alloc (itemO 0 0 false 0 0 0 ⟨#[]⟩ ⟨#[]⟩ ⟨#[]⟩ 0)).alloc (itemO (1 + (q1 : Int)) (q2 : Int) false 0 0 0 ⟨#[]⟩ ⟨#[]⟩ ⟨#[]⟩ 0) = V at n0 n1 n2 hB hz ⊢
  have hl1 : w.heap.size + 1 < V.heap.size := by omega
  have hl2 : w.heap.size + 1 + 1 < V.heap.size := by omega
  refine (P3.out _).mono ?_
  rintro e w1 ⟨rfl, rfl⟩
  clear P3
  have hq : q3 = 0 ∨ q3 = 1 ∨ (¬ q3 = 0 ∧ ¬ q3 = 1) := by omega
  rcases hq with rfl | rfl | ⟨g0, g1⟩
  · obtain ⟨c1, f1⟩ := cells_at n1
    obtain ⟨c2, f2⟩ := cells_at n2
    go_wp2_with fail
    refine bodyPost_ret (v := itemV (1 + (q1 : Int)) (q2 : Int) true 0 0 0 ⟨#[]⟩ ⟨#[]⟩ ⟨#[]⟩ 0) (by simp [results, Try.results35, go_sem, c1]) rfl ⟨rfl, ?_⟩
    repeat refine Below.setCell ?_ ?_ _
    · exact hB
    all_goals (simp; try omega)
  · obtain ⟨c1, f1⟩ := cells_at n1
    obtain ⟨c2, f2⟩ := cells_at n2
    go_wp2_with fail
    refine bodyPost_ret (v := itemV (1 + (q1 : Int)) (q2 : Int) false 0 0 0 ⟨#[]⟩ ⟨#[]⟩ ⟨#[]⟩ 0) (by simp [results, Try.results35, go_sem, c1]) rfl ⟨rfl, ?_⟩
    repeat refine Below.setCell ?_ ?_ _
    · exact hB
    all_goals (simp; try omega)
  · have G0 : Hid (¬ q3 = 0) := g0
    have G1 : Hid (¬ q3 = 1) := g1
    have e0 : ((q3 : Int) == 0) = false := by simpa using g0
    have e1 : ((q3 : Int) == 1) = false := by simp; omega
    have x4 : IntKind.i64.wrap ((q4 : Int) + 1) = (q4 : Int) + 1 := by rw [IntKind.wrap_i64]; omega
    have x5 : IntKind.i64.wrap (1 + (q5 : Int)) = 1 + (q5 : Int) := by rw [IntKind.wrap_i64]; omega
    clear g0 g1 l1 l2 l3 l4 l5
    obtain ⟨c0, f0⟩ := cells_at n0
    obtain ⟨r0, r1, r2, r3, r4, r5, r6⟩ : V.cell? ⟨w.heap.size, 0, none⟩ = some (.int .i64 cl) ∧ V.cell? ⟨w.heap.size, 1, none⟩ = some (.int .i64 off) ∧ V.cell? ⟨w.heap.size, 3, none⟩ = some (.int .i64 k) ∧ V.cell? ⟨w.heap.size, 4, none⟩ = some (.int .i64 key) ∧ V.cell? ⟨w.heap.size, 5, none⟩ = some (.int .i64 fld) ∧ V.cell? ⟨w.heap.size, 6, none⟩ = some (.int .i64 n) ∧ V.cell? ⟨w.heap.size, 7, none⟩ = some (.string txt) := ⟨c0 0, c0 1, c0 3, c0 4, c0 5, c0 6, c0 7⟩
    clear c0
    have hl0 : w.heap.size < V.heap.size := by omega
    generalize hb1 : w.heap.size + 1 = b1 at n1 n2 hl1 hl2 ⊢
    generalize hb2 : b1 + 1 = b2 at n2 hl2 ⊢
    have z1 : ¬ b2 = w.heap.size := by omega
    have z2 : ¬ w.heap.size = b2 := by omega
    have z3 : ¬ b1 = b2 := by omega
    have z4 : ¬ b2 = b1 := by omega
    have B1 : Hid (w.heap.size + 1 = b1) := hb1
    have B2 : Hid (b1 + 1 = b2) := hb2
    clear hb1 hb2 hz
    go_wp2_with fail
    go_region_held3 (fun w' => w'.cell? ⟨w.heap.size, 0, none⟩ = some (.int .i64 cl) ∧ w'.cell? ⟨w.heap.size, 1, none⟩ = some (.int .i64 off) ∧ w'.cell? ⟨w.heap.size, 3, none⟩ = some (.int .i64 k) ∧ w'.cell? ⟨w.heap.size, 4, none⟩ = some (.int .i64 key) ∧ w'.cell? ⟨w.heap.size, 5, none⟩ = some (.int .i64 fld) ∧ w'.cell? ⟨w.heap.size, 6, none⟩ = some (.int .i64 n) ∧ w'.cell? ⟨w.heap.size, 7, none⟩ = some (.string txt)) (go_keep) (first
      | (go_at_call 11; (first | with_reducible refine (P4.out _).mono ?_ | with_reducible refine (P5.out _).mono ?_); rintro e w1 ⟨rfl, rfl⟩)
      | (go_at_call 41; refine (HC.out _).mono ?_; rintro e w4 ⟨rfl, hb4⟩; have hs4 := hb4.size; obtain ⟨c1, f1⟩ := cells_at ((hb4.block _ hl1).trans n1); obtain ⟨c2, f2⟩ := cells_at ((hb4.block _ hl2).trans n2); obtain ⟨d1, d2⟩ := same_block (hb4.block w.heap.size hl0)))
    have hB4 : Below w.heap.size w w4 := bstep hB.drew hb4
    have y1 := B1.out
    have y2 := B2.out
    clear n0 n1 n2 r0 r1 r2 r3 r4 r5 r6 d1 d2 f0 hb4 hl0 hl1 hl2 P4 P5 HC
    go_wp2_with fail
    refine bodyPost_ret (v := itemV (1 + (q1 : Int)) (q2 : Int) false ((q4 : Int) + 1) (1 + (q5 : Int)) ck ckey cfld ctxt cn) (by simp [results, Try.results35, go_sem, c1]) rfl ⟨rfl, ?_⟩
    repeat refine Below.setCell ?_ ?_ _
    · exact hB4
    all_goals (simp; try omega)
end Go.Proofs.Ytpbgadojocgefaa
