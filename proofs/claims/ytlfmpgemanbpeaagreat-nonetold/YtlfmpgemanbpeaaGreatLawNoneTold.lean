/- Where there is nothing, just what makes something is done: for all raw numbers the law returns true. No condition. -/
import Derived.Test.YtlfmpgemanbpeaaGreatKd
import Derived.Test.YtlfmpgemanbpeaaGreatOr
import Derived.Test.YtlfmpgemanbpeaaGreatKb
import Derived.Test.YtlfmpgemanbpeaaGreatNs
namespace Go.Proofs.YtlfmpgemanbpeaaGreat.noneToldDone
open Go.ChangeShapes Go.WideShapes Go.ChangeAt Go.RowKit
open Go.Proofs.YtlfmpgemanbpeaaGreat
set_option linter.unusedVariables false
set_option maxRecDepth 100000

theorem reps_none (W : World) : Reps W (valV 0 ⟨#[]⟩ 0 (.slice none 0 0) (.slice none 0 0) (.slice none 0 0)) (emptyVal 0) := ⟨_, _, _, rfl, Lists.empty W 0⟩

/-- What Do comes to where there is nothing: the kind of the value behind it, the reply's code, the error. -/
def Told (c : Cmd) (kind code er : Int) : Prop := ∀ (W : World), Calls Tryz.prog 20 #[valV 0 ⟨#[]⟩ 0 (.slice none 0 0) (.slice none 0 0) (.slice none 0 0), c.v] W fun e w' =>
  ∃ text count pa np pc ia ni ic sa ns sc txt n la nl lc, e = .returned (.tuple #[valV kind text count (.slice pa np pc) (.slice ia ni ic) (.slice sa ns sc), repV code txt n (.slice la nl lc), .int .i64 er]) ∧ Below W.heap.size W w'

theorem told_of {c : Cmd} {y : Val} {r : Rep} {er : Int} (h : DoOk (emptyVal 0) c y r er) : Told c y.kind r.code er := by
  intro W
  refine (h W _ (reps_none W)).mono ?_
  rintro e w' ⟨v', u, rfl, hr', hu', hb⟩
  obtain ⟨pa, pc, ia, ic, sa, sc, rfl⟩ := hr'.reps.shapes
  obtain ⟨la, lc, rfl⟩ := hu'.rep.shapes
  exact ⟨_, _, _, _, _, _, _, _, _, _, _, _, _, _, _, _, rfl, hb⟩

theorem refusal_none (c : Cmd) (h : c.fault = 0) (hs : ofStoreB c.k = false) : refusalI (emptyVal 0) c = 0 := by
  simp [refusalI, empty_none, h, hs]
theorem told_store (c : Cmd) (h : c.fault = 0) (hs : ofStoreB c.k = true) : Told c 0 0 3 :=
  told_of (do_refused (emptyVal 0) c 3 (by simp [refusalI, empty_none, h, hs]) (by decide))
theorem told_none (c : Cmd) (h : c.fault = 0) (hs : ofStoreB c.k = false) (hm : makesB c.k = false) : Told c 0 5 0 :=
  told_of (do_err (emptyVal 0) c 5 (refusal_none c h hs) (by simp [emptyVal, Val.size]) (ans_none _ _ empty_none hm) (by decide))
theorem told_makes (c : Cmd) (y : Val) (r : Rep) (h : c.fault = 0) (hs : ofStoreB c.k = false) (hm : makesB c.k = true) (hp : PerfOk (emptyVal (kindOfI c.k)) c y r) (h0 : r.code = 0) (hy : keptV y = y) : Told c y.kind 0 0 := by
  have := told_of (do_ok _ _ _ _ (refusal_none c h hs) (ans_makes (emptyVal 0) c y r empty_none hm hp) h0)
  rw [hy, h0] at this
  exact this
theorem told_put (c : Cmd) (h : c.fault = 0) (hk : c.k = 1) : Told c 1 0 0 :=
  told_makes c { emptyVal 1 with text := c.txt } {} h (by simp [hk, ofStoreB]) (by simp [hk, makesB]) (perf_put _ c hk) rfl (by simp [keptV, emptyVal, holdsB])
theorem told_add (c : Cmd) (h : c.fault = 0) (hk : c.k = 3) (hn : isCountB c.n = true) : Told c 2 0 0 := by
  have hb := of_isCountB hn
  have hp := perf_add (emptyVal 2) c hk (by simp [emptyVal, Val.size]) (by simp [emptyVal]) (by simp [emptyVal]) hb.1 hb.2
  have hv : addV (emptyVal 2) c.n = (cnt c.n, { n := c.n }) := by simp [addV, emptyVal, hn, cnt]
  rw [hv] at hp
  exact told_makes c (cnt c.n) { n := c.n } h (by simp [hk, ofStoreB]) (by simp [hk, makesB]) (by rw [hk]; exact hp) rfl (by simp [keptV, cnt, holdsB])
theorem told_hset (c : Cmd) (h : c.fault = 0) (hk : c.k = 4) : Told c 3 0 0 :=
  told_makes c _ _ h (by simp [hk, ofStoreB]) (by simp [hk, makesB]) (by rw [hk]; exact perf_hset_nil c hk) rfl (by simp [keptV, emptyVal, holdsB, Val.size])
theorem told_push (c : Cmd) (h : c.fault = 0) (hk : c.k = 7) : Told c 4 0 0 :=
  told_makes c _ _ h (by simp [hk, ofStoreB]) (by simp [hk, makesB]) (by rw [hk]; exact perf_push_nil c hk) rfl (by simp [keptV, emptyVal, holdsB, Val.size])
theorem told_front (c : Cmd) (h : c.fault = 0) (hk : c.k = 8) : Told c 4 0 0 :=
  told_makes c _ _ h (by simp [hk, ofStoreB]) (by simp [hk, makesB]) (by rw [hk]; exact perf_front_nil c hk) rfl (by simp [keptV, emptyVal, holdsB, Val.size])
theorem told_sadd (c : Cmd) (h : c.fault = 0) (hk : c.k = 11) : Told c 5 0 0 :=
  told_makes c _ _ h (by simp [hk, ofStoreB]) (by simp [hk, makesB]) (by rw [hk]; exact perf_sadd_nil c hk) rfl (by simp [keptV, emptyVal, holdsB, Val.size])
theorem told_zadd (c : Cmd) (h : c.fault = 0) (hk : c.k = 14) : Told c 6 0 0 :=
  told_makes c _ _ h (by simp [hk, ofStoreB]) (by simp [hk, makesB]) (by rw [hk]; exact perf_zadd_nil c hk) rfl (by simp [keptV, emptyVal, holdsB, Val.size])

theorem cmdFor_kind (kk : Nat) (key fld n : Int) (txt : ByteArray) : (cmdFor kk key fld n txt).k = (kk : Int) := rfl
theorem count_of_fault (c : Cmd) (h : c.fault = 0) : isCountB c.n = true := by
  unfold Cmd.fault cmdFault at h
  cases hx : isCountB c.n with
  | true => rfl
  | false =>
    rw [hx] at h
    exfalso
    revert h
    (repeat' split) <;> simp_all

theorem laid_one {W0 w : World} {o : Obj} (hb : Below W0.heap.size W0 w) : (w.alloc o).heap[w.heap.size]? = some o ∧ Below W0.heap.size W0 (w.alloc o) ∧ Below w.heap.size w (w.alloc o) :=
  ⟨by show ((_ : Array Obj).push _)[_]? = _; simp, hb.alloc hb.size _, balloc _ _⟩

/-- The law, where it is told what the command comes to. -/
def Ends (k key fld n : Int) (txt : ByteArray) (w : World) : Prop :=
  Calls Tryz.prog 8 #[rawV k key fld n txt] w fun e w' => e = .returned (.bool true) ∧ Below w.heap.size w w'

set_option maxHeartbeats 4000000 in
theorem ends_store (k key fld n : Int) (txt : ByteArray) (w : World) (ck : Int) (ckey cfld ctxt : ByteArray) (cn : Int)
    (HC : Hid (∀ W, Calls Tryz.prog 19 #[rawV k key fld n txt] W fun e w' => e = .returned (cmdV ck ckey cfld ctxt cn) ∧ Below W.heap.size W w'))
    (D : Told ⟨ck, ckey, cfld, ctxt, cn⟩ 0 0 3) (h18 : 18 < ck) : Ends k key fld n txt w := by
  unfold Ends
  skip
  go_enter Tryz.func8, Tryz.ntmps8
  go_wp2_with fail
  refine (HC.out _).mono ?_
  rintro e w1 ⟨rfl, hb1⟩
  have hB1 := bstep (balloc _ _) hb1
  go_wp2_with fail
  obtain ⟨n1', hB2, hl2⟩ := laid_one (w := w1) (o := cmdB ⟨_, ckey, cfld, ctxt, cn⟩) hB1
  refine (D _).mono ?_
  rintro e w2 ⟨text, count, pa, np, pc, ia, ni, ic, sa, ns, sc, tx, nn, la, nl, lc, rfl, hb2⟩
  have hB3 := bstep hB2 hb2
  obtain ⟨c1, f1⟩ := block_cells ((hb2.block w1.heap.size (by simp)).trans n1')
  have q1 : w1.heap.size < w2.heap.size := Nat.lt_of_lt_of_le (by simp) hb2.size
  clear n1' D hb2 hB2 hl2
  go_wp2_with fail
  go_ret
  exact ⟨rfl, (hB3.alloc hB3.size _).alloc (Nat.le_trans hB3.size (by simp)) _⟩
set_option maxHeartbeats 4000000 in
theorem ends_none (k key fld n : Int) (txt : ByteArray) (w : World) (ck : Int) (ckey cfld ctxt : ByteArray) (cn : Int)
    (HC : Hid (∀ W, Calls Tryz.prog 19 #[rawV k key fld n txt] W fun e w' => e = .returned (cmdV ck ckey cfld ctxt cn) ∧ Below W.heap.size W w'))
    (D : Told ⟨ck, ckey, cfld, ctxt, cn⟩ 0 5 0) (h18 : ¬ 18 < ck) (n1 : (ck == 1) = false) (n3 : (ck == 3) = false) (n4 : (ck == 4) = false) (n7 : (ck == 7) = false) (n8 : (ck == 8) = false) (n11 : (ck == 11) = false) (n14 : (ck == 14) = false) : Ends k key fld n txt w := by
  unfold Ends
  skip
  go_enter Tryz.func8, Tryz.ntmps8
  go_wp2_with fail
  refine (HC.out _).mono ?_
  rintro e w1 ⟨rfl, hb1⟩
  have hB1 := bstep (balloc _ _) hb1
  go_wp2_with fail
  obtain ⟨n1', hB2, hl2⟩ := laid_one (w := w1) (o := cmdB ⟨_, ckey, cfld, ctxt, cn⟩) hB1
  refine (D _).mono ?_
  rintro e w2 ⟨text, count, pa, np, pc, ia, ni, ic, sa, ns, sc, tx, nn, la, nl, lc, rfl, hb2⟩
  have hB3 := bstep hB2 hb2
  obtain ⟨c1, f1⟩ := block_cells ((hb2.block w1.heap.size (by simp)).trans n1')
  have q1 : w1.heap.size < w2.heap.size := Nat.lt_of_lt_of_le (by simp) hb2.size
  clear n1' D hb2 hB2 hl2
  go_wp2_with fail
  go_ret
  exact ⟨rfl, (hB3.alloc hB3.size _).alloc (Nat.le_trans hB3.size (by simp)) _⟩
set_option maxHeartbeats 4000000 in
theorem ends_put (k key fld n : Int) (txt : ByteArray) (w : World) (ck : Int) (ckey cfld ctxt : ByteArray) (cn : Int)
    (HC : Hid (∀ W, Calls Tryz.prog 19 #[rawV k key fld n txt] W fun e w' => e = .returned (cmdV ck ckey cfld ctxt cn) ∧ Below W.heap.size W w'))
    (D : Told ⟨ck, ckey, cfld, ctxt, cn⟩ 1 0 0) (h18 : ck = 1) : Ends k key fld n txt w := by
  unfold Ends
  subst h18
  go_enter Tryz.func8, Tryz.ntmps8
  go_wp2_with fail
  refine (HC.out _).mono ?_
  rintro e w1 ⟨rfl, hb1⟩
  have hB1 := bstep (balloc _ _) hb1
  go_wp2_with fail
  obtain ⟨n1', hB2, hl2⟩ := laid_one (w := w1) (o := cmdB ⟨_, ckey, cfld, ctxt, cn⟩) hB1
  refine (D _).mono ?_
  rintro e w2 ⟨text, count, pa, np, pc, ia, ni, ic, sa, ns, sc, tx, nn, la, nl, lc, rfl, hb2⟩
  have hB3 := bstep hB2 hb2
  obtain ⟨c1, f1⟩ := block_cells ((hb2.block w1.heap.size (by simp)).trans n1')
  have q1 : w1.heap.size < w2.heap.size := Nat.lt_of_lt_of_le (by simp) hb2.size
  clear n1' D hb2 hB2 hl2
  go_wp2_with fail
  go_ret
  exact ⟨rfl, (hB3.alloc hB3.size _).alloc (Nat.le_trans hB3.size (by simp)) _⟩
set_option maxHeartbeats 4000000 in
theorem ends_add (k key fld n : Int) (txt : ByteArray) (w : World) (ck : Int) (ckey cfld ctxt : ByteArray) (cn : Int)
    (HC : Hid (∀ W, Calls Tryz.prog 19 #[rawV k key fld n txt] W fun e w' => e = .returned (cmdV ck ckey cfld ctxt cn) ∧ Below W.heap.size W w'))
    (D : Told ⟨ck, ckey, cfld, ctxt, cn⟩ 2 0 0) (h18 : ck = 3) : Ends k key fld n txt w := by
  unfold Ends
  subst h18
  go_enter Tryz.func8, Tryz.ntmps8
  go_wp2_with fail
  refine (HC.out _).mono ?_
  rintro e w1 ⟨rfl, hb1⟩
  have hB1 := bstep (balloc _ _) hb1
  go_wp2_with fail
  obtain ⟨n1', hB2, hl2⟩ := laid_one (w := w1) (o := cmdB ⟨_, ckey, cfld, ctxt, cn⟩) hB1
  refine (D _).mono ?_
  rintro e w2 ⟨text, count, pa, np, pc, ia, ni, ic, sa, ns, sc, tx, nn, la, nl, lc, rfl, hb2⟩
  have hB3 := bstep hB2 hb2
  obtain ⟨c1, f1⟩ := block_cells ((hb2.block w1.heap.size (by simp)).trans n1')
  have q1 : w1.heap.size < w2.heap.size := Nat.lt_of_lt_of_le (by simp) hb2.size
  clear n1' D hb2 hB2 hl2
  go_wp2_with fail
  go_ret
  exact ⟨rfl, (hB3.alloc hB3.size _).alloc (Nat.le_trans hB3.size (by simp)) _⟩
set_option maxHeartbeats 4000000 in
theorem ends_hset (k key fld n : Int) (txt : ByteArray) (w : World) (ck : Int) (ckey cfld ctxt : ByteArray) (cn : Int)
    (HC : Hid (∀ W, Calls Tryz.prog 19 #[rawV k key fld n txt] W fun e w' => e = .returned (cmdV ck ckey cfld ctxt cn) ∧ Below W.heap.size W w'))
    (D : Told ⟨ck, ckey, cfld, ctxt, cn⟩ 3 0 0) (h18 : ck = 4) : Ends k key fld n txt w := by
  unfold Ends
  subst h18
  go_enter Tryz.func8, Tryz.ntmps8
  go_wp2_with fail
  refine (HC.out _).mono ?_
  rintro e w1 ⟨rfl, hb1⟩
  have hB1 := bstep (balloc _ _) hb1
  go_wp2_with fail
  obtain ⟨n1', hB2, hl2⟩ := laid_one (w := w1) (o := cmdB ⟨_, ckey, cfld, ctxt, cn⟩) hB1
  refine (D _).mono ?_
  rintro e w2 ⟨text, count, pa, np, pc, ia, ni, ic, sa, ns, sc, tx, nn, la, nl, lc, rfl, hb2⟩
  have hB3 := bstep hB2 hb2
  obtain ⟨c1, f1⟩ := block_cells ((hb2.block w1.heap.size (by simp)).trans n1')
  have q1 : w1.heap.size < w2.heap.size := Nat.lt_of_lt_of_le (by simp) hb2.size
  clear n1' D hb2 hB2 hl2
  go_wp2_with fail
  go_ret
  exact ⟨rfl, (hB3.alloc hB3.size _).alloc (Nat.le_trans hB3.size (by simp)) _⟩
set_option maxHeartbeats 4000000 in
theorem ends_push (k key fld n : Int) (txt : ByteArray) (w : World) (ck : Int) (ckey cfld ctxt : ByteArray) (cn : Int)
    (HC : Hid (∀ W, Calls Tryz.prog 19 #[rawV k key fld n txt] W fun e w' => e = .returned (cmdV ck ckey cfld ctxt cn) ∧ Below W.heap.size W w'))
    (D : Told ⟨ck, ckey, cfld, ctxt, cn⟩ 4 0 0) (h18 : ck = 7) : Ends k key fld n txt w := by
  unfold Ends
  subst h18
  go_enter Tryz.func8, Tryz.ntmps8
  go_wp2_with fail
  refine (HC.out _).mono ?_
  rintro e w1 ⟨rfl, hb1⟩
  have hB1 := bstep (balloc _ _) hb1
  go_wp2_with fail
  obtain ⟨n1', hB2, hl2⟩ := laid_one (w := w1) (o := cmdB ⟨_, ckey, cfld, ctxt, cn⟩) hB1
  refine (D _).mono ?_
  rintro e w2 ⟨text, count, pa, np, pc, ia, ni, ic, sa, ns, sc, tx, nn, la, nl, lc, rfl, hb2⟩
  have hB3 := bstep hB2 hb2
  obtain ⟨c1, f1⟩ := block_cells ((hb2.block w1.heap.size (by simp)).trans n1')
  have q1 : w1.heap.size < w2.heap.size := Nat.lt_of_lt_of_le (by simp) hb2.size
  clear n1' D hb2 hB2 hl2
  go_wp2_with fail
  go_ret
  exact ⟨rfl, (hB3.alloc hB3.size _).alloc (Nat.le_trans hB3.size (by simp)) _⟩
set_option maxHeartbeats 4000000 in
theorem ends_front (k key fld n : Int) (txt : ByteArray) (w : World) (ck : Int) (ckey cfld ctxt : ByteArray) (cn : Int)
    (HC : Hid (∀ W, Calls Tryz.prog 19 #[rawV k key fld n txt] W fun e w' => e = .returned (cmdV ck ckey cfld ctxt cn) ∧ Below W.heap.size W w'))
    (D : Told ⟨ck, ckey, cfld, ctxt, cn⟩ 4 0 0) (h18 : ck = 8) : Ends k key fld n txt w := by
  unfold Ends
  subst h18
  go_enter Tryz.func8, Tryz.ntmps8
  go_wp2_with fail
  refine (HC.out _).mono ?_
  rintro e w1 ⟨rfl, hb1⟩
  have hB1 := bstep (balloc _ _) hb1
  go_wp2_with fail
  obtain ⟨n1', hB2, hl2⟩ := laid_one (w := w1) (o := cmdB ⟨_, ckey, cfld, ctxt, cn⟩) hB1
  refine (D _).mono ?_
  rintro e w2 ⟨text, count, pa, np, pc, ia, ni, ic, sa, ns, sc, tx, nn, la, nl, lc, rfl, hb2⟩
  have hB3 := bstep hB2 hb2
  obtain ⟨c1, f1⟩ := block_cells ((hb2.block w1.heap.size (by simp)).trans n1')
  have q1 : w1.heap.size < w2.heap.size := Nat.lt_of_lt_of_le (by simp) hb2.size
  clear n1' D hb2 hB2 hl2
  go_wp2_with fail
  go_ret
  exact ⟨rfl, (hB3.alloc hB3.size _).alloc (Nat.le_trans hB3.size (by simp)) _⟩
set_option maxHeartbeats 4000000 in
theorem ends_sadd (k key fld n : Int) (txt : ByteArray) (w : World) (ck : Int) (ckey cfld ctxt : ByteArray) (cn : Int)
    (HC : Hid (∀ W, Calls Tryz.prog 19 #[rawV k key fld n txt] W fun e w' => e = .returned (cmdV ck ckey cfld ctxt cn) ∧ Below W.heap.size W w'))
    (D : Told ⟨ck, ckey, cfld, ctxt, cn⟩ 5 0 0) (h18 : ck = 11) : Ends k key fld n txt w := by
  unfold Ends
  subst h18
  go_enter Tryz.func8, Tryz.ntmps8
  go_wp2_with fail
  refine (HC.out _).mono ?_
  rintro e w1 ⟨rfl, hb1⟩
  have hB1 := bstep (balloc _ _) hb1
  go_wp2_with fail
  obtain ⟨n1', hB2, hl2⟩ := laid_one (w := w1) (o := cmdB ⟨_, ckey, cfld, ctxt, cn⟩) hB1
  refine (D _).mono ?_
  rintro e w2 ⟨text, count, pa, np, pc, ia, ni, ic, sa, ns, sc, tx, nn, la, nl, lc, rfl, hb2⟩
  have hB3 := bstep hB2 hb2
  obtain ⟨c1, f1⟩ := block_cells ((hb2.block w1.heap.size (by simp)).trans n1')
  have q1 : w1.heap.size < w2.heap.size := Nat.lt_of_lt_of_le (by simp) hb2.size
  clear n1' D hb2 hB2 hl2
  go_wp2_with fail
  go_ret
  exact ⟨rfl, (hB3.alloc hB3.size _).alloc (Nat.le_trans hB3.size (by simp)) _⟩
set_option maxHeartbeats 4000000 in
theorem ends_zadd (k key fld n : Int) (txt : ByteArray) (w : World) (ck : Int) (ckey cfld ctxt : ByteArray) (cn : Int)
    (HC : Hid (∀ W, Calls Tryz.prog 19 #[rawV k key fld n txt] W fun e w' => e = .returned (cmdV ck ckey cfld ctxt cn) ∧ Below W.heap.size W w'))
    (D : Told ⟨ck, ckey, cfld, ctxt, cn⟩ 6 0 0) (h18 : ck = 14) : Ends k key fld n txt w := by
  unfold Ends
  subst h18
  go_enter Tryz.func8, Tryz.ntmps8
  go_wp2_with fail
  refine (HC.out _).mono ?_
  rintro e w1 ⟨rfl, hb1⟩
  have hB1 := bstep (balloc _ _) hb1
  go_wp2_with fail
  obtain ⟨n1', hB2, hl2⟩ := laid_one (w := w1) (o := cmdB ⟨_, ckey, cfld, ctxt, cn⟩) hB1
  refine (D _).mono ?_
  rintro e w2 ⟨text, count, pa, np, pc, ia, ni, ic, sa, ns, sc, tx, nn, la, nl, lc, rfl, hb2⟩
  have hB3 := bstep hB2 hb2
  obtain ⟨c1, f1⟩ := block_cells ((hb2.block w1.heap.size (by simp)).trans n1')
  have q1 : w1.heap.size < w2.heap.size := Nat.lt_of_lt_of_le (by simp) hb2.size
  clear n1' D hb2 hB2 hl2
  go_wp2_with fail
  go_ret
  exact ⟨rfl, (hB3.alloc hB3.size _).alloc (Nat.le_trans hB3.size (by simp)) _⟩

theorem walk (v0 : Value) (w : World) (h0 : IsRaw v0) :
    Calls Tryz.prog 8 #[v0] w fun e w' => e = .returned (.bool true) ∧ Below w.heap.size w w' := by
  obtain ⟨k, key, fld, n, txt, rfl, b1, b2, b3, b4, b5⟩ := h0
  have lk := pickedN_lt k (show 0 < 22 by omega)
  have hC := fun W => command_any k key fld n txt W b1 b2 b3 b4 b5
  have hF := cmdFor_fault (1 + pickedN k 22) key fld n txt (by omega) (by omega)
  have hK := cmdFor_kind (1 + pickedN k 22) key fld n txt
  generalize cmdFor (1 + pickedN k 22) key fld n txt = c at hC hF hK
  generalize pickedN k 22 = p at lk hK
  obtain ⟨ck, ckey, cfld, ctxt, cn⟩ := c
  have hK : ck = ((1 + p : Nat) : Int) := hK
  have HC : Hid (∀ W, Calls Tryz.prog 19 #[rawV k key fld n txt] W fun e w' => e = .returned (cmdV ck ckey cfld ctxt cn) ∧ Below W.heap.size W w') := hC
  show Ends k key fld n txt w
  by_cases h18 : 18 < ck
  · exact ends_store k key fld n txt w ck ckey cfld ctxt cn HC (told_store _ hF (by simp [ofStoreB]; omega)) h18
  have hs : ofStoreB ck = false := by simp [ofStoreB]; omega
  by_cases e1 : ck = 1
  · exact ends_put k key fld n txt w ck ckey cfld ctxt cn HC (told_put _ hF e1) e1
  by_cases e4 : ck = 4
  · exact ends_hset k key fld n txt w ck ckey cfld ctxt cn HC (told_hset _ hF e4) e4
  by_cases e7 : ck = 7
  · exact ends_push k key fld n txt w ck ckey cfld ctxt cn HC (told_push _ hF e7) e7
  by_cases e8 : ck = 8
  · exact ends_front k key fld n txt w ck ckey cfld ctxt cn HC (told_front _ hF e8) e8
  by_cases e11 : ck = 11
  · exact ends_sadd k key fld n txt w ck ckey cfld ctxt cn HC (told_sadd _ hF e11) e11
  by_cases e14 : ck = 14
  · exact ends_zadd k key fld n txt w ck ckey cfld ctxt cn HC (told_zadd _ hF e14) e14
  by_cases e3 : ck = 3
  · exact ends_add k key fld n txt w ck ckey cfld ctxt cn HC (told_add _ hF e3 (count_of_fault _ hF)) e3
  have hm : makesB ck = false := by simp [makesB]; omega
  exact ends_none k key fld n txt w ck ckey cfld ctxt cn HC (told_none _ hF hs hm) h18 (by simpa using e1) (by simpa using e3) (by simpa using e4) (by simpa using e7) (by simpa using e8) (by simpa using e11) (by simpa using e14)

theorem own : ownKnob Tryz.prog.godebug = none := by kernel_rfl
theorem laidOut : laidOutB Tryz.prog = true := by kernel_rfl

set_option maxRecDepth 100000 in
theorem lifted (os : Os) (started : os.Started) (H : Type) (enc : TypeId × Value → H) :
    ReturnsInHanded {} Tryz.checked os 8 .any (Rows.noneToldSpec.pre6 enc Tryz.prog Tryz.f8 Rows.noneToldRow.domain false) (Rows.noneToldSpec.post enc Tryz.prog Tryz.f8 false true false false) := by
  refine returnsInHanded_of_change (C := Tryz.checked) own started (by kernel_rfl) Tryz.func8
    (ChangeSpec.witness6 (enc := enc) (C := Tryz.checked) false ⟨#[], #[.agg #[.int .i64 0, .int .i64 0, .int .i64 0, .int .i64 0, .string ByteArray.empty]], []⟩ 8 (by kernel_rfl) (by kernel_rfl) (by kernel_rfl) (by kernel_rfl)) ?_
  intro W base args ds gs before hval0 hW hcnd _
  have hval : ∀ (j : Nat) t v, Tryz.f8.params[j]? = some t → args[j]? = some v → Value.okWide Tryz.prog W .any base t v := hval0
  have hW' := hW
  obtain ⟨p, q, hA0, hV, rfl, hfz, hnd⟩ := hW
  have hA : DataW.TrodAll enc Tryz.prog W 0 (fun _ => true) true Tryz.f8.params.toList args.toList ds p := hA0
  rw [Tryz.params8] at hA hval
  obtain ⟨v0, vs0, d0, ds0, p0, q0, hargs, rfl, rfl, h0, r0⟩ := trodAll_cons hA
  obtain ⟨rfl, rfl, rfl⟩ := trodAll_nil r0
  obtain rfl : args = #[v0] := by cases args; simp_all
  obtain ⟨rfl, rfl⟩ := trodVars_none hV
  have lt0 : ∀ x ∈ p0, x.block < W.heap.size := by obtain ⟨m, hm⟩ := h0; exact DataW.trod_lt m _ _ _ hm
  have g0 := shape_raw (hval 0 24 v0 rfl rfl) h0
  clear hA0 hval0
  refine (walk v0 W g0).mono fun e W' ⟨he, bel⟩ => ?_
  subst he
  exact ⟨_, rfl, _, _, _, [], _, [], hW', trodAll_mk1 (shut_bool Tryz.underlying4 _), (trodAll_cons_mk (Below.trod laidOut (by kernel_rfl) (of_decide_eq_true (by kernel_rfl)) h0 bel lt0) trodAll_mk0), rfl, bel.frame _, fun h => by cases h⟩

theorem over : Rows.noneToldRow.holds Tryz.pinned (OpenSpec.ofChange Rows.noneToldSpec) :=
  OpenClaim.holds_of_wide 8 Tryz.f8 rfl rfl rfl rfl rfl rfl rfl ⟨rfl, rfl, rfl, rfl, rfl⟩ rfl rfl rfl rfl rfl (by kernel_rfl) Tryz.func8 (by kernel_rfl)
    (of_decide_eq_true (by kernel_rfl)) (by unfold Func.isWrapper; first | (rw [if_pos (by decide +kernel)]; kernel_rfl) | (rw [if_neg (by decide +kernel)]; exact ⟨rfl, rfl⟩))
    (fun os started H enc _ => lifted os started H enc)

end Go.Proofs.YtlfmpgemanbpeaaGreat.noneToldDone
namespace Go.Proofs.YtlfmpgemanbpeaaGreat
theorem NoneTold_holds : Rows.NoneToldSaid := noneToldDone.over
end Go.Proofs.YtlfmpgemanbpeaaGreat
