/- slices.Grow of nothing and slices.Concat of two, at items. -/
import Derived.Test.YtpbgadojocgefaaHf
import Derived.Test.YtpbgadojocgefaaHe
import Derived.Test.YtpbgadojocgefaaGb
import Derived.Lib.AppendZeros
namespace Go.Proofs.Ytpbgadojocgefaa
open Go.RowKit
set_option linter.unusedVariables false
set_option maxRecDepth 100000

theorem wpList_appendRun {P : Program} (w : World) {ops : Array Oper} {rest : List Oper} {o : Oper} {a : Act} {Q : Exit → Act → World → Prop} (hgd : o.guard = none) (d s : Operand) (t t' : TypeId)
    (ho : o.op = .call { callee := .builtin .append, args := #[d, s], argTypes := #[t, t'] }) (v u : Value) (hd : a.eval d = v) (hs : a.eval s = u) {v' : Value} {w' : World}
    (hr : (Builtin.append_ #[t, t'] o.type #[v, u]).run P w = .ok v' w') (h : wpList P ops Q rest (a.put o.dst v') w') : wpList P ops Q (o :: rest) a w := by
  refine wpList_plain hgd fun K hK => ?_
  unfold Oper.wp execOp
  simp only [ho, resolve, invoke, builtin, Sem.run_bind, Sem.run_pure, Result.andThen_ok, List.map_toArray, List.map_cons, List.map_nil, hd, hs, hr]
  exact hK _ _ h

set_option maxHeartbeats 2000000 in
theorem grow_none (n : Nat) (w : World) (hn : n * 104 ≤ 140737488355328) :
    Calls Try.prog 38 #[.slice none 0 0, .int .i64 (n : Int)] w fun e w' => ∃ r, e = .returned r ∧ OwnI w.heap.size w' r [] ∧ Below w.heap.size w w' := by
  obtain ⟨i, hi, hz, hs, hby⟩ := info_parts info_item
  by_cases h0 : n = 0
  · subst h0
    go_enter Try.func38, Try.ntmps38
    go_wp2_with fail
    go_ret
    exact ⟨_, rfl, OwnI.nil _ _, Below.refl _ _⟩
  · have hmk : ∀ ty, (Builtin.append_ #[22, 3] ty #[.slice none 0 0, .int .i64 (n : Int)]).run Try.prog w = .ok (.slice (some ⟨w.heap.size, 0, none⟩) n (grownCap w n 0 46)) (w.drew.alloc (.cells (Builtin.zeroCells zeroIt.cells n ++ Builtin.zeroCells zeroIt.cells (grownCap w n 0 46 - n)) 46)) := fun ty =>
      Go.Lib.run_append_nil_zeros (P := Try.prog) w 22 3 ty 46 i zeroIt .i64 .i64 Try.underlying22 Try.underlying3 hi hz n (by omega) (by rw [hs]; omega) (by omega) (by rw [hby]; omega)
    have hge := grownCap_ge w n 0 46
    have hle := grownCap_le_maxLen w n 0 46 (by unfold maxLen; omega)
    generalize grownCap w n 0 46 = c at hmk hge hle
    have hb0 : Below w.heap.size w (w.drew.alloc (.cells (Builtin.zeroCells zeroIt.cells n ++ Builtin.zeroCells zeroIt.cells (c - n)) 46)) := (Below.refl _ _).drew.alloc (Nat.le_refl _) _
    have ho : OwnI w.heap.size (w.drew.alloc (.cells (Builtin.zeroCells zeroIt.cells n ++ Builtin.zeroCells zeroIt.cells (c - n)) 46)) (.slice (some ⟨w.heap.size, 0, none⟩) 0 c) [] := by
      refine ⟨by simp, .inr ⟨w.heap.size, c, _, by simp, Nat.le_refl _, alloc_at w.drew _, by simp, hle, ?_, by simp⟩⟩
      have e1 : zeroIt.cells.size = 10 := by rfl
      simp [Builtin.zeroCells, e1]; omega
    generalize w.drew.alloc (.cells (Builtin.zeroCells zeroIt.cells n ++ Builtin.zeroCells zeroIt.cells (c - n)) 46) = W at hmk hb0 ho
    have HM : Hid (∀ ty, (Builtin.append_ #[22, 3] ty #[.slice none 0 0, .int .i64 (n : Int)]).run Try.prog w = .ok (.slice (some ⟨w.heap.size, 0, none⟩) n c) W) := hmk
    have hn0 : 0 < n := by omega
    have hn1 : ¬ ((n : Int) < 0) := by omega
    have hn2 : 0 < (n : Int) := by omega
    clear hmk h0
    go_enter Try.func38, Try.ntmps38
    go_wp2_with (at_builtin; refine wpList_appendRun _ rfl _ _ _ _ rfl _ _ rfl rfl (HM.out _) ?_)
    go_ret
    exact ⟨_, rfl, ho, hb0⟩

set_option maxHeartbeats 4000000 in
theorem concat_two (b : Nat) (s1 s2 : Value) (l1 l2 : List Itm) (w : World) (hb : w.heap[b]? = some (.cells #[s1, s2] 22 (0, 0))) (r1 : RowI w s1 l1) (r2 : RowI w s2 l2) (hm : (l1.length + l2.length) * 104 ≤ 140737488355328) :
    Calls Try.prog 31 #[.slice (some ⟨b, 0, none⟩) 2 2] w fun e w' => ∃ r, e = .returned r ∧ OwnI w.heap.size w' r (l1 ++ l2) ∧ Below w.heap.size w w' := by
  have HG : Hid (Calls Try.prog 38 #[.slice none 0 0, .int .i64 ((l1.length : Int) + (l2.length : Int))] w fun e w' => ∃ r, e = .returned r ∧ OwnI w.heap.size w' r [] ∧ Below w.heap.size w w') := by
    have := grow_none (l1.length + l2.length) w hm
    rw [show ((l1.length + l2.length : Nat) : Int) = (l1.length : Int) + (l2.length : Int) by omega] at this
    exact this
  obtain ⟨a1, c1, rfl⟩ : ∃ a c, s1 = .slice a l1.length c := by obtain ⟨-, a, c, rfl, -⟩ := r1; exact ⟨_, _, rfl⟩
  obtain ⟨a2, c2, rfl⟩ : ∃ a c, s2 = .slice a l2.length c := by obtain ⟨-, a, c, rfl, -⟩ := r2; exact ⟨_, _, rfl⟩
  have R1 : Hid (RowI w (.slice a1 l1.length c1) l1) := r1
  have R2 : Hid (RowI w (.slice a2 l2.length c2) l2) := r2
  have HB : Hid (w.heap[b]? = some (.cells #[.slice a1 l1.length c1, .slice a2 l2.length c2] 22 (0, 0))) := hb
  obtain ⟨q1, q2⟩ := cellsB hb
  obtain ⟨q0, q1⟩ : w.cell? ⟨b, 0, none⟩ = some (.slice a1 l1.length c1) ∧ w.cell? ⟨b, 1, none⟩ = some (.slice a2 l2.length c2) := ⟨q1 0, q1 1⟩
  have lb := lt_at hb
  have m1 : (l1.length : Int) ≤ 1353245080340 := by omega
  have m2 : (l2.length : Int) ≤ 1353245080340 := by omega
  clear r1 r2 hb
  go_enter Try.func31, Try.ntmps31
  go_wp2_with fail
  go_loop [3, 11] (fun z c => (c = .int .i64 0 ∧ z = .int .i64 0) ∨ (c = .int .i64 1 ∧ z = .int .i64 (l1.length : Int)) ∨ (c = .int .i64 2 ∧ z = .int .i64 ((l1.length : Int) + (l2.length : Int)))) (fun _ c => 2 - (intOf c).toNat)
  case atStart => exact .inl ⟨rfl, rfl⟩
  case round =>
    rcases hrel with ⟨rfl, rfl⟩ | ⟨rfl, rfl⟩ | ⟨rfl, rfl⟩
    · have t1 : ¬ ((l1.length : Int) < 0) := by omega
      go_wp2_with fail
      exact ⟨.inr (.inl ⟨rfl, rfl⟩), by simp [intOf]⟩
    · have t1 : ¬ ((l1.length : Int) + (l2.length : Int) < 0) := by omega
      go_wp2_with fail
      exact ⟨.inr (.inr ⟨rfl, rfl⟩), by simp [intOf]⟩
    · go_wp2_with fail
      refine HG.out.mono ?_
      rintro e w1 ⟨r, rfl, hown, hb1⟩
      clear HG
      obtain ⟨sa, sc, rfl⟩ := hown.shape
      go_wp2_with fail
      have hst : Hid (OwnI w.heap.size w1 (.slice sa ([] : List Itm).length sc) []) := hown
      clear hown
      go_loopw [6, 27] (fun sv c wr => ∃ A, ((c = .int .i64 0 ∧ A = []) ∨ (c = .int .i64 1 ∧ A = l1) ∨ (c = .int .i64 2 ∧ A = l1 ++ l2)) ∧ OwnI w.heap.size wr sv A ∧ Below w.heap.size w wr) (fun _ c _ => 2 - (intOf c).toNat)
      case atStart => exact ⟨[], .inl ⟨rfl, rfl⟩, hst.out, hb1⟩
      case round =>
        obtain ⟨A, hA, hown, hb⟩ := hrel
        obtain ⟨da, dc, rfl⟩ := hown.shape
        have HO : Hid (OwnI w.heap.size wr (.slice da A.length dc) A) := hown
        have HR1 : Hid (RowI wr (.slice a1 l1.length c1) l1) := R1.out.below hb
        have HR2 : Hid (RowI wr (.slice a2 l2.length c2) l2) := R2.out.below hb
        obtain ⟨p1, p2⟩ := cellsB ((hb.block b lb).trans HB.out)
        obtain ⟨p0, p1⟩ : wr.cell? ⟨b, 0, none⟩ = some (.slice a1 l1.length c1) ∧ wr.cell? ⟨b, 1, none⟩ = some (.slice a2 l2.length c2) := ⟨p1 0, p1 1⟩
        have hsz := hb.size
        clear hown hst hb1
        rcases hA with ⟨rfl, rfl⟩ | ⟨rfl, rfl⟩ | ⟨rfl, rfl⟩
        · go_wp2_with (at_builtin; refine wpList_append_items _ rfl _ _ rfl w.heap.size _ [] rfl HO.out _ l1 rfl HR1.out ?_ ?_ ?_)
          · simp; omega
          · exact hsz
          intro v1 w2 hown1 hg1
          have hB2 : Below w.heap.size w w2 := hb.trans (OwnI.below HO.out hsz hg1)
          obtain ⟨va, vc, rfl⟩ := hown1.shape
          have ho1 : Hid (OwnI w.heap.size w2 (.slice va ([] ++ l1).length vc) l1) := hown1
          clear hown1 hg1 HO HR1 HR2
          go_wp2_with fail
          exact ⟨⟨l1, .inr (.inl ⟨rfl, rfl⟩), ho1.out, hB2⟩, by simp [intOf]⟩
        · go_wp2_with (at_builtin; refine wpList_append_items _ rfl _ _ rfl w.heap.size _ A rfl HO.out _ l2 rfl HR2.out ?_ ?_ ?_)
          · omega
          · exact hsz
          intro v1 w2 hown1 hg1
          have hB2 : Below w.heap.size w w2 := hb.trans (OwnI.below HO.out hsz hg1)
          obtain ⟨va, vc, rfl⟩ := hown1.shape
          have ho1 : Hid (OwnI w.heap.size w2 (.slice va (A ++ l2).length vc) (A ++ l2)) := hown1
          clear hown1 hg1 HO HR1 HR2
          generalize hL : A ++ l2 = L at ho1 ⊢
          have HL : Hid (A ++ l2 = L) := hL
          clear hL
          go_wp2_with fail
          exact ⟨⟨L, .inr (.inr ⟨rfl, HL.out.symm⟩), ho1.out, hB2⟩, by simp [intOf]⟩
        · generalize hL : l1 ++ l2 = L at HO ⊢
          have HL : Hid (l1 ++ l2 = L) := hL
          clear HR1 HR2 hL
          go_wp2_with fail
          go_ret
          exact ⟨_, rfl, by rw [HL.out]; exact HO.out, hb⟩

set_option maxHeartbeats 4000000 in
theorem laid_any (b t : Int) (s : Value) (l : List Itm) (k : Nat) (xs : Value) (x : List Itm) (w : World) (hr : RowI w s l) (hx : RowI w xs x) (h0 : 0 ≤ b) (h1 : b + l.length ≤ 1048576) (hk : k ≤ l.length) (hm : x.length ≤ 1048576) :
    Calls Try.prog 19 #[logV b t s, .int .i64 (b + 1 + k), xs] w fun e w' => ∃ r, e = .returned (logV b t r) ∧ OwnI w.heap.size w' r (l.take k ++ x) ∧ Below w.heap.size w w' := by
  obtain ⟨a, cap, rfl⟩ : ∃ a c, s = .slice a l.length c := by obtain ⟨-, a, c, rfl, -⟩ := hr; exact ⟨_, _, rfl⟩
  have hkc : k ≤ cap ∧ cap ≤ 9223372036854775807 ∧ l.length ≤ cap := by
    obtain ⟨-, a', c', he, q1, q2, -⟩ := hr
    simp only [Value.slice.injEq, true_and] at he
    omega
  have hlen : (l.take k).length = k := by simp; omega
  have hpiece : ∀ W, Below w.heap.size w W → ∀ c, k ≤ c → c ≤ 9223372036854775807 → RowI W (.slice a k c) (l.take k) := fun W hW c q1 q2 => by
    obtain ⟨hl, a', c', he, k1, k2, k3⟩ := hr
    simp only [Value.slice.injEq, true_and] at he
    obtain ⟨rfl, rfl⟩ := he
    refine ⟨by rw [hlen]; omega, a, c, by rw [hlen], by rw [hlen]; exact q1, q2, ?_⟩
    rcases k3 with rfl | ⟨bk, off, ha, hbk, hc⟩
    · exact .inl (by simp)
    · exact .inr ⟨bk, off, ha, bsize hW hbk, fun i hi q hq => by
        have hi' : i < l.length := by rw [hlen] at hi; omega
        have := (hW.cell (p := ⟨bk, off + i * 10 + q, none⟩) hbk).trans (hc i hi' q hq)
        rw [this]; simp⟩
  have HC : Hid (∀ (W : World) (bb : Nat) (c : Nat), Below w.heap.size w W → k ≤ c → c ≤ 9223372036854775807 → W.heap[bb]? = some (.cells #[.slice a k c, xs] 22 (0, 0)) → Calls Try.prog 31 #[.slice (some ⟨bb, 0, none⟩) 2 2] W fun e w' => ∃ r, e = .returned r ∧ OwnI W.heap.size w' r (l.take k ++ x) ∧ Below W.heap.size W w') := fun W bb c hW q1 q2 hn =>
    concat_two bb _ _ _ _ W hn (hpiece W hW c q1 q2) (hx.below hW) (by rw [hlen]; omega)
  obtain ⟨xa, xc, rfl⟩ : ∃ a c, xs = .slice a x.length c := by obtain ⟨-, a, c, rfl, -⟩ := hx; exact ⟨_, _, rfl⟩
  have x1 : IntKind.i64.wrap (b + 1 + (k : Int) - b) = 1 + k := by rw [IntKind.wrap_i64]; omega
  have x2 : IntKind.i64.wrap (1 + (k : Int) - 1) = k := by rw [IntKind.wrap_i64]; omega
  have y1 : wrap64 (b + 1 + (k : Int) - b) = 1 + k := by unfold wrap64; omega
  have y2 : wrap64 (1 + (k : Int) - 1) = k := by unfold wrap64; omega
  have hk0 : (k : Int) ≤ (l.length : Int) := by omega
  generalize l.take k ++ x = L at *
  clear hr hx hpiece hlen
  go_enter Try.func19, Try.ntmps19
  go_wp2_with fail
  obtain ⟨n0, n1, n2, hB0, hs0⟩ := three_at w (logO b t (.slice a l.length cap)) (logO 0 0 (.slice none 0 0)) (.cells #[.slice a k cap, .slice xa x.length xc] 22)
  generalize ((w.alloc (logO b t (.slice a l.length cap))).alloc (logO 0 0 (.slice none 0 0))).alloc (.cells #[.slice a k cap, .slice xa x.length xc] 22) = V at n0 n1 n2 hB0 hs0 ⊢
  refine (HC.out _ _ _ hB0 (by omega) (by omega) n2).mono ?_
  rintro e w1 ⟨r, rfl, hown, hb1⟩
  have hB1 := bstep hB0 hb1
  have m0 := (hb1.block _ (lt_at n0)).trans n0
  have m1 := (hb1.block _ (lt_at n1)).trans n1
  have ho : OwnI (w.heap.size + 3) w1 r L := by rw [← hs0]; exact hown
  obtain ⟨sa, sc, rfl⟩ := hown.shape
  obtain ⟨c0, f0⟩ := cellsB m0
  obtain ⟨c1, f1⟩ := cellsB m1
  have hz0 := lt_at m0
  have hz1 := lt_at m1
  clear hown hb1 n0 n1 n2 hB0 hs0 HC m0 m1
  go_wp2_with fail
  refine bodyPost_ret (v := logV b t (.slice sa L.length sc)) (by simp [results, Try.results19, go_sem, c1]) rfl ⟨_, rfl, ?_, ?_⟩
  · refine OwnI.base (B := w.heap.size + 3) ?_ (by omega)
    refine OwnI.setCell (OwnI.setCell (OwnI.setCell (OwnI.setCell ho ?_ _) ?_ _) ?_ _) ?_ _
    · show w.heap.size < w.heap.size + 3; omega
    all_goals (show w.heap.size + 1 < w.heap.size + 3; omega)
  · exact (((hB1.setCell (by simp) _).setCell (by simp) _).setCell (by simp) _).setCell (by simp) _
end Go.Proofs.Ytpbgadojocgefaa
