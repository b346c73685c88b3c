/- The document's copy of a store: rostrumref.StoreCopy. -/
import Derived.Test.YtnlaehpldmkdoaaSt
import Derived.Test.YtnlaehpldmkdoaaVcp
import Derived.Test.YtnlaehpldmkdoaaOv
import Derived.Test.YtnlaehpldmkdoaaUl
namespace Go.Proofs.Ytnlaehpldmkdoaa
open Go.RowKit
set_option linter.unusedVariables false
set_option maxRecDepth 100000

/-- A store's copy, as far as it is made. -/
structure SC (w : World) (now : Int) (es : Value) (E A : List Ent) (sv : Value) (wr : World) : Prop where
  le : A.length ≤ E.length
  size : w.heap.size + 3 ≤ wr.heap.size
  below : Below w.heap.size w wr
  n0 : wr.heap[w.heap.size]? = some (stoO now es)
  n1 : wr.heap[w.heap.size + 1]? = some (stoO 0 (.slice none 0 0))
  n2 : wr.heap[w.heap.size + 2]? = some (stoO now sv)
  own : wr.ownsRow (w.heap.size + 3) 92 8 sv A.length (A.flatMap encE)
  same : A.map (·.kv) = (E.take A.length).map (·.kv)
  lists : ∀ e ∈ A, OwnVL (w.heap.size + 3) wr e.ps e.is e.ss e.kv.x
theorem SC.mid {w wr w2 : World} {now : Int} {es sv : Value} {E A : List Ent} (h : SC w now es E A sv wr) (hb : Below wr.heap.size wr w2) : SC w now es E A sv w2 where
  le := h.le
  size := Nat.le_trans h.size hb.size
  below := bstep h.below hb
  n0 := (hb.block _ (lt_at h.n0)).trans h.n0
  n1 := (hb.block _ (lt_at h.n1)).trans h.n1
  n2 := (hb.block _ (lt_at h.n2)).trans h.n2
  own := ownsRow_kept h.own hb
  same := h.same
  lists := fun e he => (h.lists e he).kept hb
theorem flatE_snoc (A : List Ent) (e : Ent) : (A ++ [e]).flatMap encE = A.flatMap encE ++ encE e := by simp
theorem SC.next {w wr w1 : World} {now : Int} {es sv v' : Value} {E A : List Ent} {e : Ent} {ob : Obj} (h : SC w now es E A sv wr) (hlt : A.length < E.length) (hkv : e.kv = E[A.length].kv) (hl : OwnVL (w.heap.size + 3) wr e.ps e.is e.ss e.kv.x)
    (hown : w1.ownsRow (w.heap.size + 3) 92 8 v' (A.length + 1) (A.flatMap encE ++ encE e)) (hg : (wr.alloc ob).grownBy w1 sv.ownBlock) : SC w now es E (A ++ [e]) v' (w1.setCell ⟨w.heap.size + 2, 1, none⟩ v') := by
  have hO := World.ownsRow.alloc h.own ob
  have k : ∀ {bk : Nat} {o : Obj}, bk < w.heap.size + 3 → wr.heap[bk]? = some o → w1.heap[bk]? = some o := fun {bk o} hb hn => box_kept hO hb ((Below.heap_alloc _ _ _ (lt_at hn)).trans hn) hg
  have hB1 : Below w.heap.size w w1 := (h.below.alloc h.below.size ob).grown hg (by simp; have := h.size; omega) (fun j hj => by have := (World.ownsRow.lt hO j hj).1; omega)
  have hz : w.heap.size + 3 ≤ w1.heap.size := by have := hg.size; have := h.size; simp at *; omega
  have hs : ∀ {t : TypeId} {kk n : Nat} {v : Value} {xs : List Value}, wr.ownsRow (w.heap.size + 3) t kk v n xs → t ≠ 92 → (w1.setCell ⟨w.heap.size + 2, 1, none⟩ v').ownsRow (w.heap.size + 3) t kk v n xs := fun hr hne =>
    ownsRow_setCell_below (row_kept hO (World.ownsRow.alloc hr ob) hne hg) (a := ⟨w.heap.size + 2, 1, none⟩) (by show w.heap.size + 2 < w.heap.size + 3; omega) v'
  have hs3 := ownsRow_setCell_below hown (a := ⟨w.heap.size + 2, 1, none⟩) (by show w.heap.size + 2 < w.heap.size + 3; omega) v'
  have hL : ∀ x : Ent, OwnVL (w.heap.size + 3) wr x.ps x.is x.ss x.kv.x → OwnVL (w.heap.size + 3) (w1.setCell ⟨w.heap.size + 2, 1, none⟩ v') x.ps x.is x.ss x.kv.x := fun x hx => ⟨hs hx.p (by decide), hs hx.i (by decide), hs hx.s (by decide)⟩
  exact {
    le := by simp; omega
    size := by simpa [World.setCell] using hz
    below := hB1.setCell (by simp) _
    n0 := (Below.heap_setCell _ _ _ _ (by simp)).trans (k (by omega) h.n0)
    n1 := (Below.heap_setCell _ _ _ _ (by simp)).trans (k (by omega) h.n1)
    n2 := setCell_in v' (o := 1) (k (by omega) h.n2)
    own := by rw [flatE_snoc]; simpa using hs3
    same := by
      rw [List.map_append, h.same, List.length_append, List.length_singleton, List.take_succ_eq_append_getElem hlt, List.map_append]
      simp [hkv]
    lists := fun x hx => by
      rcases List.mem_append.1 hx with hx | hx
      · exact hL x (h.lists x hx)
      · rw [List.mem_singleton] at hx; subst hx; exact hL _ hl }
theorem SC.cells {w wr w1 : World} {now : Int} {es sv : Value} {E A : List Ent} {ob : Obj} (h : SC w now es E A sv wr) (hg : (wr.alloc ob).grownBy w1 sv.ownBlock) :
    (∀ j, w1.cell? ⟨w.heap.size + 2, j, none⟩ = #[Value.int .i64 now, sv][j]?) ∧ (∀ j, w1.frozen? ⟨w.heap.size + 2, j, none⟩ = false) :=
  cellsB (box_kept (World.ownsRow.alloc h.own ob) (by omega) ((Below.heap_alloc _ _ _ (lt_at h.n2)).trans h.n2) hg)
theorem hideP {p : Prop} (h : p) : Hid p := h
/-- A call of a Go function of one argument, as one step of a region that draws. -/
theorem step_call1 {P : Program} {ops : Array Oper} {o : Oper} {a : Act} {w : World} {K : Act → World → Prop} {Q : Exit → Act → World → Prop} {E : Prop}
    (hgd : o.guard = none) (f : FuncId) (x : Operand) (t : Array TypeId) (ho : o.op = .call { callee := .value (.func f), args := #[x], argTypes := t })
    (he : ∀ args w, (callFunc f args).run P w = .ok (.enter f args) w) (u : Value) (hx : a.eval x = u) {R : Value → World → Prop}
    (hc : Calls P f #[u] w fun e w' => ∃ z, e = .returned z ∧ R z w') (h : ∀ z w', R z w' → K (a.put o.dst z) w') :
    if Region.wanted o (yielded ops a.tmps) = true then Oper.wp P o a w K Q else E := by
  have hw : Region.wanted o (yielded ops a.tmps) = true := by simp [Region.wanted, hgd]
  rw [if_pos hw]
  unfold Oper.wp
  have hf : a.eval (.func f) = .func (.func f) #[] #[] := rfl
  simp [execOp, ho, resolve, invoke, Deferred.ofValue, hf, hx, he, Oper.upon]
  refine hc.mono ?_
  rintro e w' ⟨z, rfl, hr⟩
  exact h z w' hr
theorem egVC : ∀ args w, (callFunc 15 args).run Try.prog w = .ok (.enter 15 args) w := enters_of Try.func15 (by kernel_rfl) rfl

set_option maxHeartbeats 16000000 in
theorem storeCopy_core (now : Int) (ea : Option Addr) (ec : Nat) (E : List Ent) (w : World) (hrow : RowW 8 encE w (.slice ea E.length ec) E) (hls : ∀ e ∈ E, ListsW w e.ps e.is e.ss e.kv.x) (hft : ∀ e ∈ E, fitsV e.kv.x) (hby : E.length * 128 ≤ 140737488355328) :
    Calls Try.prog 18 #[stoV now (.slice ea E.length ec)] w fun e w' => ∃ (sv : Value) (A : List Ent), e = .returned (stoV now sv) ∧ w'.ownsRow w.heap.size 92 8 sv A.length (A.flatMap encE) ∧ A.map (·.kv) = E.map (·.kv) ∧ (∀ e ∈ A, OwnVL w.heap.size w' e.ps e.is e.ss e.kv.x) ∧ Below w.heap.size w w' := by
  have hRe : reachBytes = 140737488351232 := rfl
  obtain ⟨iE, hiE, hzE, hkE, hlE⟩ := info_parts info_entry
  have HR : Hid (RowW 8 encE w (.slice ea E.length ec) E) := hrow
  have HLS : Hid (∀ e ∈ E, ListsW w e.ps e.is e.ss e.kv.x) := hls
  have HFT : Hid (∀ e ∈ E, fitsV e.kv.x) := hft
  have hel := hrow.1
  clear hrow hls hft
  go_enter Try.func18, Try.ntmps18
  go_wp2
  obtain ⟨n0, n1, n2, hB0, hs0⟩ := three_newC w (stoO now (.slice ea E.length ec)) (stoO 0 (.slice none 0 0)) (stoO now (.slice none 0 0))
  generalize ((w.alloc (stoO now (.slice ea E.length ec))).alloc (stoO 0 (.slice none 0 0))).alloc (stoO now (.slice none 0 0)) = V0 at n0 n1 n2 hB0 hs0 ⊢
  have ST : Hid (SC w now (.slice ea E.length ec) E [] (.slice none 0 0) V0) := ⟨by simp, by omega, hB0, n0, n1, n2, World.ownsRow_nil _ _ _ _, by simp, fun e he => by simp at he⟩
  clear n0 n1 n2 hB0 hs0
  rw [show w.heap.size + 1 + 1 = w.heap.size + 2 from rfl]
  go_loopw [4] (fun c wr => ∃ (A : List Ent) (sv : Value), c = .int .i64 (A.length : Int) ∧ SC w now (.slice ea E.length ec) E A sv wr) (fun c _ => E.length - (intOf c).toNat)
  case atStart => exact ⟨[], _, by simp, ST.out⟩
  case round =>
    clear ST
    obtain ⟨A, sv, rfl, hst⟩ := hrel
    obtain ⟨q0, f0⟩ := cellsB hst.n0
    obtain ⟨va, vc, hsv⟩ := ownsRow_shape hst.own
    subst hsv
    have HST : Hid (SC w now (.slice ea E.length ec) E A (.slice va A.length vc) wr) := hst
    by_cases hlt : A.length < E.length
    · have hi0 : (A.length : Int) < (E.length : Int) := by omega
      obtain ⟨-, a', cap', hs', k1, k2, k3⟩ := HR.out
      obtain ⟨rfl, -, rfl⟩ := Value.slice.inj hs'
      rcases k3 with h0 | ⟨b, off, rfl, hbk, hc⟩
      · rw [h0] at hlt; simp at hlt
      · have hcw : ∀ i (h : i < E.length) (c : Nat), c < 8 → wr.cell? ⟨b, off + i * 8 + c, none⟩ = (encE E[i])[c]? := fun i hi c hk => (hst.below.cell (p := ⟨b, off + i * 8 + c, none⟩) hbk).trans (hc i hi c hk)
        obtain ⟨c0, c1, c2, c3, c4, c5, c6, c7⟩ := eightE hcw A.length hlt
        have hlm := HLS.out E[A.length] (List.getElem_mem hlt)
        have hfm := HFT.out E[A.length] (List.getElem_mem hlt)
        have hkvE : ∃ y : Ent, y = E[A.length] := ⟨_, rfl⟩
        obtain ⟨⟨⟨key, ⟨kind, text, count, pairs, items, scores⟩, til⟩, pa, pc, ia, ic, sa, sc⟩, hel2⟩ := hkvE
        have HKV : Hid (E[A.length].kv = ⟨key, ⟨kind, text, count, pairs, items, scores⟩, til⟩) := by show E[A.length].kv = _; rw [← hel2]
        rw [← hel2] at c0 c1 c2 c3 c4 c5 c6 c7 hlm hfm
        simp only at c0 c1 c2 c3 c4 c5 c6 c7 hlm hfm
        clear hel2 hcw hc hs'
        have hvc := fun W (hW : Below w.heap.size w W) => valueCopy_core kind text count pairs items scores pa ia sa pc ic sc W (hlm.below hW) (by have := hfm.1; simp only at this; omega) (by have := hfm.2.1; simp only at this; omega) (by have := hfm.2.2; simp only at this; omega)
        have hm63 : A.length + 1 ≤ maxLen := by unfold maxLen; omega
        have hm47 : (A.length + 1) * 128 ≤ 140737488355328 := by omega
        have HNB : Hid (some wr.heap.size ≠ (Value.slice va A.length vc).ownBlock) := fun h => by have := (World.ownsRow.lt hst.own _ h.symm).2; omega
        clear hlm hfm hst
        go_upto_region 6 with fail
        have n1 := alloc_at wr (entO key kind text count (.slice pa pairs.length pc) (.slice ia items.length ic) (.slice sa scores.length sc) til)
        have hV := HST.out.mid (balloc wr (entO key kind text count (.slice pa pairs.length pc) (.slice ia items.length ic) (.slice sa scores.length sc) til))
        clear HST c0 c1 c2 c3 c4 c5 c6 c7 q0 f0
        generalize wr.alloc (entO key kind text count (.slice pa pairs.length pc) (.slice ia items.length ic) (.slice sa scores.length sc) til) = V at n1 hV ⊢
        generalize wr.heap.size = b1 at n1 HNB ⊢
        obtain ⟨q2, f2⟩ := cellsB hV.n2
        obtain ⟨q1, f1⟩ := cellsB n1
        have HV : Hid (SC w now (.slice (some ⟨b, off, none⟩) E.length ec) E A (.slice va A.length vc) V) := hV
        have hb1 := lt_at n1
        have N1 : Hid (V.heap[b1]? = some (entO key kind text count (.slice pa pairs.length pc) (.slice ia items.length ic) (.slice sa scores.length sc) til)) := n1
        have hb2' := lt_at hV.n2
        have HC : Hid (∀ W, Below V.heap.size V W → Calls Try.prog 15 #[valV kind text count (.slice pa pairs.length pc) (.slice ia items.length ic) (.slice sa scores.length sc)] W fun e w' => ∃ z, e = .returned z ∧ ((∃ pv iv sv, z = valV kind text count pv iv sv ∧ OwnVL V.heap.size w' pv iv sv ⟨kind, text, count, pairs, items, scores⟩) ∧ Below V.heap.size V w')) := fun W hW =>
          (hvc W (bstep hV.below hW)).mono fun e w' ⟨pv, iv, sv, h1, h2, h3⟩ => ⟨_, h1, ⟨pv, iv, sv, rfl, h2.base hW.size⟩, bstep hW h3⟩
        clear hV n1 hvc
        have hL2 : V.cell? ⟨w.heap.size + 2, 1, none⟩ = some (.slice va A.length vc) := q2 1
        refine region_but 13 14 (fun W => W.cell? ⟨w.heap.size + 2, 1, none⟩ = some (.slice va A.length vc) ∧ W.cell? ⟨b1, 0, none⟩ = some (.string key) ∧ W.cell? ⟨b1, 1, none⟩ = some (.int .i64 kind) ∧ W.cell? ⟨b1, 2, none⟩ = some (.string text) ∧ W.cell? ⟨b1, 3, none⟩ = some (.int .i64 count) ∧ W.cell? ⟨b1, 4, none⟩ = some (.slice pa pairs.length pc) ∧ W.cell? ⟨b1, 5, none⟩ = some (.slice ia items.length ic) ∧ W.cell? ⟨b1, 6, none⟩ = some (.slice sa scores.length sc) ∧ W.cell? ⟨b1, 7, none⟩ = some (.int .i64 til)) (by kernel_rfl) (by kernel_rfl) (by (try dsimp only); go_keep) (fun hHeld => ?_)
        refine but_takeL (i := 0) (v := ?_) rfl (by kernel_rfl) (by kernel_rfl) (by kernel_rfl) (by kernel_rfl) (fun _ _ _ h => h) (Or.inl ⟨by rfl, ?_⟩) (by assumption) ?_
        rotate_left
        · (intro w hSw; (try dsimp only at hSw); go_simp <;> with_reducible rfl)
        try simp only [Act.put, List.setIfInBounds_toArray, List.set_cons_zero, List.set_cons_succ]
        refine but_takeL (i := 1) (v := ?_) rfl (by kernel_rfl) (by kernel_rfl) (by kernel_rfl) (by kernel_rfl) (fun _ _ _ h => h) (Or.inl ⟨by rfl, ?_⟩) (by assumption) ?_
        rotate_left
        · (intro w hSw; (try dsimp only at hSw); go_simp <;> with_reducible rfl)
        try simp only [Act.put, List.setIfInBounds_toArray, List.set_cons_zero, List.set_cons_succ]
        refine but_takeL (i := 2) (v := ?_) rfl (by kernel_rfl) (by kernel_rfl) (by kernel_rfl) (by kernel_rfl) (fun _ _ _ h => h) (Or.inl ⟨by rfl, ?_⟩) (by assumption) ?_
        rotate_left
        · (intro w hSw; (try dsimp only at hSw); go_simp <;> with_reducible rfl)
        try simp only [Act.put, List.setIfInBounds_toArray, List.set_cons_zero, List.set_cons_succ]
        refine but_takeL (i := 3) (v := ?_) rfl (by kernel_rfl) (by kernel_rfl) (by kernel_rfl) (by kernel_rfl) (fun _ _ _ h => h) (Or.inl ⟨by rfl, ?_⟩) (by assumption) ?_
        rotate_left
        · (intro w hSw; (try dsimp only at hSw); go_simp <;> with_reducible rfl)
        try simp only [Act.put, List.setIfInBounds_toArray, List.set_cons_zero, List.set_cons_succ]
        refine but_takeL (i := 4) (v := ?_) rfl (by kernel_rfl) (by kernel_rfl) (by kernel_rfl) (by kernel_rfl) (fun _ _ _ h => h) (Or.inl ⟨by rfl, ?_⟩) (by assumption) ?_
        rotate_left
        · (intro w hSw; (try dsimp only at hSw); go_simp <;> with_reducible rfl)
        try simp only [Act.put, List.setIfInBounds_toArray, List.set_cons_zero, List.set_cons_succ]
        refine but_takeL (i := 5) (v := ?_) rfl (by kernel_rfl) (by kernel_rfl) (by kernel_rfl) (by kernel_rfl) (fun _ _ _ h => h) (Or.inl ⟨by rfl, ?_⟩) (by assumption) ?_
        rotate_left
        · (intro w hSw; (try dsimp only at hSw); go_simp <;> with_reducible rfl)
        try simp only [Act.put, List.setIfInBounds_toArray, List.set_cons_zero, List.set_cons_succ]
        refine but_takeL (i := 7) (v := ?_) rfl (by kernel_rfl) (by kernel_rfl) (by kernel_rfl) (by kernel_rfl) (fun _ _ _ h => h) (Or.inl ⟨by rfl, ?_⟩) (by assumption) ?_
        rotate_left
        · (intro w hSw; (try dsimp only at hSw); go_simp <;> with_reducible rfl)
        try simp only [Act.put, List.setIfInBounds_toArray, List.set_cons_zero, List.set_cons_succ]
        refine but_takeL (i := 8) (v := ?_) rfl (by kernel_rfl) (by kernel_rfl) (by kernel_rfl) (by kernel_rfl) (fun _ _ _ h => h) (Or.inl ⟨by rfl, ?_⟩) (by assumption) ?_
        rotate_left
        · (intro w hSw; (try dsimp only at hSw); go_simp <;> with_reducible rfl)
        try simp only [Act.put, List.setIfInBounds_toArray, List.set_cons_zero, List.set_cons_succ]
        refine but_stepL (i := 6) (by kernel_rfl) rfl (fun K hK => ?_)
        (refine step_call1 rfl 15 (.tmp 26) _ rfl egVC (valV kind text count (.slice pa pairs.length pc) (.slice ia items.length ic) (.slice sa scores.length sc)) (by simp [Act.eval]) (HC.out _ (Below.refl _ _).drew) ?_; rintro z w2 ⟨⟨pv, iv, sv, rfl, hown⟩, hb2⟩; obtain ⟨a1, c1, rfl⟩ := ownsRow_shape hown.p; obtain ⟨a2, c2, rfl⟩ := ownsRow_shape hown.i; obtain ⟨a3, c3, rfl⟩ := ownsRow_shape hown.s; have HV2 : Hid _ := HV.out.mid hb2; have HOW : Hid _ := hown; have HB2 : Hid _ := hb2; obtain ⟨z2, zf2⟩ := cellsB HV2.out.n2; obtain ⟨z1, zf1⟩ := cellsB ((hb2.block _ hb1).trans N1.out); have zl1 := bsize hb2 hb1; have zl2 := bsize hb2 hb2')
        refine hK.out _ _ (Or.inr (by (try dsimp only); go_keep)) (fun hHeld => ?_)
        replace hHeld := hHeld.resolve_left (by decide)
        clear hK K
        try simp only [Act.put, List.setIfInBounds_toArray, List.set_cons_zero, List.set_cons_succ]
        refine but_takeL (i := 9) (v := ?_) rfl (by kernel_rfl) (by kernel_rfl) (by kernel_rfl) (by kernel_rfl) (fun _ _ _ h => h) (Or.inl ⟨by rfl, ?_⟩) (by assumption) ?_
        rotate_left
        · (intro w hSw; (try dsimp only at hSw); go_simp <;> with_reducible rfl)
        try simp only [Act.put, List.setIfInBounds_toArray, List.set_cons_zero, List.set_cons_succ]
        refine but_stepL (i := 10) (by kernel_rfl) rfl (fun K hK => ?_)
        (go_simp)
        refine hK.out _ _ (Or.inr (by (try dsimp only); go_keep)) (fun hHeld => ?_)
        replace hHeld := hHeld.resolve_left (by decide)
        clear hK K
        try simp only [Act.put, List.setIfInBounds_toArray, List.set_cons_zero, List.set_cons_succ]
        refine but_stepL (i := 11) (by kernel_rfl) rfl (fun K hK => ?_)
        (refine step_append_one rfl (.tmp 22) (.tmp 31) 31 rfl (w.heap.size + 3) 92 iE zeroE 8 128 Try.underlying31 hiE hzE hkE hlE rfl (by decide) (.slice va A.length vc) A.length (A.flatMap encE) (by simp [Act.eval]) (World.ownsRow.alloc (HV2.out.own) (entO key kind text count (.slice a1 pairs.length c1) (.slice a2 items.length c2) (.slice a3 scores.length c3) til)) ⟨w2.heap.size, 0, none⟩ 1 1 (encE ⟨⟨key, ⟨kind, text, count, pairs, items, scores⟩, til⟩, a1, c1, a2, c2, a3, c3⟩) (by simp [Act.eval]) rfl one_cells (oneE _) hm63 hm47 (by have := HV2.out.size; simp; omega) ?_; intro v' w1 hown1 hg2; obtain ⟨va', vc', rfl⟩ := ownsRow_shape hown1; obtain ⟨y1, y2⟩ := SC.cells HV2.out hg2; obtain ⟨x1, x2⟩ := cellsB ((hg2.block b1 (by simp; omega) HNB.out).trans ((Below.heap_alloc _ _ _ zl1).trans ((HB2.out.block _ hb1).trans N1.out))))
        refine hK.out _ _ (Or.inr (by (try dsimp only); go_keep)) (fun hHeld => ?_)
        replace hHeld := hHeld.resolve_left (by decide)
        clear hK K
        try simp only [Act.put, List.setIfInBounds_toArray, List.set_cons_zero, List.set_cons_succ]
        refine but_takeL (i := 12) (v := ?_) rfl (by kernel_rfl) (by kernel_rfl) (by kernel_rfl) (by kernel_rfl) (fun _ _ _ h => h) (Or.inl ⟨by rfl, ?_⟩) (by assumption) ?_
        rotate_left
        · (intro w hSw; (try dsimp only at hSw); go_simp <;> with_reducible rfl)
        try simp only [Act.put, List.setIfInBounds_toArray, List.set_cons_zero, List.set_cons_succ]
        refine but_stepL (i := 13) (by kernel_rfl) rfl (fun K hK => ?_)
        (go_simp)
        refine hK.out _ _ (Or.inl (by decide)) (fun _ => ?_)
        clear hK K
        try simp only [Act.put, List.setIfInBounds_toArray, List.set_cons_zero, List.set_cons_succ]
        refine but_done (by kernel_rfl) ?_
        have hnx := SC.next HV2.out hlt HKV.out.symm (HOW.out.base HV.out.size) hown1 hg2
        clear hown1 hg2 y1 y2
        go_wp2_with fail
        exact ⟨⟨_, _, by simp, hnx⟩, by simp [intOf]; omega⟩
    · have hge : ¬ (A.length : Int) < (E.length : Int) := by omega
      have hAl : A.length = E.length := by have := hst.le; omega
      obtain ⟨q1, f1⟩ := cellsB hst.n1
      obtain ⟨q2, f2⟩ := cellsB hst.n2
      have z1 : w.heap.size + 1 < wr.heap.size := by have := hst.size; omega
      have z2 : w.heap.size + 2 < wr.heap.size := by have := hst.size; omega
      have HAL : Hid (A.length = E.length) := hAl
      have hown : ∀ {e : TypeId} {k n : Nat} {v : Value} {xs : List Value} {u0 u1 : Value}, wr.ownsRow (w.heap.size + 3) e k v n xs →
          (((wr.setCell ⟨w.heap.size + 1, 0, none⟩ u0).setCell ⟨w.heap.size + 1, 1, none⟩ u1)).ownsRow (w.heap.size + 3) e k v n xs := by
        intro e k n v xs u0 u1 h
        refine ownsRow_setCell_below (ownsRow_setCell_below h ?_ _) ?_ _
        all_goals (show w.heap.size + 1 < w.heap.size + 3; omega)
      clear hst hAl
      go_wp2_with fail
      refine bodyPost_ret (v := stoV now (.slice va A.length vc)) (by simp [results, Try.results18, go_sem, q1]) rfl ?_
      first | refine ⟨_, rfl, A, ownsRow_base (hown HST.out.own) (by omega), ?_, ?_, ?_⟩ | refine ⟨_, A, rfl, ownsRow_base (hown HST.out.own) (by omega), ?_, ?_, ?_⟩
      · rw [HST.out.same, HAL.out, List.take_length]
      · intro e he
        have h := HST.out.lists e he
        exact OwnVL.base ⟨hown h.p, hown h.i, hown h.s⟩ (by omega)
      · exact (HST.out.below.setCell (by simp) _).setCell (by simp) _

theorem storeCopy_any (v : Value) (s : Sto) (w : World) (h : RepsSW w v s) (hft : ∀ e ∈ s.es, fitsV e.x) (hby : s.es.length * 128 ≤ reachBytes) :
    Calls Try.prog 18 #[v] w fun e w' => ∃ v', e = .returned v' ∧ RepsSt w' v' s ∧ Below w.heap.size w w' := by
  obtain ⟨es, E, rfl, hrow, hls, hE⟩ := h
  obtain ⟨ea, ec, rfl, hl, -⟩ := hrow.shape
  have hRe : reachBytes = 140737488351232 := rfl
  have hlen : E.length = s.es.length := by rw [← hE]; simp
  refine (storeCopy_core s.now ea ec E w hrow hls (fun e he => hft e.kv (by rw [← hE]; exact List.mem_map_of_mem he)) (by omega)).mono ?_
  rintro e w' ⟨sv, A, rfl, hown, hA, hl', hb⟩
  refine ⟨_, rfl, ⟨sv, A, rfl, ?_, ?_, hA.trans hE⟩, hb⟩
  · refine RowAt.ofOwn lenE hown ?_
    have : A.length = E.length := by have := congrArg List.length hA; simpa using this
    omega
  · intro x hx
    have hm : x.kv ∈ s.es := by rw [← hE, ← hA]; exact List.mem_map_of_mem hx
    obtain ⟨m1, m2, m3⟩ := hft _ hm
    exact (hl' x hx).lists (by omega) (by omega) (by omega)
end Go.Proofs.Ytnlaehpldmkdoaa
