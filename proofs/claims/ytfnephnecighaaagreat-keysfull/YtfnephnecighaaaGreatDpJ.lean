/- An entry that was found is dropped: (*store.deed).drop, remove. All keys: keys. -/
import Derived.Test.YtfnephnecighaaaGreatSvJ
namespace Go.Proofs.YtfnephnecighaaaGreat
open Go.RowKit
set_option linter.unusedVariables false
set_option maxRecDepth 100000

theorem grown_thru {W W2 W3 : World} {ob : Option Nat} (hW : Below W.heap.size W W2) (hg : W2.grownBy W3 ob) : W.grownBy W3 ob :=
  ⟨hg.os.trans hW.os, hg.tape.trans hW.tape, hg.output.trans hW.output, Nat.le_trans hW.size hg.size, fun b hl hne => (hg.block b (Nat.lt_of_lt_of_le hl hW.size) hne).trans (hW.block b hl)⟩
theorem drew_grown {W W2 : World} {ob : Option Nat} (hg : W.drew.grownBy W2 ob) : W.grownBy W2 ob := grown_undraw hg

set_option maxHeartbeats 4000000 in
theorem drop_any (w wr : World) (now : Int) (p : Nat) (c : Cmd) (found : Bool) (F : List Ent) (D : Nat) (es : Value) (h : Deed w now c (p : Int) found F D es wr) (hp : p < F.length) (hn : F.length ≤ 1048576) :
    Calls Tryz.prog 105 #[.pointer (some ⟨D, 0, none⟩)] wr fun e w' => e = .returned (.tuple #[]) ∧ ∃ r, Deed w now c (p : Int) found (cutAt F p) D r w' ∧ Kept D es.ownBlock wr w' := by
  obtain ⟨a1, e1, rfl⟩ := ownsRow_shape h.own
  have HDL : Hid (∀ W, Below wr.heap.size wr W → Calls Tryz.prog 144 #[.slice a1 F.length e1, .int .i64 (p : Int), .int .i64 ((p : Int) + 1)] W fun e w' => ∃ a2 m e2, e = .returned (.slice a2 m e2) ∧ (w'.ownsRow w.heap.size 57 8 (.slice a2 m e2) (F.length - 1) ((F.take p ++ F.drop (p + 1)).flatMap encE) ∧ wr.grownBy w' (Value.slice a1 F.length e1).ownBlock ∧ (Value.slice a2 m e2).ownBlock = (Value.slice a1 F.length e1).ownBlock)) := fun W hW =>
    (deleteE_any w.heap.size p _ F W (ownsRow_kept h.own hW) hp hn).mono fun e w' ⟨r, h1, h2, h3, h4⟩ => by
      obtain ⟨a2, e2, rfl⟩ := ownsRow_shape h2
      exact ⟨a2, _, e2, h1, h2, grown_thru hW h3, h4⟩
  have HD : Hid (Deed w now c (p : Int) found F D (.slice a1 F.length e1) wr) := h
  have hne := own_ne h.own h.deed (by decide)
  obtain ⟨q0, f0⟩ := cellsB h.deed
  have l0 := lt_at h.deed
  obtain ⟨k, key, fld, txt, n⟩ := c
  have hp1 : IntKind.i64.wrap ((p : Int) + 1) = (p : Int) + 1 := by rw [IntKind.wrap_i64]; omega
  have HP : Hid (p < F.length) := hp
  clear h hp
  go_enter Tryz.func105, Tryz.ntmps105
  go_region_with (first | (go_at_call 144; refine (HDL.out _ (by first | exact Below.refl _ _ | exact (Below.refl _ _).drew)).mono ?_; rintro e w2 ⟨a2, m, e2, rfl, hown, hg, hob⟩; obtain ⟨y1, y2⟩ := same_block (hg.block D l0 (fun h => hne h.symm)); have l2 := Nat.lt_of_lt_of_le l0 hg.size))
  all_goals
    have hfin := HD.out.dropped HP.out hown hg hob
    have hK := ((Kept.refl D (Value.slice a1 F.length e1).ownBlock wr).grown hg).cell (o := 1) (.slice a2 m e2)
    clear y1 y2
    go_wp2_with fail
    exact bodyPost_end (v := .tuple #[]) (by simp [results, Tryz.results105, go_sem]) rfl ⟨rfl, _, hfin, hK⟩

set_option maxHeartbeats 4000000 in
theorem remove_none (w wr : World) (now at' : Int) (c : Cmd) (F : List Ent) (D : Nat) (es : Value) (h : Deed w now c at' false F D es wr) :
    Calls Tryz.prog 80 #[.pointer (some ⟨D, 0, none⟩)] wr fun e w' => e = .returned (repV 0 ⟨#[]⟩ 0 (.slice none 0 0)) ∧ Below wr.heap.size wr w' := by
  have hbl := balloc wr (.cells #[.int .i64 0, .string ⟨#[]⟩, .int .i64 0, .slice none 0 0] 32)
  have nx := alloc_at wr (.cells #[.int .i64 0, .string ⟨#[]⟩, .int .i64 0, .slice none 0 0] 32)
  have nD := (hbl.block D (lt_at h.deed)).trans h.deed
  obtain ⟨k, key, fld, txt, n⟩ := c
  clear h
  go_enter Tryz.func80, Tryz.ntmps80
  go_upto_region 1 with fail
  generalize wr.alloc (.cells #[.int .i64 0, .string ⟨#[]⟩, .int .i64 0, .slice none 0 0] 32) = V at nx nD hbl ⊢
  generalize hb : wr.heap.size = b at nx hbl ⊢
  obtain ⟨q0, f0⟩ := cellsB nx
  obtain ⟨q1, f1⟩ := cellsB nD
  have l0 := lt_at nx
  have l1 := lt_at nD
  go_wp2_with fail
  refine bodyPost_ret (v := repV 0 ⟨#[]⟩ 0 (.slice none 0 0)) (by simp [results, Tryz.results80, go_sem, q0]) rfl ⟨rfl, ?_⟩
  first | rw [hb] | skip
  (iterate 4 (refine Below.setCell ?_ (by simp) _))
  exact hbl

set_option maxHeartbeats 4000000 in
theorem remove_some (w wr : World) (now : Int) (p : Nat) (c : Cmd) (F : List Ent) (D : Nat) (es : Value) (h : Deed w now c (p : Int) true F D es wr) (hp : p < F.length) (hn : F.length ≤ 1048576) :
    Calls Tryz.prog 80 #[.pointer (some ⟨D, 0, none⟩)] wr fun e w' => e = .returned (repV 0 ⟨#[]⟩ 1 (.slice none 0 0)) ∧ ∃ r, Deed w now c (p : Int) true (cutAt F p) D r w' ∧ Kept D es.ownBlock wr w' := by
  have hbl := balloc wr (.cells #[.int .i64 0, .string ⟨#[]⟩, .int .i64 0, .slice none 0 0] 32)
  have nx := alloc_at wr (.cells #[.int .i64 0, .string ⟨#[]⟩, .int .i64 0, .slice none 0 0] 32)
  have hd := h.mid hbl
  have hbw : w.heap.size ≤ wr.heap.size := h.below.size
  have hDR := drop_any w _ now p c true F D es hd hp hn
  obtain ⟨k, key, fld, txt, n⟩ := c
  clear h
  go_enter Tryz.func80, Tryz.ntmps80
  go_upto_region 1 with fail
  generalize wr.alloc (.cells #[.int .i64 0, .string ⟨#[]⟩, .int .i64 0, .slice none 0 0] 32) = V at nx hbl hd hDR ⊢
  generalize hb : wr.heap.size = b at nx hbl hbw ⊢
  obtain ⟨q1, f1⟩ := cellsB hd.deed
  have l1 := lt_at hd.deed
  have l0 := lt_at nx
  have hne := own_ne hd.own nx (by decide)
  have hbD : b ≠ D := by
    rintro rfl
    have := nx.symm.trans hd.deed
    simp at this
  have HDR : Hid (Calls Tryz.prog 105 #[.pointer (some ⟨D, 0, none⟩)] V fun e w' => e = .returned (.tuple #[]) ∧ ∃ r, Deed w now ⟨k, key, fld, txt, n⟩ (p : Int) true (cutAt F p) D r w' ∧ Kept D es.ownBlock V w') := hDR
  have HBL : Hid (Below wr.heap.size wr V) := by show Below _ _ _; first | exact hbl | (rw [hb]; exact hbl)
  clear hDR hd
  go_wp2_with fail
  refine HDR.out.mono ?_
  rintro e w2 ⟨rfl, r, hd2, hK⟩
  have nx2 := (hK.block b l0 hbD (fun e => hne e.symm)).trans nx
  obtain ⟨q0, f0⟩ := cellsB nx2
  have l2 := lt_at nx2
  have HX := hideE (hd2.reply (b := b) nx2 hbw (.int .i64 0) (.string ⟨#[]⟩) (.int .i64 1) (.slice none 0 0))
  have HKK := hideE ((hK.pre HBL.out).fresh4 (b := b) (by omega) (.int .i64 0) (.string ⟨#[]⟩) (.int .i64 1) (.slice none 0 0))
  clear q1 f1 nx nx2 hd2 hK
  go_wp2_with fail
  exact bodyPost_ret (v := repV 0 ⟨#[]⟩ 1 (.slice none 0 0)) (by simp [results, Tryz.results80, go_sem, q0]) rfl ⟨rfl, r, HX.out, HKK.out⟩

set_option maxHeartbeats 4000000 in
theorem keys_any (w w1 : World) (now at' : Int) (c : Cmd) (found : Bool) (F : List Ent) (D : Nat) (es : Value) (h : Deed w now c at' found F D es w1) (hn : F.length ≤ 1048576) :
    Calls Tryz.prog 79 #[.pointer (some ⟨D, 0, none⟩)] w1 fun e w' => ∃ r, e = .returned r ∧ w'.ownsRow w1.heap.size 9 1 r F.length ((F.map (·.kv.key)).flatMap encI) ∧ Below w1.heap.size w1 w' := by
  have hrow := RowAt.ofOwn lenE h.own (by omega)
  obtain ⟨hl, a, cap, rfl, h1, h2, h3⟩ := hrow
  obtain ⟨q0, f0⟩ := cellsB h.deed
  have l0 := lt_at h.deed
  obtain ⟨k, key, fld, txt, n⟩ := c
  clear h
  go_enter Tryz.func79, Tryz.ntmps79
  go_wp2_with fail
  clear q0 f0
  go_loopw [3, 12] (fun lv c wr => ∃ k : Nat, k ≤ F.length ∧ c = .int .i64 k ∧ wr.ownsRow w1.heap.size 9 1 lv k (((F.take k).map (·.kv.key)).flatMap encI) ∧ Below w1.heap.size w1 wr) (fun _ c _ => F.length - (intOf c).toNat)
  case atStart => exact ⟨0, Nat.zero_le _, rfl, World.ownsRow_nil _ _ _ _, Below.refl _ _⟩
  case round =>
    obtain ⟨k, hk, rfl, hown, hB⟩ := hrel
    by_cases hlt : k < F.length
    · rcases h3 with ⟨-, rfl, -⟩ | ⟨b, off, rfl, hbk, hc⟩
      · simp at hlt
      · have hcw : ∀ i (h : i < F.length) (c : Nat), c < 8 → wr.cell? ⟨b, off + i * 8 + c, none⟩ = (encE F[i])[c]? := fun i hi c hk => (hB.cell (p := ⟨b, off + i * 8 + c, none⟩) hbk).trans (hc i hi c hk)
        obtain ⟨c0, c1, c2, c3, c4, c5, c6, c7⟩ := eightE hcw k hlt
        have hsn := take_map_succ (·.kv.key) F k hlt
        clear hcw hc
        generalize F[k] = e at c0 c1 c2 c3 c4 c5 c6 c7 hsn
        obtain ⟨⟨ekey, ⟨kind, text, count, pairs, items, scores⟩, til⟩, pa, pc, ia, ic, sa, sc⟩ := e
        simp only at c0 c1 c2 c3 c4 c5 c6 c7
        have HS : Hid ((F.take (k + 1)).map (·.kv.key) = (F.take k).map (·.kv.key) ++ [ekey]) := hsn
        clear hsn
        have hz : w1.heap.size ≤ wr.heap.size := hB.size
        obtain ⟨la, lc, rfl⟩ := ownsRow_shape hown
        go_wp2_with (at_builtin; refine wpList_append_text _ rfl _ _ rfl w1.heap.size (.slice la k lc) k _ ekey (wr.heap.size + 1) ?_ ((hown.alloc _).alloc _) ?_ ?_ ?_ ?_ ?_ ?_)
        · omega
        · omega
        · intro v2 w2 hown2 hg2
          have hB2 := below_append2 hB hz hown hg2
          clear hg2 c0 c1 c2 c3 c4 c5 c6 c7
          go_wp2_with fail
          go_roundw
          case rel => exact ⟨k + 1, by omega, by go_num, by rw [HS.out]; simpa [encI, List.append_assoc, Nat.add_assoc] using hown2, hB2⟩
          case measure => simp [intOf]; omega
    · obtain rfl : k = F.length := by omega
      rw [List.take_length] at hown
      go_wp2_with fail
      go_ret
      exact ⟨_, rfl, hown, hB⟩
end Go.Proofs.YtfnephnecighaaaGreat

/- The value of a key that is there is replaced: (*store.deed).replace. -/
namespace Go.Proofs.YtfnephnecighaaaGreat
open Go.RowKit
set_option linter.unusedVariables false
set_option maxRecDepth 100000

theorem mem_set_cases {α : Type} {l : List α} {p : Nat} {x a : α} (h : a ∈ l.set p x) : a = x ∨ a ∈ l := (List.mem_or_eq_of_mem_set h).symm
theorem flat_valtil (e : Ent) (l : List Ent) (i : Nat) (S : List Value) (h : i < l.length) (hk : e.kv.key = l[i].kv.key) (t : Int) :
    ((((((((((l.flatMap encE) ++ S).set (i * 8 + 1) (.int .i64 e.kv.x.kind)).set (i * 8 + 2) (.string e.kv.x.text)).set (i * 8 + 3) (.int .i64 e.kv.x.count)).set (i * 8 + 4) e.ps).set (i * 8 + 5) e.is).set (i * 8 + 6) e.ss)).set (i * 8 + 7) (.int .i64 t)) = (l.set i (e.withTil t)).flatMap encE ++ S := by
  have h1 := flat_val ⟨⟨e.kv.key, e.kv.x, l[i].kv.til⟩, e.pa, e.pc, e.ia, e.ic, e.sa, e.sc⟩ l i S h hk rfl
  simp only at h1
  have h2 := flat_til t (l.set i ⟨⟨e.kv.key, e.kv.x, l[i].kv.til⟩, e.pa, e.pc, e.ia, e.ic, e.sa, e.sc⟩) i S (by simpa using h)
  rw [← h1] at h2
  refine h2.trans ?_
  simp [Ent.withTil]

/-- What is left behind the stores of a value, and of how long it is there. -/
theorem Deed.valued {w wr : World} {now at' : Int} {c : Cmd} {found : Bool} {F : List Ent} {D g cap B : Nat} {S : List Value} (h : Deed w now c at' found F D (.slice (some ⟨g, 0, none⟩) F.length cap) wr) (p : Nat) (hp : p < F.length) (hgD : g ≠ D) (hgw : w.heap.size ≤ g) (hc : F.length ≤ cap) (hm : cap ≤ maxLen)
    (hold : wr.heap[g]? = some (.cells (F.flatMap encE ++ S).toArray 57 (0, 0))) (hsz : (F.flatMap encE ++ S).length = cap * 8) (hgB : g < B) (hwB : w.heap.size ≤ B) (e : Ent) (hk : e.kv.key = F[p].kv.key) (hl : ListsF B wr e) :
    (e.kv.til = F[p].kv.til → Fin w now c (F.set p e) D B (.slice (some ⟨g, 0, none⟩) F.length cap) (sixC wr g (p * 8) (.int .i64 e.kv.x.kind) (.string e.kv.x.text) (.int .i64 e.kv.x.count) e.ps e.is e.ss) ∧ Kept D (some g) wr (sixC wr g (p * 8) (.int .i64 e.kv.x.kind) (.string e.kv.x.text) (.int .i64 e.kv.x.count) e.ps e.is e.ss)) ∧
    (∀ t, Fin w now c (F.set p (e.withTil t)) D B (.slice (some ⟨g, 0, none⟩) F.length cap) ((sixC wr g (p * 8) (.int .i64 e.kv.x.kind) (.string e.kv.x.text) (.int .i64 e.kv.x.count) e.ps e.is e.ss).setCell ⟨g, p * 8 + 7, none⟩ (.int .i64 t)) ∧ Kept D (some g) wr ((sixC wr g (p * 8) (.int .i64 e.kv.x.kind) (.string e.kv.x.text) (.int .i64 e.kv.x.count) e.ps e.is e.ss).setCell ⟨g, p * 8 + 7, none⟩ (.int .i64 t))) := by
  have hr := six_block hold (p * 8) (.int .i64 e.kv.x.kind) (.string e.kv.x.text) (.int .i64 e.kv.x.count) e.ps e.is e.ss
  have hnew : ∀ e' : Ent, e'.ps = e.ps → e'.is = e.is → e'.ss = e.ss → e'.kv.x = e.kv.x → ∀ a ∈ F.set p e', (∃ b ∈ F, a.ps = b.ps ∧ a.is = b.is ∧ a.ss = b.ss ∧ a.kv.x = b.kv.x) ∨ ListsF B wr a := by
    intro e' e1 e2 e3 e4 a ha
    rcases mem_set_cases ha with rfl | ha
    · exact .inr (by unfold ListsF; rw [e1, e2, e3, e4]; exact hl)
    · exact .inl ⟨a, ha, rfl, rfl, rfl, rfl⟩
  constructor
  · intro ht
    rw [flat_val e F p S hp hk ht] at hr
    exact h.rowed hgD hgw hc hm (by simp) hr hold hsz (fun b hb => six_other hb) six_size (by simp [sixC, World.setCell]) (by simp [sixC, World.setCell]) (by simp [sixC, World.setCell]) hgB hwB (hnew e rfl rfl rfl rfl)
  · intro t
    have hr2 := Go.heap_setCell_same _ g (p * 8 + 7) _ 57 (.int .i64 t) hr
    have hr3 : ((sixC wr g (p * 8) (.int .i64 e.kv.x.kind) (.string e.kv.x.text) (.int .i64 e.kv.x.count) e.ps e.is e.ss).setCell ⟨g, p * 8 + 7, none⟩ (.int .i64 t)).heap[g]? = some (.cells ((F.set p (e.withTil t)).flatMap encE ++ S).toArray 57 (0, 0)) := by
      rw [hr2, ← flat_valtil e F p S hp hk t]; simp
    exact h.rowed hgD hgw hc hm (by simp) hr3 hold hsz (fun b hb => (Below.heap_setCell _ _ _ _ hb).trans (six_other hb)) (by simp [sixC, World.setCell]) (by simp [sixC, World.setCell]) (by simp [sixC, World.setCell]) (by simp [sixC, World.setCell]) hgB hwB (hnew (e.withTil t) rfl rfl rfl rfl)

set_option maxHeartbeats 4000000 in
theorem replace_any (w wr : World) (now : Int) (p B : Nat) (c : Cmd) (F : List Ent) (D : Nat) (es : Value) (y : Val) (pa ia sa : Option Addr) (pc ic sc : Nat) (h : Deed w now c (p : Int) true F D es wr) (hp : p < F.length) (hB : ∀ b, es.ownBlock = some b → b < B) (hwB : w.heap.size ≤ B) (hBr : B ≤ wr.heap.size)
    (hl : ListsF B wr ⟨⟨F[p].kv.key, y, tilK c F[p].kv.til⟩, pa, pc, ia, ic, sa, sc⟩) :
    Calls Tryz.prog 145 #[.pointer (some ⟨D, 0, none⟩), valV y.kind y.text y.count (.slice pa y.pairs.length pc) (.slice ia y.items.length ic) (.slice sa y.scores.length sc)] wr fun e w' => e = .returned (.tuple #[]) ∧ Fin w now c (F.set p ⟨⟨F[p].kv.key, y, tilK c F[p].kv.til⟩, pa, pc, ia, ic, sa, sc⟩) D B es w' ∧ Kept D es.ownBlock wr w' := by
  obtain ⟨g, cap, S, hs', hgw, hgD, hc1, hc2, hrow, hsz⟩ := h.entry p hp
  subst hs'
  have hgB := hB g rfl
  have hbl := balloc wr (valO y.kind y.text y.count (.slice pa y.pairs.length pc) (.slice ia y.items.length ic) (.slice sa y.scores.length sc))
  have nx := alloc_at wr (valO y.kind y.text y.count (.slice pa y.pairs.length pc) (.slice ia y.items.length ic) (.slice sa y.scores.length sc))
  have hd := h.mid hbl
  have nR := (hbl.block g (lt_at hrow)).trans hrow
  have hV : ListsF B (wr.alloc (valO y.kind y.text y.count (.slice pa y.pairs.length pc) (.slice ia y.items.length ic) (.slice sa y.scores.length sc))) ⟨⟨F[p].kv.key, y, tilK c F[p].kv.til⟩, pa, pc, ia, ic, sa, sc⟩ := ⟨hl.1.below hbl, hl.2⟩
  have hv := hd.valued p hp hgD hgw hc1 hc2 nR hsz hgB hwB ⟨⟨F[p].kv.key, y, tilK c F[p].kv.til⟩, pa, pc, ia, ic, sa, sc⟩ rfl hV
  obtain ⟨hv1, hv2⟩ := hv
  have hpi : (p : Int) < (F.length : Int) := by omega
  have hpi0 : (0 : Int) ≤ (p : Int) := by omega
  have hgb : ¬ g = wr.heap.size := by have := lt_at hrow; omega
  have hT : tilK c F[p].kv.til = if c.k = 1 then 0 else F[p].kv.til := rfl
  have hwt : ∀ t, Ent.withTil ⟨⟨F[p].kv.key, y, tilK c F[p].kv.til⟩, pa, pc, ia, ic, sa, sc⟩ t = ⟨⟨F[p].kv.key, y, t⟩, pa, pc, ia, ic, sa, sc⟩ := fun t => rfl
  have hend : c.k = 1 → tilK c F[p].kv.til = 0 := fun h => by rw [hT, if_pos h]
  have hend2 : ¬ c.k = 1 → tilK c F[p].kv.til = F[p].kv.til := fun h => by rw [hT, if_neg h]
  clear hT hV hl h hrow
  obtain ⟨k, key, fld, txt, n⟩ := c
  simp only at hend hend2
  generalize tilK ⟨k, key, fld, txt, n⟩ F[p].kv.til = T at *
  obtain ⟨yk, yt, yc, yp, yi, ys⟩ := y
  simp only at *
  go_enter Tryz.func145, Tryz.ntmps145
  go_upto_region 1 with fail
  generalize wr.alloc (valO yk yt yc (.slice pa yp.length pc) (.slice ia yi.length ic) (.slice sa ys.length sc)) = V at nx nR hbl hd hv1 hv2 ⊢
  have hwr : wr.heap.size ≤ V.heap.size := hbl.size
  generalize hb : wr.heap.size = b at nx hgb ⊢
  obtain ⟨q0, f0⟩ := cellsB nx
  obtain ⟨q1, f1⟩ := cellsB hd.deed
  obtain ⟨-, fz⟩ := cellsB nR
  obtain ⟨r0, r1, r2, r3, r4, r5, r6, r7, -⟩ := row_eight nR hp rfl
  have l0 := lt_at nx
  have l1 := lt_at hd.deed
  have lg := lt_at nR
  obtain ⟨s1, s2, s7⟩ : V.cell? ⟨D, 1, none⟩ = some (.slice (some ⟨g, 0, none⟩) F.length cap) ∧ V.cell? ⟨D, 2, none⟩ = some (.int .i64 k) ∧ V.cell? ⟨D, 7, none⟩ = some (.int .i64 (p : Int)) := ⟨q1 1, q1 2, q1 7⟩
  obtain ⟨v0, v1, v2, v3, v4, v5⟩ : V.cell? ⟨b, 0, none⟩ = some (.int .i64 yk) ∧ V.cell? ⟨b, 1, none⟩ = some (.string yt) ∧ V.cell? ⟨b, 2, none⟩ = some (.int .i64 yc) ∧ V.cell? ⟨b, 3, none⟩ = some (.slice pa yp.length pc) ∧ V.cell? ⟨b, 4, none⟩ = some (.slice ia yi.length ic) ∧ V.cell? ⟨b, 5, none⟩ = some (.slice sa ys.length sc) := ⟨q0 0, q0 1, q0 2, q0 3, q0 4, q0 5⟩
  have hgD' : ¬ g = D := hgD
  have HBL := hideE hbl
  have HV1 := hideE hv1
  have HV2 := hideE hv2
  have HE := hideE hend
  have HE2 := hideE hend2
  clear nx nR hd hbl hsz hv1 hv2 hend hend2 hwt q0 q1
  by_cases hk : k = 1
  · have HK := hideE hk
    have hk' : (k == 1) = true := by simpa using hk
    clear hk
    go_region_held3 (fun w' => w'.cell? ⟨D, 1, none⟩ = some (.slice (some ⟨g, 0, none⟩) F.length cap) ∧ w'.cell? ⟨D, 7, none⟩ = some (.int .i64 (p : Int)) ∧ w'.cell? ⟨b, 0, none⟩ = some (.int .i64 yk) ∧ w'.cell? ⟨b, 1, none⟩ = some (.string yt) ∧ w'.cell? ⟨b, 2, none⟩ = some (.int .i64 yc) ∧ w'.cell? ⟨b, 3, none⟩ = some (.slice pa yp.length pc) ∧ w'.cell? ⟨b, 4, none⟩ = some (.slice ia yi.length ic) ∧ w'.cell? ⟨b, 5, none⟩ = some (.slice sa ys.length sc)) (go_keep) (fail)
    go_upto_region 3 with fail
    go_region_held3 (fun w' => w'.cell? ⟨D, 1, none⟩ = some (.slice (some ⟨g, 0, none⟩) F.length cap) ∧ w'.cell? ⟨D, 7, none⟩ = some (.int .i64 (p : Int))) (go_keep) (fail)
    go_wp2_with fail
    refine bodyPost_end (v := .tuple #[]) (by simp [results, Tryz.results145, go_sem]) rfl ⟨rfl, ?_⟩
    have h1 := ((HV2.out 0).1.mid (Below.refl _ _).drew).mid (Below.refl _ _).drew
    have h2 := (((HV2.out 0).2.below (Below.refl _ _).drew).below (Below.refl _ _).drew).pre HBL.out
    simp only [sixC] at h1 h2
    simp only [Nat.add_assoc, Nat.reduceAdd]
    rw [HE.out HK.out]
    exact ⟨h1, h2⟩
  · have HK := hideE hk
    have hk' : (k == 1) = false := by simpa using hk
    clear hk
    go_region_held3 (fun w' => w'.cell? ⟨D, 1, none⟩ = some (.slice (some ⟨g, 0, none⟩) F.length cap) ∧ w'.cell? ⟨D, 7, none⟩ = some (.int .i64 (p : Int)) ∧ w'.cell? ⟨b, 0, none⟩ = some (.int .i64 yk) ∧ w'.cell? ⟨b, 1, none⟩ = some (.string yt) ∧ w'.cell? ⟨b, 2, none⟩ = some (.int .i64 yc) ∧ w'.cell? ⟨b, 3, none⟩ = some (.slice pa yp.length pc) ∧ w'.cell? ⟨b, 4, none⟩ = some (.slice ia yi.length ic) ∧ w'.cell? ⟨b, 5, none⟩ = some (.slice sa ys.length sc)) (go_keep) (fail)
    go_wp2_with fail
    refine bodyPost_end (v := .tuple #[]) (by simp [results, Tryz.results145, go_sem]) rfl ⟨rfl, ?_⟩
    have h1 := (HV1.out (HE2.out HK.out)).1.mid (Below.refl _ _).drew
    have h2 := ((HV1.out (HE2.out HK.out)).2.below (Below.refl _ _).drew).pre HBL.out
    simp only [sixC] at h1 h2
    simp only [Nat.add_assoc, Nat.reduceAdd]
    exact ⟨h1, h2⟩
end Go.Proofs.YtfnephnecighaaaGreat

/- A value laid under a key: (*store.deed).lay. -/
namespace Go.Proofs.YtfnephnecighaaaGreat
open Go.RowKit
set_option linter.unusedVariables false
set_option maxRecDepth 100000

set_option maxHeartbeats 4000000 in
theorem lay_drop (w wr : World) (now : Int) (p : Nat) (c : Cmd) (found : Bool) (F : List Ent) (D : Nat) (es : Value) (y : Val) (pa ia sa : Option Addr) (pc ic sc : Nat) (h : Deed w now c (p : Int) found F D es wr) (hp : p < F.length) (hn : F.length ≤ 1048576) (hy : y.kind = 0) :
    Calls Tryz.prog 106 #[.pointer (some ⟨D, 0, none⟩), valV y.kind y.text y.count (.slice pa y.pairs.length pc) (.slice ia y.items.length ic) (.slice sa y.scores.length sc)] wr fun e w' => e = .returned (.int .i64 0) ∧ ∃ r, Deed w now c (p : Int) found (cutAt F p) D r w' ∧ Kept D es.ownBlock wr w' := by
  have hbl := balloc wr (valO y.kind y.text y.count (.slice pa y.pairs.length pc) (.slice ia y.items.length ic) (.slice sa y.scores.length sc))
  have nx := alloc_at wr (valO y.kind y.text y.count (.slice pa y.pairs.length pc) (.slice ia y.items.length ic) (.slice sa y.scores.length sc))
  have hDR := (drop_any w _ now p c found F D es (h.mid hbl) hp hn).mono fun e w' ⟨h1, r, h2, h3⟩ => (show e = Ending.returned (.tuple #[]) ∧ ∃ r, Deed w now c (p : Int) found (cutAt F p) D r w' ∧ Kept D es.ownBlock wr w' from ⟨h1, r, h2, ⟨h3.os.trans hbl.os, h3.tape.trans hbl.tape, h3.output.trans hbl.output, Nat.le_trans hbl.size h3.size, fun b hb h1 h2 => (h3.block b (Nat.lt_of_lt_of_le hb hbl.size) h1 h2).trans (hbl.block b hb)⟩⟩)
  obtain ⟨k, key, fld, txt, n⟩ := c
  obtain ⟨yk, yt, yc, yp, yi, ys⟩ := y
  simp only at *
  subst hy
  go_enter Tryz.func106, Tryz.ntmps106
  go_upto_region 2 with fail
  generalize wr.alloc (valO 0 yt yc (.slice pa yp.length pc) (.slice ia yi.length ic) (.slice sa ys.length sc)) = V at nx hDR ⊢
  generalize wr.heap.size = b at nx ⊢
  obtain ⟨q0, f0⟩ := cellsB nx
  have HDR := hideE hDR
  clear hDR h hbl nx
  go_wp2_with fail
  refine HDR.out.mono ?_
  rintro e w2 ⟨rfl, r, hd2, hK⟩
  have HX := hideE hd2
  have HK := hideE hK
  clear q0 f0 hd2 hK
  go_wp2_with fail
  go_ret
  exact ⟨rfl, r, HX.out, HK.out⟩

set_option maxHeartbeats 4000000 in
theorem lay_old (w wr : World) (now : Int) (p B : Nat) (c : Cmd) (F : List Ent) (D : Nat) (es : Value) (y : Val) (pa ia sa : Option Addr) (pc ic sc : Nat) (h : Deed w now c (p : Int) true F D es wr) (hp : p < F.length) (hB : ∀ b, es.ownBlock = some b → b < B) (hwB : w.heap.size ≤ B) (hBr : B ≤ wr.heap.size)
    (hl : ListsF B wr ⟨⟨F[p].kv.key, y, tilK c F[p].kv.til⟩, pa, pc, ia, ic, sa, sc⟩) (hy : y.kind ≠ 0) :
    Calls Tryz.prog 106 #[.pointer (some ⟨D, 0, none⟩), valV y.kind y.text y.count (.slice pa y.pairs.length pc) (.slice ia y.items.length ic) (.slice sa y.scores.length sc)] wr fun e w' => e = .returned (.int .i64 0) ∧ Fin w now c (F.set p ⟨⟨F[p].kv.key, y, tilK c F[p].kv.til⟩, pa, pc, ia, ic, sa, sc⟩) D B es w' ∧ Kept D es.ownBlock wr w' := by
  have hbl := balloc wr (valO y.kind y.text y.count (.slice pa y.pairs.length pc) (.slice ia y.items.length ic) (.slice sa y.scores.length sc))
  have nx := alloc_at wr (valO y.kind y.text y.count (.slice pa y.pairs.length pc) (.slice ia y.items.length ic) (.slice sa y.scores.length sc))
  have hd := h.mid hbl
  have hRP := (replace_any w _ now p B c F D es y pa ia sa pc ic sc hd hp hB hwB (Nat.le_trans hBr hbl.size) ⟨hl.1.below hbl, hl.2⟩).mono fun e w' ⟨h1, h2, h3⟩ => (⟨h1, h2, h3.pre hbl⟩ : e = Ending.returned (.tuple #[]) ∧ _ ∧ Kept D es.ownBlock wr w')
  generalize F.set p ⟨⟨F[p].kv.key, y, tilK c F[p].kv.til⟩, pa, pc, ia, ic, sa, sc⟩ = F2 at *
  obtain ⟨k, key, fld, txt, n⟩ := c
  obtain ⟨yk, yt, yc, yp, yi, ys⟩ := y
  simp only at *
  have hy' : (yk == 0) = false := by simpa using hy
  clear h hl hy
  go_enter Tryz.func106, Tryz.ntmps106
  go_upto_region 2 with fail
  generalize wr.alloc (valO yk yt yc (.slice pa yp.length pc) (.slice ia yi.length ic) (.slice sa ys.length sc)) = V at nx hRP hd ⊢
  generalize wr.heap.size = b at nx ⊢
  obtain ⟨q0, f0⟩ := cellsB nx
  obtain ⟨q1, f1⟩ := cellsB hd.deed
  have l0 := lt_at nx
  have l1 := lt_at hd.deed
  have HRP : Hid (Calls Tryz.prog 145 #[.pointer (some ⟨D, 0, none⟩), valV yk yt yc (.slice pa yp.length pc) (.slice ia yi.length ic) (.slice sa ys.length sc)] V fun e w' => e = .returned (.tuple #[]) ∧ Fin w now ⟨k, key, fld, txt, n⟩ F2 D B es w' ∧ Kept D es.ownBlock wr w') := hRP
  clear hRP hd hbl nx
  go_wp2_with fail
  refine HRP.out.mono ?_
  rintro e w2 ⟨rfl, hf⟩
  have HX := hideE hf
  clear q0 f0 q1 f1 hf
  go_wp2_with fail
  go_ret
  exact ⟨rfl, HX.out⟩

set_option maxHeartbeats 4000000 in
theorem lay_full (w wr : World) (now : Int) (p : Nat) (c : Cmd) (F : List Ent) (D : Nat) (es : Value) (y : Val) (pa ia sa : Option Addr) (pc ic sc : Nat) (h : Deed w now c (p : Int) false F D es wr) (hn : 12 ≤ F.length) (hy : y.kind ≠ 0) :
    Calls Tryz.prog 106 #[.pointer (some ⟨D, 0, none⟩), valV y.kind y.text y.count (.slice pa y.pairs.length pc) (.slice ia y.items.length ic) (.slice sa y.scores.length sc)] wr fun e w' => e = .returned (.int .i64 6) ∧ Below wr.heap.size wr w' := by
  have hbl := balloc wr (valO y.kind y.text y.count (.slice pa y.pairs.length pc) (.slice ia y.items.length ic) (.slice sa y.scores.length sc))
  have nx := alloc_at wr (valO y.kind y.text y.count (.slice pa y.pairs.length pc) (.slice ia y.items.length ic) (.slice sa y.scores.length sc))
  have hd := h.mid hbl
  obtain ⟨a1, e1, rfl⟩ := ownsRow_shape h.own
  obtain ⟨k, key, fld, txt, n⟩ := c
  obtain ⟨yk, yt, yc, yp, yi, ys⟩ := y
  simp only at *
  have hy' : (yk == 0) = false := by simpa using hy
  have hn' : (12 : Int) ≤ (F.length : Int) := by omega
  clear h hy
  go_enter Tryz.func106, Tryz.ntmps106
  go_upto_region 2 with fail
  generalize wr.alloc (valO yk yt yc (.slice pa yp.length pc) (.slice ia yi.length ic) (.slice sa ys.length sc)) = V at nx hd hbl ⊢
  generalize hb : wr.heap.size = b at nx hbl ⊢
  obtain ⟨q0, f0⟩ := cellsB nx
  obtain ⟨q1, f1⟩ := cellsB hd.deed
  have l0 := lt_at nx
  have l1 := lt_at hd.deed
  have HB := hideE hbl
  clear hd hbl nx
  go_wp2_with fail
  go_ret
  first | exact ⟨rfl, HB.out⟩ | (rw [hb]; exact ⟨rfl, HB.out⟩)
end Go.Proofs.YtfnephnecighaaaGreat
