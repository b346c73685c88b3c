/- A value laid under a new key: (*store.deed).lay. -/
import Derived.Test.YtfnephnecighaaaGreatLy
import Derived.Test.YtfnephnecighaaaGreatUl
import Derived.Test.YtfnephnecighaaaGreatSl8
namespace Go.Proofs.YtfnephnecighaaaGreat
open Go.RowKit
set_option linter.unusedVariables false
set_option maxRecDepth 100000

theorem Deed.inserted {w wr W : World} {now at' at2 : Int} {c : Cmd} {found f2 : Bool} {F : List Ent} {D p B : Nat} {es r : Value} (h : Deed w now c at' found F D es wr) (hK : Kept D es.ownBlock wr W) (hD : W.heap[D]? = some (deedO now r c.k c.key c.fld c.txt c.n at2 f2)) (e : Ent)
    (ho : W.ownsRow w.heap.size 57 8 r (F.length + 1) ((F.take p ++ e :: F.drop p).flatMap encE)) (hp : p ≤ F.length) (hB : ∀ b, es.ownBlock = some b → b < B) (hDB : D < B) (hwB : w.heap.size ≤ B) (hl : ListsF B wr e) : Fin w now c (layAt F p e) D B r W where
  bD := h.bD
  hB := hwB
  deed := ⟨_, _, hD⟩
  own := by
    have hlen := len_lay (L := F) (p := p) (y := e) hp
    rw [hlen]; exact ho
  lists := fun x hx => by
    rcases mem_insert hx with rfl | hx
    · obtain ⟨l1, f1, f2, f3⟩ := hl
      have hsm : ∀ b, B ≤ b → b < wr.heap.size → W.heap[b]? = wr.heap[b]? := fun b hb hlt => hK.block b hlt (by omega) (fun e => by have := hB b e.symm; omega)
      exact .inr ⟨⟨l1.p.sameS f1 hsm hK.size, l1.i.sameS f2 hsm hK.size, l1.s.sameS f3 hsm hK.size⟩, f1, f2, f3⟩
    · exact .inl (Kept.ownVL hK (h.lists x hx) h.deed h.own)
  below := hK.deedBelow h

set_option maxHeartbeats 4000000 in
theorem lay_new (w wr : World) (now : Int) (p B : Nat) (c : Cmd) (F : List Ent) (D : Nat) (es : Value) (y : Val) (pa ia sa : Option Addr) (pc ic sc : Nat) (h : Deed w now c (p : Int) false F D es wr) (hp : p ≤ F.length) (hB : ∀ b, es.ownBlock = some b → b < B) (hDB : D < B) (hwB : w.heap.size ≤ B) (hBr : B ≤ wr.heap.size)
    (hl : ListsF B wr ⟨⟨c.key, y, 0⟩, pa, pc, ia, ic, sa, sc⟩) (hn : F.length < 12) (hy : y.kind ≠ 0) :
    Calls Tryz.prog 106 #[.pointer (some ⟨D, 0, none⟩), valV y.kind y.text y.count (.slice pa y.pairs.length pc) (.slice ia y.items.length ic) (.slice sa y.scores.length sc)] wr fun e w' => e = .returned (.int .i64 0) ∧ ∃ r, Fin w now c (layAt F p ⟨⟨c.key, y, 0⟩, pa, pc, ia, ic, sa, sc⟩) D B r w' ∧ Kept D es.ownBlock wr w' := by
  have hbl := balloc wr (valO y.kind y.text y.count (.slice pa y.pairs.length pc) (.slice ia y.items.length ic) (.slice sa y.scores.length sc))
  have nx := alloc_at wr (valO y.kind y.text y.count (.slice pa y.pairs.length pc) (.slice ia y.items.length ic) (.slice sa y.scores.length sc))
  have hd := h.mid hbl
  obtain ⟨a1, e1, rfl⟩ := ownsRow_shape h.own
  have hV : ListsF B (wr.alloc (valO y.kind y.text y.count (.slice pa y.pairs.length pc) (.slice ia y.items.length ic) (.slice sa y.scores.length sc))) ⟨⟨c.key, y, 0⟩, pa, pc, ia, ic, sa, sc⟩ := ⟨hl.1.below hbl, hl.2⟩
  have hbw : B ≤ wr.heap.size + 1 := by omega
  obtain ⟨k, key, fld, txt, n⟩ := c
  obtain ⟨yk, yt, yc, yp, yi, ys⟩ := y
  simp only at *
  have hy' : (yk == 0) = false := by simpa using hy
  have hn' : ¬ (12 : Int) ≤ (F.length : Int) := by omega
  clear h hy hl
  go_enter Tryz.func106, Tryz.ntmps106
  go_upto_region 2 with fail
  generalize wr.alloc (valO yk yt yc (.slice pa yp.length pc) (.slice ia yi.length ic) (.slice sa ys.length sc)) = V at nx hd hV hbl ⊢
  generalize hb : wr.heap.size = b at nx ⊢
  obtain ⟨q0, f0⟩ := cellsB nx
  obtain ⟨q1, f1⟩ := cellsB hd.deed
  have l0 := lt_at nx
  have l1 := lt_at hd.deed
  have hne := own_ne hd.own hd.deed (by decide)
  have hDsz : w.heap.size ≤ V.heap.size := hd.below.size
  have hlt : ∀ k, (Value.slice a1 F.length e1).ownBlock = some k → k < V.heap.size := fun k hk => (World.ownsRow.lt hd.own k hk).2
  have HIN : Hid (∀ W vb, Below V.heap.size V W → W.heap[vb]? = some (entO key yk yt yc (.slice pa yp.length pc) (.slice ia yi.length ic) (.slice sa ys.length sc) 0) → V.heap.size ≤ vb → Calls Tryz.prog 146 #[.slice a1 F.length e1, .int .i64 (p : Int), .slice (some ⟨vb, 0, none⟩) 1 1] W fun e w' => ∃ a2 m e2, e = .returned (.slice a2 m e2) ∧ (w'.ownsRow w.heap.size 57 8 (.slice a2 m e2) (F.length + 1) ((F.take p ++ ⟨⟨key, ⟨yk, yt, yc, yp, yi, ys⟩, 0⟩, pa, pc, ia, ic, sa, sc⟩ :: F.drop p).flatMap encE) ∧ V.grownBy w' (Value.slice a1 F.length e1).ownBlock ∧ (Value.slice a2 m e2).ownBlock ≠ some D)) := fun W vb hW hvb hle =>
    (insertE_any w.heap.size p _ F ⟨⟨key, ⟨yk, yt, yc, yp, yi, ys⟩, 0⟩, pa, pc, ia, ic, sa, sc⟩ vb W (ownsRow_kept hd.own hW) (Nat.le_trans hDsz hW.size) hp (by omega) hvb (fun k hk => by have := hlt k hk; omega)).mono fun e w' ⟨r, h1, h2, h3, h4⟩ => by
      obtain ⟨a2, e2, rfl⟩ := ownsRow_shape h2
      refine ⟨a2, _, e2, h1, h2, grown_thru hW h3, fun hh => ?_⟩
      rcases h4 D hh with h5 | h5
      · exact hne h5
      · have := hW.size; omega
  have HD : Hid (Deed w now ⟨k, key, fld, txt, n⟩ (p : Int) false F D (.slice a1 F.length e1) V) := hd
  have HV : Hid (ListsF B V ⟨⟨key, ⟨yk, yt, yc, yp, yi, ys⟩, 0⟩, pa, pc, ia, ic, sa, sc⟩) := hV
  have HB := hideE hB
  have HBL := hideE hbl
  have HNE := hideE hne
  obtain ⟨s1, s3, s7⟩ : V.cell? ⟨D, 1, none⟩ = some (.slice a1 F.length e1) ∧ V.cell? ⟨D, 3, none⟩ = some (.string key) ∧ V.cell? ⟨D, 7, none⟩ = some (.int .i64 (p : Int)) := ⟨q1 1, q1 3, q1 7⟩
  obtain ⟨v0, v1, v2, v3, v4, v5⟩ : V.cell? ⟨b, 0, none⟩ = some (.int .i64 yk) ∧ V.cell? ⟨b, 1, none⟩ = some (.string yt) ∧ V.cell? ⟨b, 2, none⟩ = some (.int .i64 yc) ∧ V.cell? ⟨b, 3, none⟩ = some (.slice pa yp.length pc) ∧ V.cell? ⟨b, 4, none⟩ = some (.slice ia yi.length ic) ∧ V.cell? ⟨b, 5, none⟩ = some (.slice sa ys.length sc) := ⟨q0 0, q0 1, q0 2, q0 3, q0 4, q0 5⟩
  have hnb := own_ne hd.own nx (by decide)
  have NX : Hid (V.heap[b]? = some (valO yk yt yc (.slice pa yp.length pc) (.slice ia yi.length ic) (.slice sa ys.length sc))) := nx
  clear hd hV nx hB hne hlt q0 hbl
  go_upto_region 1 with fail
  refine region_but 22 23 (fun W => W.cell? ⟨D, 1, none⟩ = some (.slice a1 F.length e1) ∧ W.cell? ⟨D, 3, none⟩ = some (.string key) ∧ W.cell? ⟨D, 7, none⟩ = some (.int .i64 (p : Int)) ∧ W.cell? ⟨b, 0, none⟩ = some (.int .i64 yk) ∧ W.cell? ⟨b, 1, none⟩ = some (.string yt) ∧ W.cell? ⟨b, 2, none⟩ = some (.int .i64 yc) ∧ W.cell? ⟨b, 3, none⟩ = some (.slice pa yp.length pc) ∧ W.cell? ⟨b, 4, none⟩ = some (.slice ia yi.length ic) ∧ W.cell? ⟨b, 5, none⟩ = some (.slice sa ys.length sc)) (by kernel_rfl) (by kernel_rfl) (by (try dsimp only); go_keep) (fun hHeld => ?_)
  refine but_take (i := 0) (v := ?_) rfl (by kernel_rfl) (by kernel_rfl) (by kernel_rfl) (by kernel_rfl) (by decide) (fun _ _ _ h => h) (Or.inl ⟨by rfl, ?_⟩) (by assumption) ?_
  rotate_left
  · (intro w hSw; (try dsimp only at hSw); go_simp <;> with_reducible rfl)
  try simp only [Act.put, List.setIfInBounds_toArray, List.set_cons_zero, List.set_cons_succ]
  refine but_take (i := 1) (v := ?_) rfl (by kernel_rfl) (by kernel_rfl) (by kernel_rfl) (by kernel_rfl) (by decide) (fun _ _ _ h => h) (Or.inl ⟨by rfl, ?_⟩) (by assumption) ?_
  rotate_left
  · (intro w hSw; (try dsimp only at hSw); go_simp <;> with_reducible rfl)
  try simp only [Act.put, List.setIfInBounds_toArray, List.set_cons_zero, List.set_cons_succ]
  refine but_take (i := 2) (v := ?_) rfl (by kernel_rfl) (by kernel_rfl) (by kernel_rfl) (by kernel_rfl) (by decide) (fun _ _ _ h => h) (Or.inl ⟨by rfl, ?_⟩) (by assumption) ?_
  rotate_left
  · (intro w hSw; (try dsimp only at hSw); go_simp <;> with_reducible rfl)
  try simp only [Act.put, List.setIfInBounds_toArray, List.set_cons_zero, List.set_cons_succ]
  refine but_take (i := 3) (v := ?_) rfl (by kernel_rfl) (by kernel_rfl) (by kernel_rfl) (by kernel_rfl) (by decide) (fun _ _ _ h => h) (Or.inl ⟨by rfl, ?_⟩) (by assumption) ?_
  rotate_left
  · (intro w hSw; (try dsimp only at hSw); go_simp <;> with_reducible rfl)
  try simp only [Act.put, List.setIfInBounds_toArray, List.set_cons_zero, List.set_cons_succ]
  refine but_take (i := 4) (v := ?_) rfl (by kernel_rfl) (by kernel_rfl) (by kernel_rfl) (by kernel_rfl) (by decide) (fun _ _ _ h => h) (Or.inl ⟨by rfl, ?_⟩) (by assumption) ?_
  rotate_left
  · (intro w hSw; (try dsimp only at hSw); go_simp <;> with_reducible rfl)
  try simp only [Act.put, List.setIfInBounds_toArray, List.set_cons_zero, List.set_cons_succ]
  refine but_take (i := 5) (v := ?_) rfl (by kernel_rfl) (by kernel_rfl) (by kernel_rfl) (by kernel_rfl) (by decide) (fun _ _ _ h => h) (Or.inl ⟨by rfl, ?_⟩) (by assumption) ?_
  rotate_left
  · (intro w hSw; (try dsimp only at hSw); go_simp <;> with_reducible rfl)
  try simp only [Act.put, List.setIfInBounds_toArray, List.set_cons_zero, List.set_cons_succ]
  refine but_take (i := 6) (v := ?_) rfl (by kernel_rfl) (by kernel_rfl) (by kernel_rfl) (by kernel_rfl) (by decide) (fun _ _ _ h => h) (Or.inl ⟨by rfl, ?_⟩) (by assumption) ?_
  rotate_left
  · (intro w hSw; (try dsimp only at hSw); go_simp <;> with_reducible rfl)
  try simp only [Act.put, List.setIfInBounds_toArray, List.set_cons_zero, List.set_cons_succ]
  refine but_take (i := 7) (v := ?_) rfl (by kernel_rfl) (by kernel_rfl) (by kernel_rfl) (by kernel_rfl) (by decide) (fun _ _ _ h => h) (Or.inl ⟨by rfl, ?_⟩) (by assumption) ?_
  rotate_left
  · (intro w hSw; (try dsimp only at hSw); go_simp <;> with_reducible rfl)
  try simp only [Act.put, List.setIfInBounds_toArray, List.set_cons_zero, List.set_cons_succ]
  refine but_take (i := 8) (v := ?_) rfl (by kernel_rfl) (by kernel_rfl) (by kernel_rfl) (by kernel_rfl) (by decide) (fun _ _ _ h => h) (Or.inl ⟨by rfl, ?_⟩) (by assumption) ?_
  rotate_left
  · (intro w hSw; (try dsimp only at hSw); go_simp <;> with_reducible rfl)
  try simp only [Act.put, List.setIfInBounds_toArray, List.set_cons_zero, List.set_cons_succ]
  refine but_take (i := 9) (v := ?_) rfl (by kernel_rfl) (by kernel_rfl) (by kernel_rfl) (by kernel_rfl) (by decide) (fun _ _ _ h => h) (Or.inl ⟨by rfl, ?_⟩) (by assumption) ?_
  rotate_left
  · (intro w hSw; (try dsimp only at hSw); go_simp <;> with_reducible rfl)
  try simp only [Act.put, List.setIfInBounds_toArray, List.set_cons_zero, List.set_cons_succ]
  refine but_take (i := 10) (v := ?_) rfl (by kernel_rfl) (by kernel_rfl) (by kernel_rfl) (by kernel_rfl) (by decide) (fun _ _ _ h => h) (Or.inl ⟨by rfl, ?_⟩) (by assumption) ?_
  rotate_left
  · (intro w hSw; (try dsimp only at hSw); go_simp <;> with_reducible rfl)
  try simp only [Act.put, List.setIfInBounds_toArray, List.set_cons_zero, List.set_cons_succ]
  refine but_take (i := 11) (v := ?_) rfl (by kernel_rfl) (by kernel_rfl) (by kernel_rfl) (by kernel_rfl) (by decide) (fun _ _ _ h => h) (Or.inl ⟨by rfl, ?_⟩) (by assumption) ?_
  rotate_left
  · (intro w hSw; (try dsimp only at hSw); go_simp <;> with_reducible rfl)
  try simp only [Act.put, List.setIfInBounds_toArray, List.set_cons_zero, List.set_cons_succ]
  refine but_take (i := 12) (v := ?_) rfl (by kernel_rfl) (by kernel_rfl) (by kernel_rfl) (by kernel_rfl) (by decide) (fun _ _ _ h => h) (Or.inl ⟨by rfl, ?_⟩) (by assumption) ?_
  rotate_left
  · (intro w hSw; (try dsimp only at hSw); go_simp <;> with_reducible rfl)
  try simp only [Act.put, List.setIfInBounds_toArray, List.set_cons_zero, List.set_cons_succ]
  refine but_take (i := 13) (v := ?_) rfl (by kernel_rfl) (by kernel_rfl) (by kernel_rfl) (by kernel_rfl) (by decide) (fun _ _ _ h => h) (Or.inl ⟨by rfl, ?_⟩) (by assumption) ?_
  rotate_left
  · (intro w hSw; (try dsimp only at hSw); go_simp <;> with_reducible rfl)
  try simp only [Act.put, List.setIfInBounds_toArray, List.set_cons_zero, List.set_cons_succ]
  refine but_take (i := 14) (v := ?_) rfl (by kernel_rfl) (by kernel_rfl) (by kernel_rfl) (by kernel_rfl) (by decide) (fun _ _ _ h => h) (Or.inl ⟨by rfl, ?_⟩) (by assumption) ?_
  rotate_left
  · (intro w hSw; (try dsimp only at hSw); go_simp <;> with_reducible rfl)
  try simp only [Act.put, List.setIfInBounds_toArray, List.set_cons_zero, List.set_cons_succ]
  refine but_take (i := 15) (v := ?_) rfl (by kernel_rfl) (by kernel_rfl) (by kernel_rfl) (by kernel_rfl) (by decide) (fun _ _ _ h => h) (Or.inl ⟨by rfl, ?_⟩) (by assumption) ?_
  rotate_left
  · (intro w hSw; (try dsimp only at hSw); go_simp <;> with_reducible rfl)
  try simp only [Act.put, List.setIfInBounds_toArray, List.set_cons_zero, List.set_cons_succ]
  refine but_take (i := 16) (v := ?_) rfl (by kernel_rfl) (by kernel_rfl) (by kernel_rfl) (by kernel_rfl) (by decide) (fun _ _ _ h => h) (Or.inl ⟨by rfl, ?_⟩) (by assumption) ?_
  rotate_left
  · (intro w hSw; (try dsimp only at hSw); go_simp <;> with_reducible rfl)
  try simp only [Act.put, List.setIfInBounds_toArray, List.set_cons_zero, List.set_cons_succ]
  refine but_step (i := 17) (by kernel_rfl) rfl (fun K hK => ?_)
  (go_simp)
  refine hK.out.1 _ _ (by (try dsimp only); go_keep) (fun hHeld => ?_)
  clear hK K
  try simp only [Act.put, List.setIfInBounds_toArray, List.set_cons_zero, List.set_cons_succ]
  refine but_step (i := 18) (by kernel_rfl) rfl (fun K hK => ?_)
  (go_simp; refine (HIN.out _ _ ((Below.refl _ V).drew.alloc (Nat.le_refl _) _) (alloc_at V.drew _) (Nat.le_refl _)).mono ?_; rintro e w2 ⟨a2, m, e2, rfl, hown, hg, hob⟩; obtain ⟨y1, y2⟩ := same_block (hg.block D l1 (fun h => HNE.out h.symm)); obtain ⟨y3, y4⟩ := same_block (hg.block b l0 (fun h => hnb h.symm)); have l2 := Nat.lt_of_lt_of_le l1 hg.size; go_simp)
  refine hK.out.1 _ _ (by (try dsimp only); go_keep) (fun hHeld => ?_)
  clear hK K
  try simp only [Act.put, List.setIfInBounds_toArray, List.set_cons_zero, List.set_cons_succ]
  refine but_take (i := 19) (v := ?_) rfl (by kernel_rfl) (by kernel_rfl) (by kernel_rfl) (by kernel_rfl) (by decide) (fun _ _ _ h => h) (Or.inl ⟨by rfl, ?_⟩) (by assumption) ?_
  rotate_left
  · (intro w hSw; (try dsimp only at hSw); go_simp <;> with_reducible rfl)
  try simp only [Act.put, List.setIfInBounds_toArray, List.set_cons_zero, List.set_cons_succ]
  refine but_take (i := 20) (v := ?_) rfl (by kernel_rfl) (by kernel_rfl) (by kernel_rfl) (by kernel_rfl) (by decide) (fun _ _ _ h => h) (Or.inl ⟨by rfl, ?_⟩) (by assumption) ?_
  rotate_left
  · (intro w hSw; (try dsimp only at hSw); go_simp <;> with_reducible rfl)
  try simp only [Act.put, List.setIfInBounds_toArray, List.set_cons_zero, List.set_cons_succ]
  refine but_take (i := 21) (v := ?_) rfl (by kernel_rfl) (by kernel_rfl) (by kernel_rfl) (by kernel_rfl) (by decide) (fun _ _ _ h => h) (Or.inl ⟨by rfl, ?_⟩) (by assumption) ?_
  rotate_left
  · (intro w hSw; (try dsimp only at hSw); go_simp <;> with_reducible rfl)
  try simp only [Act.put, List.setIfInBounds_toArray, List.set_cons_zero, List.set_cons_succ]
  refine but_step (i := 22) (by kernel_rfl) rfl (fun K hK => ?_)
  (go_simp)
  refine hK.out.2 ⟨22, by decide, by kernel_rfl⟩ _ _ ?_
  clear hK K
  try simp only [Act.put, List.setIfInBounds_toArray, List.set_cons_zero, List.set_cons_succ]
  refine but_done (by kernel_rfl) ?_
  clear hHeld
  have hK := ((Kept.refl D (Value.slice a1 F.length e1).ownBlock V).grown hg).cell (o := 1) (.slice a2 m e2)
  have hfin := HD.out.inserted hK (setCell_in (.slice a2 m e2) (o := 1) ((hg.block D l1 (fun e => HNE.out e.symm)).trans HD.out.deed)) ⟨⟨key, ⟨yk, yt, yc, yp, yi, ys⟩, 0⟩, pa, pc, ia, ic, sa, sc⟩ (own_set hown (p := ⟨D, 1, none⟩) hob _) hp HB.out hDB hwB HV.out
  have HF := hideE hfin
  have HK := hideE (hK.pre HBL.out)
  clear y1 y2 y3 y4 hK hfin hown hg hob
  go_wp2_with fail
  go_ret
  exact ⟨rfl, ⟨_, HF.out⟩, HK.out⟩
end Go.Proofs.YtfnephnecighaaaGreat
