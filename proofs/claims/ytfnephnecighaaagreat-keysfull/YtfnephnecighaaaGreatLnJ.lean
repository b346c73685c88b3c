/- A value laid under a new key: (*store.deed).lay. -/
import Derived.Test.YtfnephnecighaaaGreatDpJ
import Derived.Test.YtfnephnecighaaaGreatUl
import Derived.Test.YtfnephnecighaaaGreatSl8
import Derived.Test.YtfnephnecighaaaGreatFv0
import Derived.Test.YtfnephnecighaaaGreatSvJ
namespace Go.Proofs.YtfnephnecighaaaGreat
open Go.RowKit
set_option linter.unusedVariables false
set_option maxRecDepth 100000

theorem Deed.inserted {w wr W : World} {now at' at2 : Int} {c : Cmd} {found f2 : Bool} {F : List Ent} {D p B : Nat} {es r : Value} (h : Deed w now c at' found F D es wr) (hK : Kept D es.ownBlock wr W) (hD : W.heap[D]? = some (deedO now r c.k c.key c.fld c.txt c.n at2 f2)) (e : Ent)
    (ho : W.ownsRow w.heap.size 57 8 r (F.length + 1) ((F.take p ++ e :: F.drop p).flatMap encE)) (hp : p ≤ F.length) (hB : ∀ b, es.ownBlock = some b → b < B) (hDB : D < B) (hwB : w.heap.size ≤ B) (hl : ListsF B wr e) : Fin w now c (layAt F p e) D B r W where
  bD := h.bD
  hB := hwB
  deed := ⟨_, _, hD⟩
  own := by
    have hlen := len_lay (L := F) (p := p) (y := e) hp
    rw [hlen]; exact ho
  lists := fun x hx => by
    rcases mem_insert hx with rfl | hx
    · obtain ⟨l1, f1, f2, f3⟩ := hl
      have hsm : ∀ b, B ≤ b → b < wr.heap.size → W.heap[b]? = wr.heap[b]? := fun b hb hlt => hK.block b hlt (by omega) (fun e => by have := hB b e.symm; omega)
      exact .inr ⟨⟨l1.p.sameS f1 hsm hK.size, l1.i.sameS f2 hsm hK.size, l1.s.sameS f3 hsm hK.size⟩, f1, f2, f3⟩
    · exact .inl (Kept.ownVL hK (h.lists x hx) h.deed h.own)
  below := hK.deedBelow h

set_option maxHeartbeats 4000000 in
theorem lay_new (w wr : World) (now : Int) (p B : Nat) (c : Cmd) (F : List Ent) (D : Nat) (es : Value) (y : Val) (pa ia sa : Option Addr) (pc ic sc : Nat) (h : Deed w now c (p : Int) false F D es wr) (hp : p ≤ F.length) (hB : ∀ b, es.ownBlock = some b → b < B) (hDB : D < B) (hwB : w.heap.size ≤ B) (hBr : B ≤ wr.heap.size)
    (hl : ListsF B wr ⟨⟨c.key, y, 0⟩, pa, pc, ia, ic, sa, sc⟩) (hn : F.length < 12) (hy : y.kind ≠ 0) :
    Calls Tryz.prog 106 #[.pointer (some ⟨D, 0, none⟩), valV y.kind y.text y.count (.slice pa y.pairs.length pc) (.slice ia y.items.length ic) (.slice sa y.scores.length sc)] wr fun e w' => e = .returned (.int .i64 0) ∧ ∃ r, Fin w now c (layAt F p ⟨⟨c.key, y, 0⟩, pa, pc, ia, ic, sa, sc⟩) D B r w' ∧ Kept D es.ownBlock wr w' := by
  have hbl := balloc wr (valO y.kind y.text y.count (.slice pa y.pairs.length pc) (.slice ia y.items.length ic) (.slice sa y.scores.length sc))
  have nx := alloc_at wr (valO y.kind y.text y.count (.slice pa y.pairs.length pc) (.slice ia y.items.length ic) (.slice sa y.scores.length sc))
  have hd := h.mid hbl
  obtain ⟨a1, e1, rfl⟩ := ownsRow_shape h.own
  have hV : ListsF B (wr.alloc (valO y.kind y.text y.count (.slice pa y.pairs.length pc) (.slice ia y.items.length ic) (.slice sa y.scores.length sc))) ⟨⟨c.key, y, 0⟩, pa, pc, ia, ic, sa, sc⟩ := ⟨hl.1.below hbl, hl.2⟩
  have hbw : B ≤ wr.heap.size + 1 := by omega
  obtain ⟨k, key, fld, txt, n⟩ := c
  obtain ⟨yk, yt, yc, yp, yi, ys⟩ := y
  simp only at *
  have hy' : (yk == 0) = false := by simpa using hy
  have hn' : ¬ (12 : Int) ≤ (F.length : Int) := by omega
  clear h hy hl
  go_enter Tryz.func106, Tryz.ntmps106
  go_upto_region 2 with fail
  generalize wr.alloc (valO yk yt yc (.slice pa yp.length pc) (.slice ia yi.length ic) (.slice sa ys.length sc)) = V at nx hd hV hbl ⊢
  generalize hb : wr.heap.size = b at nx ⊢
  obtain ⟨q0, f0⟩ := cellsB nx
  obtain ⟨q1, f1⟩ := cellsB hd.deed
  have l0 := lt_at nx
  have l1 := lt_at hd.deed
  have hne := own_ne hd.own hd.deed (by decide)
  have hDsz : w.heap.size ≤ V.heap.size := hd.below.size
  have hlt : ∀ k, (Value.slice a1 F.length e1).ownBlock = some k → k < V.heap.size := fun k hk => (World.ownsRow.lt hd.own k hk).2
  have HIN : Hid (∀ W vb, Below V.heap.size V W → W.heap[vb]? = some (entO key yk yt yc (.slice pa yp.length pc) (.slice ia yi.length ic) (.slice sa ys.length sc) 0) → V.heap.size ≤ vb → Calls Tryz.prog 146 #[.slice a1 F.length e1, .int .i64 (p : Int), .slice (some ⟨vb, 0, none⟩) 1 1] W fun e w' => ∃ a2 m e2, e = .returned (.slice a2 m e2) ∧ (w'.ownsRow w.heap.size 57 8 (.slice a2 m e2) (F.length + 1) ((F.take p ++ ⟨⟨key, ⟨yk, yt, yc, yp, yi, ys⟩, 0⟩, pa, pc, ia, ic, sa, sc⟩ :: F.drop p).flatMap encE) ∧ V.grownBy w' (Value.slice a1 F.length e1).ownBlock ∧ (Value.slice a2 m e2).ownBlock ≠ some D)) := fun W vb hW hvb hle =>
    (insertE_any w.heap.size p _ F ⟨⟨key, ⟨yk, yt, yc, yp, yi, ys⟩, 0⟩, pa, pc, ia, ic, sa, sc⟩ vb W (ownsRow_kept hd.own hW) (Nat.le_trans hDsz hW.size) hp (by omega) hvb (fun k hk => by have := hlt k hk; omega)).mono fun e w' ⟨r, h1, h2, h3, h4⟩ => by
      obtain ⟨a2, e2, rfl⟩ := ownsRow_shape h2
      refine ⟨a2, _, e2, h1, h2, grown_thru hW h3, fun hh => ?_⟩
      rcases h4 D hh with h5 | h5
      · exact hne h5
      · have := hW.size; omega
  have HD : Hid (Deed w now ⟨k, key, fld, txt, n⟩ (p : Int) false F D (.slice a1 F.length e1) V) := hd
  have HV : Hid (ListsF B V ⟨⟨key, ⟨yk, yt, yc, yp, yi, ys⟩, 0⟩, pa, pc, ia, ic, sa, sc⟩) := hV
  have HB := hideE hB
  have HBL := hideE hbl
  have HNE := hideE hne
  obtain ⟨s1, s3, s7⟩ : V.cell? ⟨D, 1, none⟩ = some (.slice a1 F.length e1) ∧ V.cell? ⟨D, 3, none⟩ = some (.string key) ∧ V.cell? ⟨D, 7, none⟩ = some (.int .i64 (p : Int)) := ⟨q1 1, q1 3, q1 7⟩
  obtain ⟨v0, v1, v2, v3, v4, v5⟩ : V.cell? ⟨b, 0, none⟩ = some (.int .i64 yk) ∧ V.cell? ⟨b, 1, none⟩ = some (.string yt) ∧ V.cell? ⟨b, 2, none⟩ = some (.int .i64 yc) ∧ V.cell? ⟨b, 3, none⟩ = some (.slice pa yp.length pc) ∧ V.cell? ⟨b, 4, none⟩ = some (.slice ia yi.length ic) ∧ V.cell? ⟨b, 5, none⟩ = some (.slice sa ys.length sc) := ⟨q0 0, q0 1, q0 2, q0 3, q0 4, q0 5⟩
  have hnb := own_ne hd.own nx (by decide)
  have NX : Hid (V.heap[b]? = some (valO yk yt yc (.slice pa yp.length pc) (.slice ia yi.length ic) (.slice sa ys.length sc))) := nx
  clear hd hV nx hB hne hlt q0 hbl
  go_upto_region 1 with fail
  refine region_but 22 23 (fun W => W.cell? ⟨D, 1, none⟩ = some (.slice a1 F.length e1) ∧ W.cell? ⟨D, 3, none⟩ = some (.string key) ∧ W.cell? ⟨D, 7, none⟩ = some (.int .i64 (p : Int)) ∧ W.cell? ⟨b, 0, none⟩ = some (.int .i64 yk) ∧ W.cell? ⟨b, 1, none⟩ = some (.string yt) ∧ W.cell? ⟨b, 2, none⟩ = some (.int .i64 yc) ∧ W.cell? ⟨b, 3, none⟩ = some (.slice pa yp.length pc) ∧ W.cell? ⟨b, 4, none⟩ = some (.slice ia yi.length ic) ∧ W.cell? ⟨b, 5, none⟩ = some (.slice sa ys.length sc)) (by kernel_rfl) (by kernel_rfl) (by (try dsimp only); go_keep) (fun hHeld => ?_)
  refine but_take (i := 0) (v := ?_) rfl (by kernel_rfl) (by kernel_rfl) (by kernel_rfl) (by kernel_rfl) (by decide) (fun _ _ _ h => h) (Or.inl ⟨by rfl, ?_⟩) (by assumption) ?_
  rotate_left
  · (intro w hSw; (try dsimp only at hSw); go_simp <;> with_reducible rfl)
  try simp only [Act.put, List.setIfInBounds_toArray, List.set_cons_zero, List.set_cons_succ]
  refine but_take (i := 1) (v := ?_) rfl (by kernel_rfl) (by kernel_rfl) (by kernel_rfl) (by kernel_rfl) (by decide) (fun _ _ _ h => h) (Or.inl ⟨by rfl, ?_⟩) (by assumption) ?_
  rotate_left
  · (intro w hSw; (try dsimp only at hSw); go_simp <;> with_reducible rfl)
  try simp only [Act.put, List.setIfInBounds_toArray, List.set_cons_zero, List.set_cons_succ]
  refine but_take (i := 2) (v := ?_) rfl (by kernel_rfl) (by kernel_rfl) (by kernel_rfl) (by kernel_rfl) (by decide) (fun _ _ _ h => h) (Or.inl ⟨by rfl, ?_⟩) (by assumption) ?_
  rotate_left
  · (intro w hSw; (try dsimp only at hSw); go_simp <;> with_reducible rfl)
  try simp only [Act.put, List.setIfInBounds_toArray, List.set_cons_zero, List.set_cons_succ]
  refine but_take (i := 3) (v := ?_) rfl (by kernel_rfl) (by kernel_rfl) (by kernel_rfl) (by kernel_rfl) (by decide) (fun _ _ _ h => h) (Or.inl ⟨by rfl, ?_⟩) (by assumption) ?_
  rotate_left
  · (intro w hSw; (try dsimp only at hSw); go_simp <;> with_reducible rfl)
  try simp only [Act.put, List.setIfInBounds_toArray, List.set_cons_zero, List.set_cons_succ]
  refine but_take (i := 4) (v := ?_) rfl (by kernel_rfl) (by kernel_rfl) (by kernel_rfl) (by kernel_rfl) (by decide) (fun _ _ _ h => h) (Or.inl ⟨by rfl, ?_⟩) (by assumption) ?_
  rotate_left
  · (intro w hSw; (try dsimp only at hSw); go_simp <;> with_reducible rfl)
  try simp only [Act.put, List.setIfInBounds_toArray, List.set_cons_zero, List.set_cons_succ]
  refine but_take (i := 5) (v := ?_) rfl (by kernel_rfl) (by kernel_rfl) (by kernel_rfl) (by kernel_rfl) (by decide) (fun _ _ _ h => h) (Or.inl ⟨by rfl, ?_⟩) (by assumption) ?_
  rotate_left
  · (intro w hSw; (try dsimp only at hSw); go_simp <;> with_reducible rfl)
  try simp only [Act.put, List.setIfInBounds_toArray, List.set_cons_zero, List.set_cons_succ]
  refine but_take (i := 6) (v := ?_) rfl (by kernel_rfl) (by kernel_rfl) (by kernel_rfl) (by kernel_rfl) (by decide) (fun _ _ _ h => h) (Or.inl ⟨by rfl, ?_⟩) (by assumption) ?_
  rotate_left
  · (intro w hSw; (try dsimp only at hSw); go_simp <;> with_reducible rfl)
  try simp only [Act.put, List.setIfInBounds_toArray, List.set_cons_zero, List.set_cons_succ]
  refine but_take (i := 7) (v := ?_) rfl (by kernel_rfl) (by kernel_rfl) (by kernel_rfl) (by kernel_rfl) (by decide) (fun _ _ _ h => h) (Or.inl ⟨by rfl, ?_⟩) (by assumption) ?_
  rotate_left
  · (intro w hSw; (try dsimp only at hSw); go_simp <;> with_reducible rfl)
  try simp only [Act.put, List.setIfInBounds_toArray, List.set_cons_zero, List.set_cons_succ]
  refine but_take (i := 8) (v := ?_) rfl (by kernel_rfl) (by kernel_rfl) (by kernel_rfl) (by kernel_rfl) (by decide) (fun _ _ _ h => h) (Or.inl ⟨by rfl, ?_⟩) (by assumption) ?_
  rotate_left
  · (intro w hSw; (try dsimp only at hSw); go_simp <;> with_reducible rfl)
  try simp only [Act.put, List.setIfInBounds_toArray, List.set_cons_zero, List.set_cons_succ]
  refine but_take (i := 9) (v := ?_) rfl (by kernel_rfl) (by kernel_rfl) (by kernel_rfl) (by kernel_rfl) (by decide) (fun _ _ _ h => h) (Or.inl ⟨by rfl, ?_⟩) (by assumption) ?_
  rotate_left
  · (intro w hSw; (try dsimp only at hSw); go_simp <;> with_reducible rfl)
  try simp only [Act.put, List.setIfInBounds_toArray, List.set_cons_zero, List.set_cons_succ]
  refine but_take (i := 10) (v := ?_) rfl (by kernel_rfl) (by kernel_rfl) (by kernel_rfl) (by kernel_rfl) (by decide) (fun _ _ _ h => h) (Or.inl ⟨by rfl, ?_⟩) (by assumption) ?_
  rotate_left
  · (intro w hSw; (try dsimp only at hSw); go_simp <;> with_reducible rfl)
  try simp only [Act.put, List.setIfInBounds_toArray, List.set_cons_zero, List.set_cons_succ]
  refine but_take (i := 11) (v := ?_) rfl (by kernel_rfl) (by kernel_rfl) (by kernel_rfl) (by kernel_rfl) (by decide) (fun _ _ _ h => h) (Or.inl ⟨by rfl, ?_⟩) (by assumption) ?_
  rotate_left
  · (intro w hSw; (try dsimp only at hSw); go_simp <;> with_reducible rfl)
  try simp only [Act.put, List.setIfInBounds_toArray, List.set_cons_zero, List.set_cons_succ]
  refine but_take (i := 12) (v := ?_) rfl (by kernel_rfl) (by kernel_rfl) (by kernel_rfl) (by kernel_rfl) (by decide) (fun _ _ _ h => h) (Or.inl ⟨by rfl, ?_⟩) (by assumption) ?_
  rotate_left
  · (intro w hSw; (try dsimp only at hSw); go_simp <;> with_reducible rfl)
  try simp only [Act.put, List.setIfInBounds_toArray, List.set_cons_zero, List.set_cons_succ]
  refine but_take (i := 13) (v := ?_) rfl (by kernel_rfl) (by kernel_rfl) (by kernel_rfl) (by kernel_rfl) (by decide) (fun _ _ _ h => h) (Or.inl ⟨by rfl, ?_⟩) (by assumption) ?_
  rotate_left
  · (intro w hSw; (try dsimp only at hSw); go_simp <;> with_reducible rfl)
  try simp only [Act.put, List.setIfInBounds_toArray, List.set_cons_zero, List.set_cons_succ]
  refine but_take (i := 14) (v := ?_) rfl (by kernel_rfl) (by kernel_rfl) (by kernel_rfl) (by kernel_rfl) (by decide) (fun _ _ _ h => h) (Or.inl ⟨by rfl, ?_⟩) (by assumption) ?_
  rotate_left
  · (intro w hSw; (try dsimp only at hSw); go_simp <;> with_reducible rfl)
  try simp only [Act.put, List.setIfInBounds_toArray, List.set_cons_zero, List.set_cons_succ]
  refine but_take (i := 15) (v := ?_) rfl (by kernel_rfl) (by kernel_rfl) (by kernel_rfl) (by kernel_rfl) (by decide) (fun _ _ _ h => h) (Or.inl ⟨by rfl, ?_⟩) (by assumption) ?_
  rotate_left
  · (intro w hSw; (try dsimp only at hSw); go_simp <;> with_reducible rfl)
  try simp only [Act.put, List.setIfInBounds_toArray, List.set_cons_zero, List.set_cons_succ]
  refine but_take (i := 16) (v := ?_) rfl (by kernel_rfl) (by kernel_rfl) (by kernel_rfl) (by kernel_rfl) (by decide) (fun _ _ _ h => h) (Or.inl ⟨by rfl, ?_⟩) (by assumption) ?_
  rotate_left
  · (intro w hSw; (try dsimp only at hSw); go_simp <;> with_reducible rfl)
  try simp only [Act.put, List.setIfInBounds_toArray, List.set_cons_zero, List.set_cons_succ]
  refine but_step (i := 17) (by kernel_rfl) rfl (fun K hK => ?_)
  (go_simp)
  refine hK.out.1 _ _ (by (try dsimp only); go_keep) (fun hHeld => ?_)
  clear hK K
  try simp only [Act.put, List.setIfInBounds_toArray, List.set_cons_zero, List.set_cons_succ]
  refine but_step (i := 18) (by kernel_rfl) rfl (fun K hK => ?_)
  (go_simp; refine (HIN.out _ _ ((Below.refl _ V).drew.alloc (Nat.le_refl _) _) (alloc_at V.drew _) (Nat.le_refl _)).mono ?_; rintro e w2 ⟨a2, m, e2, rfl, hown, hg, hob⟩; obtain ⟨y1, y2⟩ := same_block (hg.block D l1 (fun h => HNE.out h.symm)); obtain ⟨y3, y4⟩ := same_block (hg.block b l0 (fun h => hnb h.symm)); have l2 := Nat.lt_of_lt_of_le l1 hg.size; go_simp)
  refine hK.out.1 _ _ (by (try dsimp only); go_keep) (fun hHeld => ?_)
  clear hK K
  try simp only [Act.put, List.setIfInBounds_toArray, List.set_cons_zero, List.set_cons_succ]
  refine but_take (i := 19) (v := ?_) rfl (by kernel_rfl) (by kernel_rfl) (by kernel_rfl) (by kernel_rfl) (by decide) (fun _ _ _ h => h) (Or.inl ⟨by rfl, ?_⟩) (by assumption) ?_
  rotate_left
  · (intro w hSw; (try dsimp only at hSw); go_simp <;> with_reducible rfl)
  try simp only [Act.put, List.setIfInBounds_toArray, List.set_cons_zero, List.set_cons_succ]
  refine but_take (i := 20) (v := ?_) rfl (by kernel_rfl) (by kernel_rfl) (by kernel_rfl) (by kernel_rfl) (by decide) (fun _ _ _ h => h) (Or.inl ⟨by rfl, ?_⟩) (by assumption) ?_
  rotate_left
  · (intro w hSw; (try dsimp only at hSw); go_simp <;> with_reducible rfl)
  try simp only [Act.put, List.setIfInBounds_toArray, List.set_cons_zero, List.set_cons_succ]
  refine but_take (i := 21) (v := ?_) rfl (by kernel_rfl) (by kernel_rfl) (by kernel_rfl) (by kernel_rfl) (by decide) (fun _ _ _ h => h) (Or.inl ⟨by rfl, ?_⟩) (by assumption) ?_
  rotate_left
  · (intro w hSw; (try dsimp only at hSw); go_simp <;> with_reducible rfl)
  try simp only [Act.put, List.setIfInBounds_toArray, List.set_cons_zero, List.set_cons_succ]
  refine but_step (i := 22) (by kernel_rfl) rfl (fun K hK => ?_)
  (go_simp)
  refine hK.out.2 ⟨22, by decide, by kernel_rfl⟩ _ _ ?_
  clear hK K
  try simp only [Act.put, List.setIfInBounds_toArray, List.set_cons_zero, List.set_cons_succ]
  refine but_done (by kernel_rfl) ?_
  clear hHeld
  have hK := ((Kept.refl D (Value.slice a1 F.length e1).ownBlock V).grown hg).cell (o := 1) (.slice a2 m e2)
  have hfin := HD.out.inserted hK (setCell_in (.slice a2 m e2) (o := 1) ((hg.block D l1 (fun e => HNE.out e.symm)).trans HD.out.deed)) ⟨⟨key, ⟨yk, yt, yc, yp, yi, ys⟩, 0⟩, pa, pc, ia, ic, sa, sc⟩ (own_set hown (p := ⟨D, 1, none⟩) hob _) hp HB.out hDB hwB HV.out
  have HF := hideE hfin
  have HK := hideE (hK.pre HBL.out)
  clear y1 y2 y3 y4 hK hfin hown hg hob
  go_wp2_with fail
  go_ret
  exact ⟨rfl, ⟨_, HF.out⟩, HK.out⟩
end Go.Proofs.YtfnephnecighaaaGreat

/- What a region leaves that stores a value and a reply into boxes; a deed beside such boxes. -/
namespace Go.Proofs.YtfnephnecighaaaGreat
open Go.RowKit
set_option linter.unusedVariables false
set_option maxRecDepth 100000

structure Left (w3 Z : World) (g g' : Nat) (o o' : Obj) : Prop where
  at1 : Z.heap[g]? = some o
  at2 : Z.heap[g']? = some o'
  kept : ∀ k, k < w3.heap.size → k ≠ g → k ≠ g' → Z.heap[k]? = w3.heap[k]?
  size : w3.heap.size ≤ Z.heap.size
  below : ∀ B w, Below B w w3 → B ≤ g → B ≤ g' → B ≤ w3.heap.size → Below B w Z
theorem storedR_block {w1 : World} {g : Nat} {code code' n n' : Int} {text text' : ByteArray} {ls ls' : Value} (h : w1.heap[g]? = some (repO code' text' n' ls')) : (storedR w1 g code text n ls).heap[g]? = some (repO code text n ls) :=
  setCell_sameV (o := 3) ls (setCell_sameV (o := 2) (.int .i64 n) (setCell_sameV (o := 1) (.string text) (setCell_sameV (o := 0) (.int .i64 code) h)))
theorem left_old {w3 : World} {g g' : Nat} {kind kind' count count' code code' n n' : Int} {text text' t t' : ByteArray} {ps is ss ps' is' ss' ls ls' : Value} (h : w3.heap[g]? = some (valO kind' text' count' ps' is' ss')) (h' : w3.heap[g']? = some (repO code' t' n' ls')) (hg : g ≠ g') :
    Left w3 (storedR (storedV w3 g kind text count ps is ss) g' code t n ls) g g' (valO kind text count ps is ss) (repO code t n ls) :=
  ⟨(keepR hg).trans (storedV_block h), storedR_block ((keepV (fun e => hg e.symm)).trans h'), fun k _ h1 h2 => (keepR h2).trans (keepV h1), Nat.le_of_eq ((sizeR _ _ _ _ _ _).trans (sizeV _ _ _ _ _ _ _ _)).symm,
    fun B w h h1 h2 h3 => ((((storedV_below h h1).setCell h2 _).setCell h2 _).setCell h2 _).setCell h2 _⟩
theorem left_new {w3 : World} {g : Nat} {kind kind' count count' code code' n n' : Int} {text text' t t' : ByteArray} {ps is ss ps' is' ss' ls ls' : Value} (h : w3.heap[g]? = some (valO kind' text' count' ps' is' ss')) :
    Left w3 (storedR (storedV (w3.alloc (repO code' t' n' ls')) g kind text count ps is ss) w3.heap.size code t n ls) g w3.heap.size (valO kind text count ps is ss) (repO code t n ls) := by
  have hl := lt_heap h
  have h0 := left_old (kind := kind) (text := text) (count := count) (ps := ps) (is := is) (ss := ss) (code := code) (t := t) (n := n) (ls := ls) ((Below.heap_alloc w3 (repO code' t' n' ls') g hl).trans h) (alloc_here w3 (repO code' t' n' ls')) (by omega)
  exact ⟨h0.at1, h0.at2, fun k hk h1 h2 => (h0.kept k (by simp; omega) h1 h2).trans (Below.heap_alloc _ _ _ hk), Nat.le_trans (Nat.le_of_lt (size_a1 _ _)) h0.size, fun B w hb h1 h2 h3 => h0.below B w (hb.alloc h3 _) h1 h2 (by simp; omega)⟩

theorem left_alloc {w3 : World} {g : Nat} {kind kind' count count' code n : Int} {text text' t : ByteArray} {ps is ss ps' is' ss' ls : Value} (h : w3.heap[g]? = some (valO kind' text' count' ps' is' ss')) :
    Left w3 ((storedV w3 g kind text count ps is ss).alloc (repO code t n ls)) g w3.heap.size (valO kind text count ps is ss) (repO code t n ls) := by
  have hl := lt_heap h
  have hz := sizeV w3 g kind text count ps is ss
  refine ⟨by rw [Below.heap_alloc _ _ _ (by omega)]; exact storedV_block h, ?_, fun k hk h1 _ => by rw [Below.heap_alloc _ _ _ (by omega)]; exact keepV h1, by have := size_a0 (storedV w3 g kind text count ps is ss) (repO code t n ls); omega, fun B w h h1 h2 h3 => (storedV_below h h1).alloc (by omega) _⟩
  have := alloc_here (storedV w3 g kind text count ps is ss) (repO code t n ls)
  rwa [hz] at this
/-- A deed beside two boxes that are stored into. -/
theorem Deed.boxes {w w3 Z : World} {now at' : Int} {c : Cmd} {found : Bool} {F : List Ent} {D : Nat} {es : Value} {g g' : Nat} {o o' : Obj} {cs : Array Value} (h : Deed w now c at' found F D es w3) (hL : Left w3 Z g g' o o') (hg : w3.heap[g]? = some (.cells cs 26 (0, 0))) (hg' : w3.heap.size ≤ g' ∨ ∃ cs', w3.heap[g']? = some (.cells cs' 32 (0, 0)))
    (hw : w.heap.size ≤ g) (hw' : w.heap.size ≤ g') : Deed w now c at' found F D es Z := by
  have hsame : ∀ {t : TypeId} {kk n : Nat} {v : Value} {xs : List Value}, w3.ownsRow w.heap.size t kk v n xs → t ≠ 26 → t ≠ 32 → Z.ownsRow w.heap.size t kk v n xs := fun hr h1 h2 => own_same hr fun b hb => by
    refine hL.kept b (World.ownsRow.lt hr b hb).2 (fun e => own_ne hr hg (fun e => h1 e.symm) (by rw [← e]; exact hb)) (fun e => ?_)
    rcases hg' with hg' | ⟨cs', hg'⟩
    · have := (World.ownsRow.lt hr b hb).2; omega
    · exact own_ne hr hg' (fun e => h2 e.symm) (by rw [← e]; exact hb)
  have hD : Z.heap[D]? = w3.heap[D]? := by
    refine hL.kept D (lt_at h.deed) (fun e => ?_) (fun e => ?_)
    · subst e; have := hg.symm.trans h.deed; simp at this
    · subst e
      rcases hg' with hg' | ⟨cs', hg'⟩
      · have := lt_at h.deed; omega
      · have := hg'.symm.trans h.deed; simp at this
  exact ⟨h.bD, hD.trans h.deed, hsame h.own (by decide) (by decide), fun e he => ⟨hsame (h.lists e he).p (by decide) (by decide), hsame (h.lists e he).i (by decide) (by decide), hsame (h.lists e he).s (by decide) (by decide)⟩, hL.below _ _ h.below hw hw' h.below.size⟩

theorem parts_uniq {α : Type} {cm : α → Int} {l : List α} {p q : Nat} (h : Parts cm l p) (h' : Parts cm l q) : p = q := by
  obtain ⟨h1, h2⟩ := h
  obtain ⟨h3, h4⟩ := h'
  rcases Nat.lt_trichotomy p q with h | h | h
  · have a := (h4 p (by omega)).2 h; have := (h2 p (by omega)).1 a; omega
  · exact h
  · have a := (h2 q (by omega)).2 h; have := (h4 q (by omega)).1 a; omega
/-- What was found of a key, among the entries in memory and among the plain ones. -/
theorem found_kv {F : List Ent} {key : ByteArray} {p : Nat} (hr : Rise (F.map (·.kv))) (hp : Parts (fun e : Ent => cmpS e.kv.key key) F p) : atK key (F.map (·.kv)) = p ∧ hasK key (F.map (·.kv)) = hitB (fun e : Ent => cmpS e.kv.key key) F p ∧ (∀ h : p < F.length, hitB (fun e : Ent => cmpS e.kv.key key) F p = true → getK key (F.map (·.kv)) = F[p].kv ∧ F[p].kv.key = key) ∧ (hitB (fun e : Ent => cmpS e.kv.key key) F p = true → p < F.length) := by
  have hp' : Parts (kCm key) (F.map (·.kv)) p := ⟨by simpa using hp.1, fun a h => by
    have := hp.2 a (by simpa using h)
    simpa [kCm] using this⟩
  have e1 := parts_uniq (kparts hr key) hp'
  have e2 : hasK key (F.map (·.kv)) = hitB (fun e : Ent => cmpS e.kv.key key) F p := by
    unfold hasK
    rw [e1]
    unfold hitB
    rw [List.getElem?_map]
    cases F[p]? <;> rfl
  refine ⟨e1, e2, fun h hh => ?_, fun hh => (hit_some hh).1⟩
  have h3 := has_get (e2.trans hh)
  obtain ⟨hp2, h4, h5⟩ := h3
  have h6 : ∀ q (hq : q < (F.map (·.kv)).length), q = p → (F.map (·.kv))[q] = F[p].kv := by rintro q hq rfl; simp
  rw [h6 _ hp2 e1] at h4 h5
  exact ⟨h5, h4⟩
theorem map_cut (F : List Ent) (p : Nat) : (cutAt F p).map (·.kv) = cutAt (F.map (·.kv)) p := by simp [cutAt, List.map_take, List.map_drop]
theorem map_lay (F : List Ent) (p : Nat) (e : Ent) : (layAt F p e).map (·.kv) = layAt (F.map (·.kv)) p e.kv := by simp [layAt, List.map_take, List.map_drop]
theorem map_setE (F : List Ent) (p : Nat) (e : Ent) : (F.set p e).map (·.kv) = (F.map (·.kv)).set p e.kv := by rw [List.map_set]
end Go.Proofs.YtfnephnecighaaaGreat

/- Stores of one key, and what a change comes to: plain lists alone. -/
namespace Go.Proofs.YtfnephnecighaaaGreat
open Go.RowKit
set_option linter.unusedVariables false

theorem nil_has (k : ByteArray) : hasK k [] = false ∧ atK k [] = 0 ∧ getK k [] = noKv := by
  have h : hasK k [] = false := rfl
  exact ⟨h, rfl, get_none h⟩
theorem one_has (k : ByteArray) (x : Val) (t : Int) : hasK k [⟨k, x, t⟩] = true ∧ atK k [⟨k, x, t⟩] = 0 ∧ getK k [⟨k, x, t⟩] = ⟨k, x, t⟩ := by
  have h0 : cmpS k k = 0 := (cmpS_eq _ _).2 rfl
  have h1 : atK k [⟨k, x, t⟩] = 0 := by simp [atK, posOf, kCm, h0]
  have h2 : hasK k [⟨k, x, t⟩] = true := by
    unfold hasK hitB
    rw [h1]
    simp [kCm, h0]
  refine ⟨h2, h1, ?_⟩
  rw [getK, if_pos h2, h1]; rfl
theorem kept_nil (M : Int) : keptK M [] = [] := rfl
theorem kept_one {M : Int} {e : Kv} (h : goneB M e = false) : keptK M [e] = [e] := by simp [keptK, h]
theorem kept_gone {M : Int} {e : Kv} (h : goneB M e = true) : keptK M [e] = [] := by simp [keptK, h]
theorem gone_zero (M : Int) (k : ByteArray) (x : Val) : goneB M ⟨k, x, 0⟩ = false := by simp [goneB]
theorem gone_late {M t : Int} (k : ByteArray) (x : Val) (h : M < t) : goneB M ⟨k, x, t⟩ = false := by simp [goneB]; omega
theorem gone_past {M t : Int} (k : ByteArray) (x : Val) (h : t ≤ M) (h0 : t ≠ 0) : goneB M ⟨k, x, t⟩ = true := by simp [goneB]; omega

/-- What a change comes to, whatever was there. -/
theorem ans_change {now : Int} {c : Cmd} {L : List Kv} (hs : ofStoreB c.k = false) : ansK now c L = changeK c L := by
  have h : ¬ (c.k = 19 ∨ c.k = 20 ∨ c.k = 21 ∨ c.k = 22) := by simpa [ofStoreB] using hs
  unfold ansK
  rw [if_neg (by omega), if_neg (by omega), if_neg (by omega), if_neg (by omega)]
theorem change_fail {c : Cmd} {L : List Kv} (h : (doR (getK c.key L).x c).code ≠ 0) : changeK c L = (L, doR (getK c.key L).x c) := by rw [changeK, if_pos h]
theorem change_old {c : Cmd} {L : List Kv} {y : Val} {r : Rep} (hy : doV (getK c.key L).x c = y) (hr : doR (getK c.key L).x c = r) (h0 : r.code = 0) (hk : y.kind ≠ 0) (hh : hasK c.key L = true) : changeK c L = (L.set (atK c.key L) ⟨c.key, y, tilK c (getK c.key L).til⟩, r) := by
  have e : layK c L y = (L.set (atK c.key L) ⟨c.key, y, tilK c (getK c.key L).til⟩, 0) := by rw [layK, if_neg hk, if_pos hh]
  rw [changeK, hr, hy, if_neg (by simp [h0]), e]; simp
theorem change_new {c : Cmd} {L : List Kv} {y : Val} {r : Rep} (hy : doV (emptyVal 0) c = y) (hr : doR (emptyVal 0) c = r) (h0 : r.code = 0) (hk : y.kind ≠ 0) (hh : hasK c.key L = false) (hl : L.length < 12) : changeK c L = (layAt L (atK c.key L) ⟨c.key, y, 0⟩, r) := by
  have e : layK c L y = (layAt L (atK c.key L) ⟨c.key, y, 0⟩, 0) := by rw [layK, if_neg hk, hh, if_neg (by simp), if_neg (by omega)]
  rw [changeK, get_none hh, show noKv.x = emptyVal 0 from rfl, hr, hy, if_neg (by simp [h0]), e]; simp
theorem change_full {c : Cmd} {L : List Kv} {y : Val} {r : Rep} (hy : doV (emptyVal 0) c = y) (hr : doR (emptyVal 0) c = r) (h0 : r.code = 0) (hk : y.kind ≠ 0) (hh : hasK c.key L = false) (hl : 12 ≤ L.length) : changeK c L = (L, { code := 6 }) := by
  have e : layK c L y = (L, 6) := by rw [layK, if_neg hk, hh, if_neg (by simp), if_pos hl]
  rw [changeK, get_none hh, show noKv.x = emptyVal 0 from rfl, hr, hy, if_neg (by simp [h0]), e]; simp
theorem change_gone {c : Cmd} {L : List Kv} {r : Rep} (hy : (doV (getK c.key L).x c).kind = 0) (hr : doR (getK c.key L).x c = r) (h0 : r.code = 0) : changeK c L = (cutAt L (atK c.key L), r) := by
  have e : layK c L (doV (getK c.key L).x c) = (cutAt L (atK c.key L), 0) := by rw [layK, if_pos hy]
  rw [changeK, hr, if_neg (by simp [h0]), e]; simp
theorem applied {s : Sto} {t M : Int} {c : Cmd} {L : List Kv} {A : List Kv × Rep} (h : refS s t c = 0) (hM : max s.now t = M) (hL : keptK M s.es = L) (hA : ansK M c L = A) : applyS s t c = ⟨M, A.1⟩ ∧ applyR s t c = A.2 := by
  subst hM hL hA
  rw [applyS, applyR, if_neg (by simp [h]), if_neg (by simp [h])]
  exact ⟨rfl, rfl⟩
/- Stores of one key. -/
theorem ap_new {now t M : Int} {c : Cmd} {y : Val} {r : Rep} (h : refS ⟨now, []⟩ t c = 0) (hM : max now t = M) (hs : ofStoreB c.k = false) (hy : doV (emptyVal 0) c = y) (hr : doR (emptyVal 0) c = r) (h0 : r.code = 0) (hk : y.kind ≠ 0) : applyS ⟨now, []⟩ t c = ⟨M, [⟨c.key, y, 0⟩]⟩ ∧ applyR ⟨now, []⟩ t c = r :=
  applied h hM rfl ((ans_change hs).trans (change_new hy hr h0 hk (nil_has _).1 (by simp [keptK])))
theorem ap_old {now t M til : Int} {c : Cmd} {x y : Val} {r : Rep} (h : refS ⟨now, [⟨c.key, x, til⟩]⟩ t c = 0) (hM : max now t = M) (hg : goneB M ⟨c.key, x, til⟩ = false) (hs : ofStoreB c.k = false) (hy : doV x c = y) (hr : doR x c = r) (h0 : r.code = 0) (hk : y.kind ≠ 0) : applyS ⟨now, [⟨c.key, x, til⟩]⟩ t c = ⟨M, [⟨c.key, y, tilK c til⟩]⟩ ∧ applyR ⟨now, [⟨c.key, x, til⟩]⟩ t c = r := by
  obtain ⟨h1, h2, h3⟩ := one_has c.key x til
  have := change_old (c := c) (L := [⟨c.key, x, til⟩]) (y := y) (r := r) (by rw [h3]; exact hy) (by rw [h3]; exact hr) h0 hk h1
  rw [h2, h3] at this
  exact applied h hM (kept_one hg) ((ans_change hs).trans this)
theorem ap_expire {now t M til : Int} {c : Cmd} {x : Val} (h : refS ⟨now, [⟨c.key, x, til⟩]⟩ t c = 0) (hM : max now t = M) (hg : goneB M ⟨c.key, x, til⟩ = false) (hk : c.k = 20) (h1 : 1 ≤ c.n) (h2 : c.n ≤ 1073741824 - M) : applyS ⟨now, [⟨c.key, x, til⟩]⟩ t c = ⟨M, [⟨c.key, x, M + c.n⟩]⟩ ∧ applyR ⟨now, [⟨c.key, x, til⟩]⟩ t c = {} := by
  obtain ⟨q1, q2, q3⟩ := one_has c.key x til
  refine applied (A := ([⟨c.key, x, M + c.n⟩], {})) h hM (kept_one hg) ?_
  rw [ansK, if_neg (by omega), if_neg (by omega), if_pos hk, expireK, q1, q2, q3, if_neg (by simp), if_neg (by omega)]; simp
theorem ap_life {now t M til : Int} {c : Cmd} {x : Val} (h : refS ⟨now, [⟨c.key, x, til⟩]⟩ t c = 0) (hM : max now t = M) (hg : goneB M ⟨c.key, x, til⟩ = false) (hk : c.k = 21) : applyS ⟨now, [⟨c.key, x, til⟩]⟩ t c = ⟨M, [⟨c.key, x, til⟩]⟩ ∧ applyR ⟨now, [⟨c.key, x, til⟩]⟩ t c = if til = 0 then {} else { n := til - M } := by
  obtain ⟨q1, q2, q3⟩ := one_has c.key x til
  refine applied (A := ([⟨c.key, x, til⟩], if til = 0 then {} else { n := til - M })) h hM (kept_one hg) ?_
  rw [ansK, if_neg (by omega), if_neg (by omega), if_neg (by omega), if_pos hk, q1, q3]; rfl
theorem ap_keys {s : Sto} {t M : Int} {c : Cmd} (h : refS s t c = 0) (hM : max s.now t = M) (hk : c.k = 22) : applyS s t c = ⟨M, keptK M s.es⟩ ∧ applyR s t c = { list := (keptK M s.es).map (·.key) } := by
  refine applied (A := (keptK M s.es, { list := (keptK M s.es).map (·.key) })) h hM rfl ?_
  rw [ansK, if_pos hk]
end Go.Proofs.YtfnephnecighaaaGreat
