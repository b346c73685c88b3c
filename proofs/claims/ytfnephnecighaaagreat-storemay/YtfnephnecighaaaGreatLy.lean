/- A value laid under a key: (*store.deed).lay. -/
import Derived.Test.YtfnephnecighaaaGreatDp
import Derived.Test.YtfnephnecighaaaGreatRp
namespace Go.Proofs.YtfnephnecighaaaGreat
open Go.RowKit
set_option linter.unusedVariables false
set_option maxRecDepth 100000

set_option maxHeartbeats 4000000 in
theorem lay_drop (w wr : World) (now : Int) (p : Nat) (c : Cmd) (found : Bool) (F : List Ent) (D : Nat) (es : Value) (y : Val) (pa ia sa : Option Addr) (pc ic sc : Nat) (h : Deed w now c (p : Int) found F D es wr) (hp : p < F.length) (hn : F.length ≤ 1048576) (hy : y.kind = 0) :
    Calls Tryz.prog 106 #[.pointer (some ⟨D, 0, none⟩), valV y.kind y.text y.count (.slice pa y.pairs.length pc) (.slice ia y.items.length ic) (.slice sa y.scores.length sc)] wr fun e w' => e = .returned (.int .i64 0) ∧ ∃ r, Deed w now c (p : Int) found (cutAt F p) D r w' ∧ Kept D es.ownBlock wr w' := by
  have hbl := balloc wr (valO y.kind y.text y.count (.slice pa y.pairs.length pc) (.slice ia y.items.length ic) (.slice sa y.scores.length sc))
  have nx := alloc_at wr (valO y.kind y.text y.count (.slice pa y.pairs.length pc) (.slice ia y.items.length ic) (.slice sa y.scores.length sc))
  have hDR := (drop_any w _ now p c found F D es (h.mid hbl) hp hn).mono fun e w' ⟨h1, r, h2, h3⟩ => (show e = Ending.returned (.tuple #[]) ∧ ∃ r, Deed w now c (p : Int) found (cutAt F p) D r w' ∧ Kept D es.ownBlock wr w' from ⟨h1, r, h2, ⟨h3.os.trans hbl.os, h3.tape.trans hbl.tape, h3.output.trans hbl.output, Nat.le_trans hbl.size h3.size, fun b hb h1 h2 => (h3.block b (Nat.lt_of_lt_of_le hb hbl.size) h1 h2).trans (hbl.block b hb)⟩⟩)
  obtain ⟨k, key, fld, txt, n⟩ := c
  obtain ⟨yk, yt, yc, yp, yi, ys⟩ := y
  simp only at *
  subst hy
  go_enter Tryz.func106, Tryz.ntmps106
  go_upto_region 2 with fail
  generalize wr.alloc (valO 0 yt yc (.slice pa yp.length pc) (.slice ia yi.length ic) (.slice sa ys.length sc)) = V at nx hDR ⊢
  generalize wr.heap.size = b at nx ⊢
  obtain ⟨q0, f0⟩ := cellsB nx
  have HDR := hideE hDR
  clear hDR h hbl nx
  go_wp2_with fail
  refine HDR.out.mono ?_
  rintro e w2 ⟨rfl, r, hd2, hK⟩
  have HX := hideE hd2
  have HK := hideE hK
  clear q0 f0 hd2 hK
  go_wp2_with fail
  go_ret
  exact ⟨rfl, r, HX.out, HK.out⟩

set_option maxHeartbeats 4000000 in
theorem lay_old (w wr : World) (now : Int) (p B : Nat) (c : Cmd) (F : List Ent) (D : Nat) (es : Value) (y : Val) (pa ia sa : Option Addr) (pc ic sc : Nat) (h : Deed w now c (p : Int) true F D es wr) (hp : p < F.length) (hB : ∀ b, es.ownBlock = some b → b < B) (hwB : w.heap.size ≤ B) (hBr : B ≤ wr.heap.size)
    (hl : ListsF B wr ⟨⟨F[p].kv.key, y, tilK c F[p].kv.til⟩, pa, pc, ia, ic, sa, sc⟩) (hy : y.kind ≠ 0) :
    Calls Tryz.prog 106 #[.pointer (some ⟨D, 0, none⟩), valV y.kind y.text y.count (.slice pa y.pairs.length pc) (.slice ia y.items.length ic) (.slice sa y.scores.length sc)] wr fun e w' => e = .returned (.int .i64 0) ∧ Fin w now c (F.set p ⟨⟨F[p].kv.key, y, tilK c F[p].kv.til⟩, pa, pc, ia, ic, sa, sc⟩) D B es w' ∧ Kept D es.ownBlock wr w' := by
  have hbl := balloc wr (valO y.kind y.text y.count (.slice pa y.pairs.length pc) (.slice ia y.items.length ic) (.slice sa y.scores.length sc))
  have nx := alloc_at wr (valO y.kind y.text y.count (.slice pa y.pairs.length pc) (.slice ia y.items.length ic) (.slice sa y.scores.length sc))
  have hd := h.mid hbl
  have hRP := (replace_any w _ now p B c F D es y pa ia sa pc ic sc hd hp hB hwB (Nat.le_trans hBr hbl.size) ⟨hl.1.below hbl, hl.2⟩).mono fun e w' ⟨h1, h2, h3⟩ => (⟨h1, h2, h3.pre hbl⟩ : e = Ending.returned (.tuple #[]) ∧ _ ∧ Kept D es.ownBlock wr w')
  generalize F.set p ⟨⟨F[p].kv.key, y, tilK c F[p].kv.til⟩, pa, pc, ia, ic, sa, sc⟩ = F2 at *
  obtain ⟨k, key, fld, txt, n⟩ := c
  obtain ⟨yk, yt, yc, yp, yi, ys⟩ := y
  simp only at *
  have hy' : (yk == 0) = false := by simpa using hy
  clear h hl hy
  go_enter Tryz.func106, Tryz.ntmps106
  go_upto_region 2 with fail
  generalize wr.alloc (valO yk yt yc (.slice pa yp.length pc) (.slice ia yi.length ic) (.slice sa ys.length sc)) = V at nx hRP hd ⊢
  generalize wr.heap.size = b at nx ⊢
  obtain ⟨q0, f0⟩ := cellsB nx
  obtain ⟨q1, f1⟩ := cellsB hd.deed
  have l0 := lt_at nx
  have l1 := lt_at hd.deed
  have HRP : Hid (Calls Tryz.prog 145 #[.pointer (some ⟨D, 0, none⟩), valV yk yt yc (.slice pa yp.length pc) (.slice ia yi.length ic) (.slice sa ys.length sc)] V fun e w' => e = .returned (.tuple #[]) ∧ Fin w now ⟨k, key, fld, txt, n⟩ F2 D B es w' ∧ Kept D es.ownBlock wr w') := hRP
  clear hRP hd hbl nx
  go_wp2_with fail
  refine HRP.out.mono ?_
  rintro e w2 ⟨rfl, hf⟩
  have HX := hideE hf
  clear q0 f0 q1 f1 hf
  go_wp2_with fail
  go_ret
  exact ⟨rfl, HX.out⟩

set_option maxHeartbeats 4000000 in
theorem lay_full (w wr : World) (now : Int) (p : Nat) (c : Cmd) (F : List Ent) (D : Nat) (es : Value) (y : Val) (pa ia sa : Option Addr) (pc ic sc : Nat) (h : Deed w now c (p : Int) false F D es wr) (hn : 12 ≤ F.length) (hy : y.kind ≠ 0) :
    Calls Tryz.prog 106 #[.pointer (some ⟨D, 0, none⟩), valV y.kind y.text y.count (.slice pa y.pairs.length pc) (.slice ia y.items.length ic) (.slice sa y.scores.length sc)] wr fun e w' => e = .returned (.int .i64 6) ∧ Below wr.heap.size wr w' := by
  have hbl := balloc wr (valO y.kind y.text y.count (.slice pa y.pairs.length pc) (.slice ia y.items.length ic) (.slice sa y.scores.length sc))
  have nx := alloc_at wr (valO y.kind y.text y.count (.slice pa y.pairs.length pc) (.slice ia y.items.length ic) (.slice sa y.scores.length sc))
  have hd := h.mid hbl
  obtain ⟨a1, e1, rfl⟩ := ownsRow_shape h.own
  obtain ⟨k, key, fld, txt, n⟩ := c
  obtain ⟨yk, yt, yc, yp, yi, ys⟩ := y
  simp only at *
  have hy' : (yk == 0) = false := by simpa using hy
  have hn' : (12 : Int) ≤ (F.length : Int) := by omega
  clear h hy
  go_enter Tryz.func106, Tryz.ntmps106
  go_upto_region 2 with fail
  generalize wr.alloc (valO yk yt yc (.slice pa yp.length pc) (.slice ia yi.length ic) (.slice sa ys.length sc)) = V at nx hd hbl ⊢
  generalize hb : wr.heap.size = b at nx hbl ⊢
  obtain ⟨q0, f0⟩ := cellsB nx
  obtain ⟨q1, f1⟩ := cellsB hd.deed
  have l0 := lt_at nx
  have l1 := lt_at hd.deed
  have HB := hideE hbl
  clear hd hbl nx
  go_wp2_with fail
  go_ret
  first | exact ⟨rfl, HB.out⟩ | (rw [hb]; exact ⟨rfl, HB.out⟩)
end Go.Proofs.YtfnephnecighaaaGreat
