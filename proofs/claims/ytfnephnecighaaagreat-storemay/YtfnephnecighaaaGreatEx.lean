/- A key runs out later: (*store.deed).expire. -/
import Derived.Test.YtfnephnecighaaaGreatLf
namespace Go.Proofs.YtfnephnecighaaaGreat
open Go.RowKit
set_option linter.unusedVariables false
set_option maxRecDepth 100000

theorem Kept.fresh {D b o : Nat} {ob : Option Nat} {w W : World} (h : Kept D ob w W) (hb : w.heap.size ≤ b) (u : Value) : Kept D ob w (W.setCell ⟨b, o, none⟩ u) :=
  ⟨by simpa [World.setCell] using h.os, by simpa [World.setCell] using h.tape, by simpa [World.setCell] using h.output, by simpa [World.setCell] using h.size, fun k hl h1 h2 => (Below.heap_setCell _ _ _ _ (by show k ≠ b; omega)).trans (h.block k hl h1 h2)⟩
theorem Kept.fresh4 {D b : Nat} {ob : Option Nat} {w W : World} (h : Kept D ob w W) (hb : w.heap.size ≤ b) (u0 u1 u2 u3 : Value) : Kept D ob w ((((W.setCell ⟨b, 0, none⟩ u0).setCell ⟨b, 1, none⟩ u1).setCell ⟨b, 2, none⟩ u2).setCell ⟨b, 3, none⟩ u3) :=
  (((h.fresh hb u0).fresh hb u1).fresh hb u2).fresh hb u3
theorem Kept.of {D : Nat} {ob : Option Nat} {w W : World} (h : Below w.heap.size w W) : Kept D ob w W := ⟨h.os, h.tape, h.output, h.size, fun b hl _ _ => h.block b hl⟩
theorem Kept.pre {D : Nat} {ob : Option Nat} {w V W : World} (hb : Below w.heap.size w V) (h : Kept D ob V W) : Kept D ob w W :=
  ⟨h.os.trans hb.os, h.tape.trans hb.tape, h.output.trans hb.output, Nat.le_trans hb.size h.size, fun b hl h1 h2 => (h.block b (Nat.lt_of_lt_of_le hl hb.size) h1 h2).trans (hb.block b hl)⟩
theorem Kept.row {D g o : Nat} {w W : World} (h : Kept D (some g) w W) (u : Value) : Kept D (some g) w (W.setCell ⟨g, o, none⟩ u) :=
  ⟨by simpa [World.setCell] using h.os, by simpa [World.setCell] using h.tape, by simpa [World.setCell] using h.output, by simpa [World.setCell] using h.size, fun k hl h1 h2 => (Below.heap_setCell _ _ _ _ (fun e => h2 (by rw [e]))).trans (h.block k hl h1 h2)⟩

def Ent.withTil (e : Ent) (t : Int) : Ent := ⟨⟨e.kv.key, e.kv.x, t⟩, e.pa, e.pc, e.ia, e.ic, e.sa, e.sc⟩
theorem flat_til (t : Int) : ∀ (l : List Ent) (i : Nat) (S : List Value) (h : i < l.length), ((l.flatMap encE) ++ S).set (i * 8 + 7) (.int .i64 t) = (l.set i (l[i].withTil t)).flatMap encE ++ S
  | [], i, S, h => by simp at h
  | x :: r, 0, S, h => by simp [encE, Ent.withTil]
  | x :: r, i + 1, S, h => by
    have ih := flat_til t r i S (by simpa using h)
    have hx : encE x = [.string x.kv.key, .int .i64 x.kv.x.kind, .string x.kv.x.text, .int .i64 x.kv.x.count, x.ps, x.is, x.ss, .int .i64 x.kv.til] := rfl
    rw [List.flatMap_cons, List.getElem_cons_succ, List.set_cons_succ, List.flatMap_cons, List.append_assoc, List.append_assoc, ← ih, hx]
    rw [show (i + 1) * 8 + 7 = (i * 8 + 7) + 8 by omega]
    simp only [List.cons_append, List.nil_append, List.set_cons_succ]

/-- The deed behind a store of till when into an entry. -/
theorem Deed.till {w wr : World} {now at' t : Int} {c : Cmd} {found : Bool} {F : List Ent} {D g cap : Nat} {S : List Value} (h : Deed w now c at' found F D (.slice (some ⟨g, 0, none⟩) F.length cap) wr) (p : Nat) (hp : p < F.length) (hgw : w.heap.size ≤ g) (hgD : g ≠ D) (hc : F.length ≤ cap) (hm : cap ≤ maxLen)
    (hrow : wr.heap[g]? = some (.cells (F.flatMap encE ++ S).toArray 57 (0, 0))) (hsz : (F.flatMap encE ++ S).length = cap * 8) :
    Deed w now c at' found (F.set p (F[p].withTil t)) D (.slice (some ⟨g, 0, none⟩) F.length cap) (wr.setCell ⟨g, p * 8 + 7, none⟩ (.int .i64 t)) := by
  have hr2 := Go.heap_setCell_same _ g (p * 8 + 7) _ 57 (.int .i64 t) hrow
  have hr3 : (wr.setCell ⟨g, p * 8 + 7, none⟩ (.int .i64 t)).heap[g]? = some (.cells ((F.set p (F[p].withTil t)).flatMap encE ++ S).toArray 57 (0, 0)) := by
    rw [hr2, ← flat_til t F p S hp]; simp
  have hL : ∀ x : Ent, OwnVL w.heap.size wr x.ps x.is x.ss x.kv.x → OwnVL w.heap.size (wr.setCell ⟨g, p * 8 + 7, none⟩ (.int .i64 t)) x.ps x.is x.ss x.kv.x := fun x hx =>
    ⟨own_set hx.p (own_ne hx.p hrow (by decide)) _, own_set hx.i (own_ne hx.i hrow (by decide)) _, own_set hx.s (own_ne hx.s hrow (by decide)) _⟩
  refine ⟨h.bD, (Below.heap_setCell _ _ _ _ (fun e => hgD e.symm)).trans h.deed, ?_, ?_, h.below.setCell hgw _⟩
  · have hl : (F.set p (F[p].withTil t)).length = F.length := List.length_set
    rw [hl]
    refine own_mk (S := S) (by rw [flat_length lenE, hl]) hgw hr3 hc hm ?_
    rw [List.length_append, flat_length lenE] at hsz ⊢
    rw [hl]; exact hsz
  · intro e he
    rcases List.mem_or_eq_of_mem_set he with he | rfl
    · exact hL e (h.lists e he)
    · have := hL _ (h.lists F[p] (List.getElem_mem hp))
      exact ⟨this.p, this.i, this.s⟩

set_option maxHeartbeats 4000000 in
theorem expire_none (w wr : World) (now at' : Int) (c : Cmd) (F : List Ent) (D : Nat) (es : Value) (h : Deed w now c at' false F D es wr) :
    Calls Tryz.prog 81 #[.pointer (some ⟨D, 0, none⟩)] wr fun e w' => e = .returned (repV 5 ⟨#[]⟩ 0 (.slice none 0 0)) ∧ Below wr.heap.size wr w' := by
  have hbl := balloc wr (.cells #[.int .i64 0, .string ⟨#[]⟩, .int .i64 0, .slice none 0 0] 32)
  have nx := alloc_at wr (.cells #[.int .i64 0, .string ⟨#[]⟩, .int .i64 0, .slice none 0 0] 32)
  have nD := (hbl.block D (lt_at h.deed)).trans h.deed
  obtain ⟨k, key, fld, txt, n⟩ := c
  clear h
  go_enter Tryz.func81, Tryz.ntmps81
  go_upto_region 1 with fail
  generalize wr.alloc (.cells #[.int .i64 0, .string ⟨#[]⟩, .int .i64 0, .slice none 0 0] 32) = V at nx nD hbl ⊢
  generalize hb : wr.heap.size = b at nx hbl ⊢
  obtain ⟨q0, f0⟩ := cellsB nx
  obtain ⟨q1, f1⟩ := cellsB nD
  have l0 := lt_at nx
  have l1 := lt_at nD
  go_wp2_with fail
  refine bodyPost_ret (v := repV 5 ⟨#[]⟩ 0 (.slice none 0 0)) (by simp [results, Tryz.results81, go_sem, q0]) rfl ⟨rfl, ?_⟩
  first | rw [hb] | skip
  (iterate 4 (refine Below.setCell ?_ (by simp) _))
  exact hbl

set_option maxHeartbeats 4000000 in
theorem expire_bad (w wr : World) (now at' : Int) (c : Cmd) (F : List Ent) (D : Nat) (es : Value) (h : Deed w now c at' true F D es wr) (hn0 : 0 ≤ now) (hn1 : now ≤ 1073741824) (hbad : c.n < 1 ∨ 1073741824 - now < c.n) :
    Calls Tryz.prog 81 #[.pointer (some ⟨D, 0, none⟩)] wr fun e w' => e = .returned (repV 2 ⟨#[]⟩ 0 (.slice none 0 0)) ∧ Below wr.heap.size wr w' := by
  have hbl := balloc wr (.cells #[.int .i64 0, .string ⟨#[]⟩, .int .i64 0, .slice none 0 0] 32)
  have nx := alloc_at wr (.cells #[.int .i64 0, .string ⟨#[]⟩, .int .i64 0, .slice none 0 0] 32)
  have nD := (hbl.block D (lt_at h.deed)).trans h.deed
  obtain ⟨k, key, fld, txt, n⟩ := c
  simp only at hbad
  clear h
  go_enter Tryz.func81, Tryz.ntmps81
  go_upto_region 1 with fail
  generalize wr.alloc (.cells #[.int .i64 0, .string ⟨#[]⟩, .int .i64 0, .slice none 0 0] 32) = V at nx nD hbl ⊢
  generalize hb : wr.heap.size = b at nx hbl ⊢
  obtain ⟨q0, f0⟩ := cellsB nx
  obtain ⟨q1, f1⟩ := cellsB nD
  have l0 := lt_at nx
  have l1 := lt_at nD
  have HBL : Hid (Below b wr V) := hbl
  clear nx nD hbl
  by_cases h1 : n < 1
  · clear hbad
    go_wp2_with fail
    refine bodyPost_ret (v := repV 2 ⟨#[]⟩ 0 (.slice none 0 0)) (by simp [results, Tryz.results81, go_sem, q0]) rfl ⟨rfl, ?_⟩
    first | rw [hb] | skip
    (iterate 4 (refine Below.setCell ?_ (by simp) _))
    exact HBL.out
  · have h2 : 1073741824 - now < n := by omega
    clear hbad
    go_wp2_with fail
    refine bodyPost_ret (v := repV 2 ⟨#[]⟩ 0 (.slice none 0 0)) (by simp [results, Tryz.results81, go_sem, q0]) rfl ⟨rfl, ?_⟩
    first | rw [hb] | skip
    (iterate 4 (refine Below.setCell ?_ (by simp) _))
    exact HBL.out

theorem hideE {p : Prop} (h : p) : Hid p := h
theorem Deed.box {w wr : World} {now at' : Int} {c : Cmd} {found : Bool} {F : List Ent} {D b o : Nat} {es : Value} {cs : Array Value} (h : Deed w now c at' found F D es wr) (hb : wr.heap[b]? = some (.cells cs 32 (0, 0))) (hbw : w.heap.size ≤ b) (u : Value) : Deed w now c at' found F D es (wr.setCell ⟨b, o, none⟩ u) := by
  have hbD : b ≠ D := by
    rintro rfl
    have := hb.symm.trans h.deed
    simp at this
  refine ⟨h.bD, (Below.heap_setCell _ _ _ _ (fun e => hbD e.symm)).trans h.deed, own_set h.own (own_ne h.own hb (by decide)) _, fun e he => ?_, h.below.setCell hbw _⟩
  have hx := h.lists e he
  exact ⟨own_set hx.p (own_ne hx.p hb (by decide)) _, own_set hx.i (own_ne hx.i hb (by decide)) _, own_set hx.s (own_ne hx.s hb (by decide)) _⟩
theorem Deed.reply {w wr : World} {now at' : Int} {c : Cmd} {found : Bool} {F : List Ent} {D b : Nat} {es : Value} {cs : Array Value} (h : Deed w now c at' found F D es wr) (hb : wr.heap[b]? = some (.cells cs 32 (0, 0))) (hbw : w.heap.size ≤ b) (u0 u1 u2 u3 : Value) :
    Deed w now c at' found F D es ((((wr.setCell ⟨b, 0, none⟩ u0).setCell ⟨b, 1, none⟩ u1).setCell ⟨b, 2, none⟩ u2).setCell ⟨b, 3, none⟩ u3) := by
  have h1 := setCell_in u0 (o := 0) hb
  have h2 := setCell_in u1 (o := 1) h1
  have h3 := setCell_in u2 (o := 2) h2
  exact (((h.box hb hbw u0).box h1 hbw u1).box h2 hbw u2).box h3 hbw u3

set_option maxHeartbeats 4000000 in
theorem expire_good (w wr : World) (now : Int) (p : Nat) (c : Cmd) (F : List Ent) (D : Nat) (es : Value) (h : Deed w now c (p : Int) true F D es wr) (hp : p < F.length) (hn0 : 0 ≤ now) (hn1 : now ≤ 1073741824) (h1 : 1 ≤ c.n) (h2 : c.n ≤ 1073741824 - now) :
    Calls Tryz.prog 81 #[.pointer (some ⟨D, 0, none⟩)] wr fun e w' => e = .returned (repV 0 ⟨#[]⟩ 0 (.slice none 0 0)) ∧ Deed w now c (p : Int) true (F.set p (F[p].withTil (now + c.n))) D es w' ∧ Kept D es.ownBlock wr w' := by
  obtain ⟨g, cap, S, hs, hgw, hgD, hc1, hc2, hrow, hsz⟩ := h.entry p hp
  obtain ⟨y, hy⟩ : ∃ y : Ent, F[p] = y := ⟨_, rfl⟩
  have HY := hideE hy
  subst hs
  have hbl := balloc wr (.cells #[.int .i64 0, .string ⟨#[]⟩, .int .i64 0, .slice none 0 0] 32)
  have nx := alloc_at wr (.cells #[.int .i64 0, .string ⟨#[]⟩, .int .i64 0, .slice none 0 0] 32)
  have hd := h.mid hbl
  have nR := (hbl.block g (lt_at hrow)).trans hrow
  have hbw : w.heap.size ≤ wr.heap.size := h.below.size
  obtain ⟨k, key, fld, txt, n⟩ := c
  simp only at h1 h2
  have hpi : (p : Int) < (F.length : Int) := by omega
  have hpi0 : (0 : Int) ≤ (p : Int) := by omega
  clear h hrow
  go_enter Tryz.func81, Tryz.ntmps81
  go_upto_region 1 with fail
  generalize wr.alloc (.cells #[.int .i64 0, .string ⟨#[]⟩, .int .i64 0, .slice none 0 0] 32) = V at nx nR hbl hd ⊢
  generalize hb : wr.heap.size = b at nx hbl hbw ⊢
  have HBL := hideE (show Below wr.heap.size wr V by first | exact hbl | (rw [hb]; exact hbl))
  have HT := hideE (hd.till (t := now + n) p hp hgw hgD hc1 hc2 nR hsz)
  have HX : Hid (V.heap[b]? = some (.cells #[.int .i64 0, .string ⟨#[]⟩, .int .i64 0, .slice none 0 0] 32 (0, 0))) := nx
  obtain ⟨q0, f0⟩ := cellsB nx
  obtain ⟨q1, f1⟩ := cellsB hd.deed
  obtain ⟨-, -, -, -, -, -, -, r7, fz⟩ := row_eight nR hp hy
  have l0 := lt_at nx
  have l1 := lt_at hd.deed
  have lg := lt_at nR
  have hgb : ¬ g = b := by
    rintro rfl
    have := nR.symm.trans nx
    simp at this
  have hwn : IntKind.i64.wrap (now + n) = now + n := by rw [IntKind.wrap_i64]; omega
  have hn3 : ¬ n < 1 := by omega
  have hn4 : ¬ 1073741824 - now < n := by omega
  obtain ⟨s0, s1, s7⟩ : V.cell? ⟨D, 0, none⟩ = some (.int .i64 now) ∧ V.cell? ⟨D, 1, none⟩ = some (.slice (some ⟨g, 0, none⟩) F.length cap) ∧ V.cell? ⟨D, 7, none⟩ = some (.int .i64 (p : Int)) := ⟨q1 0, q1 1, q1 7⟩
  have hgD' : ¬ g = D := hgD
  clear nx nR hd hbl hsz
  go_upto_region 6 with fail
  go_region_held3 (fun w' => w'.cell? ⟨D, 0, none⟩ = some (.int .i64 now) ∧ w'.cell? ⟨D, 1, none⟩ = some (.slice (some ⟨g, 0, none⟩) F.length cap) ∧ w'.cell? ⟨D, 7, none⟩ = some (.int .i64 (p : Int))) (go_keep) (fail)
  all_goals
    go_wp2_with fail
    refine bodyPost_ret (v := repV 0 ⟨#[]⟩ 0 (.slice none 0 0)) (by simp [results, Tryz.results81, go_sem, q0]) rfl ⟨rfl, ?_⟩
    have hx := (Below.heap_setCell V ⟨g, p * 8 + 7, none⟩ (.int .i64 (now + n)) b (fun e => hgb e.symm)).trans HX.out
    rw [← HY.out]
    have hd3 := HT.out.reply (b := b) hx hbw (.int .i64 0) (.string ⟨#[]⟩) (.int .i64 0) (.slice none 0 0)
    have hk3 := ((Kept.of (D := D) (ob := some g) HBL.out).row (o := p * 8 + 7) (.int .i64 (now + n))).fresh4 (b := b) (by omega) (.int .i64 0) (.string ⟨#[]⟩) (.int .i64 0) (.slice none 0 0)
    first
      | exact ⟨hd3, hk3⟩
      | exact ⟨hd3.mid (Below.refl _ _).drew, hk3.below (Below.refl _ _).drew⟩
end Go.Proofs.YtfnephnecighaaaGreat
