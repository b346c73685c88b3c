/- The value of a key that is there is replaced: (*store.deed).replace. -/
import Derived.Test.YtfnephnecighaaaGreatFi
namespace Go.Proofs.YtfnephnecighaaaGreat
open Go.RowKit
set_option linter.unusedVariables false
set_option maxRecDepth 100000

theorem mem_set_cases {α : Type} {l : List α} {p : Nat} {x a : α} (h : a ∈ l.set p x) : a = x ∨ a ∈ l := (List.mem_or_eq_of_mem_set h).symm
theorem flat_valtil (e : Ent) (l : List Ent) (i : Nat) (S : List Value) (h : i < l.length) (hk : e.kv.key = l[i].kv.key) (t : Int) :
    ((((((((((l.flatMap encE) ++ S).set (i * 8 + 1) (.int .i64 e.kv.x.kind)).set (i * 8 + 2) (.string e.kv.x.text)).set (i * 8 + 3) (.int .i64 e.kv.x.count)).set (i * 8 + 4) e.ps).set (i * 8 + 5) e.is).set (i * 8 + 6) e.ss)).set (i * 8 + 7) (.int .i64 t)) = (l.set i (e.withTil t)).flatMap encE ++ S := by
  have h1 := flat_val ⟨⟨e.kv.key, e.kv.x, l[i].kv.til⟩, e.pa, e.pc, e.ia, e.ic, e.sa, e.sc⟩ l i S h hk rfl
  simp only at h1
  have h2 := flat_til t (l.set i ⟨⟨e.kv.key, e.kv.x, l[i].kv.til⟩, e.pa, e.pc, e.ia, e.ic, e.sa, e.sc⟩) i S (by simpa using h)
  rw [← h1] at h2
  refine h2.trans ?_
  simp [Ent.withTil]

/-- What is left behind the stores of a value, and of how long it is there. -/
theorem Deed.valued {w wr : World} {now at' : Int} {c : Cmd} {found : Bool} {F : List Ent} {D g cap B : Nat} {S : List Value} (h : Deed w now c at' found F D (.slice (some ⟨g, 0, none⟩) F.length cap) wr) (p : Nat) (hp : p < F.length) (hgD : g ≠ D) (hgw : w.heap.size ≤ g) (hc : F.length ≤ cap) (hm : cap ≤ maxLen)
    (hold : wr.heap[g]? = some (.cells (F.flatMap encE ++ S).toArray 57 (0, 0))) (hsz : (F.flatMap encE ++ S).length = cap * 8) (hgB : g < B) (hwB : w.heap.size ≤ B) (e : Ent) (hk : e.kv.key = F[p].kv.key) (hl : ListsF B wr e) :
    (e.kv.til = F[p].kv.til → Fin w now c (F.set p e) D B (.slice (some ⟨g, 0, none⟩) F.length cap) (sixC wr g (p * 8) (.int .i64 e.kv.x.kind) (.string e.kv.x.text) (.int .i64 e.kv.x.count) e.ps e.is e.ss) ∧ Kept D (some g) wr (sixC wr g (p * 8) (.int .i64 e.kv.x.kind) (.string e.kv.x.text) (.int .i64 e.kv.x.count) e.ps e.is e.ss)) ∧
    (∀ t, Fin w now c (F.set p (e.withTil t)) D B (.slice (some ⟨g, 0, none⟩) F.length cap) ((sixC wr g (p * 8) (.int .i64 e.kv.x.kind) (.string e.kv.x.text) (.int .i64 e.kv.x.count) e.ps e.is e.ss).setCell ⟨g, p * 8 + 7, none⟩ (.int .i64 t)) ∧ Kept D (some g) wr ((sixC wr g (p * 8) (.int .i64 e.kv.x.kind) (.string e.kv.x.text) (.int .i64 e.kv.x.count) e.ps e.is e.ss).setCell ⟨g, p * 8 + 7, none⟩ (.int .i64 t))) := by
  have hr := six_block hold (p * 8) (.int .i64 e.kv.x.kind) (.string e.kv.x.text) (.int .i64 e.kv.x.count) e.ps e.is e.ss
  have hnew : ∀ e' : Ent, e'.ps = e.ps → e'.is = e.is → e'.ss = e.ss → e'.kv.x = e.kv.x → ∀ a ∈ F.set p e', (∃ b ∈ F, a.ps = b.ps ∧ a.is = b.is ∧ a.ss = b.ss ∧ a.kv.x = b.kv.x) ∨ ListsF B wr a := by
    intro e' e1 e2 e3 e4 a ha
    rcases mem_set_cases ha with rfl | ha
    · exact .inr (by unfold ListsF; rw [e1, e2, e3, e4]; exact hl)
    · exact .inl ⟨a, ha, rfl, rfl, rfl, rfl⟩
  constructor
  · intro ht
    rw [flat_val e F p S hp hk ht] at hr
    exact h.rowed hgD hgw hc hm (by simp) hr hold hsz (fun b hb => six_other hb) six_size (by simp [sixC, World.setCell]) (by simp [sixC, World.setCell]) (by simp [sixC, World.setCell]) hgB hwB (hnew e rfl rfl rfl rfl)
  · intro t
    have hr2 := Go.heap_setCell_same _ g (p * 8 + 7) _ 57 (.int .i64 t) hr
    have hr3 : ((sixC wr g (p * 8) (.int .i64 e.kv.x.kind) (.string e.kv.x.text) (.int .i64 e.kv.x.count) e.ps e.is e.ss).setCell ⟨g, p * 8 + 7, none⟩ (.int .i64 t)).heap[g]? = some (.cells ((F.set p (e.withTil t)).flatMap encE ++ S).toArray 57 (0, 0)) := by
      rw [hr2, ← flat_valtil e F p S hp hk t]; simp
    exact h.rowed hgD hgw hc hm (by simp) hr3 hold hsz (fun b hb => (Below.heap_setCell _ _ _ _ hb).trans (six_other hb)) (by simp [sixC, World.setCell]) (by simp [sixC, World.setCell]) (by simp [sixC, World.setCell]) (by simp [sixC, World.setCell]) hgB hwB (hnew (e.withTil t) rfl rfl rfl rfl)

set_option maxHeartbeats 4000000 in
theorem replace_any (w wr : World) (now : Int) (p B : Nat) (c : Cmd) (F : List Ent) (D : Nat) (es : Value) (y : Val) (pa ia sa : Option Addr) (pc ic sc : Nat) (h : Deed w now c (p : Int) true F D es wr) (hp : p < F.length) (hB : ∀ b, es.ownBlock = some b → b < B) (hwB : w.heap.size ≤ B) (hBr : B ≤ wr.heap.size)
    (hl : ListsF B wr ⟨⟨F[p].kv.key, y, tilK c F[p].kv.til⟩, pa, pc, ia, ic, sa, sc⟩) :
    Calls Tryz.prog 145 #[.pointer (some ⟨D, 0, none⟩), valV y.kind y.text y.count (.slice pa y.pairs.length pc) (.slice ia y.items.length ic) (.slice sa y.scores.length sc)] wr fun e w' => e = .returned (.tuple #[]) ∧ Fin w now c (F.set p ⟨⟨F[p].kv.key, y, tilK c F[p].kv.til⟩, pa, pc, ia, ic, sa, sc⟩) D B es w' ∧ Kept D es.ownBlock wr w' := by
  obtain ⟨g, cap, S, hs', hgw, hgD, hc1, hc2, hrow, hsz⟩ := h.entry p hp
  subst hs'
  have hgB := hB g rfl
  have hbl := balloc wr (valO y.kind y.text y.count (.slice pa y.pairs.length pc) (.slice ia y.items.length ic) (.slice sa y.scores.length sc))
  have nx := alloc_at wr (valO y.kind y.text y.count (.slice pa y.pairs.length pc) (.slice ia y.items.length ic) (.slice sa y.scores.length sc))
  have hd := h.mid hbl
  have nR := (hbl.block g (lt_at hrow)).trans hrow
  have hV : ListsF B (wr.alloc (valO y.kind y.text y.count (.slice pa y.pairs.length pc) (.slice ia y.items.length ic) (.slice sa y.scores.length sc))) ⟨⟨F[p].kv.key, y, tilK c F[p].kv.til⟩, pa, pc, ia, ic, sa, sc⟩ := ⟨hl.1.below hbl, hl.2⟩
  have hv := hd.valued p hp hgD hgw hc1 hc2 nR hsz hgB hwB ⟨⟨F[p].kv.key, y, tilK c F[p].kv.til⟩, pa, pc, ia, ic, sa, sc⟩ rfl hV
  obtain ⟨hv1, hv2⟩ := hv
  have hpi : (p : Int) < (F.length : Int) := by omega
  have hpi0 : (0 : Int) ≤ (p : Int) := by omega
  have hgb : ¬ g = wr.heap.size := by have := lt_at hrow; omega
  have hT : tilK c F[p].kv.til = if c.k = 1 then 0 else F[p].kv.til := rfl
  have hwt : ∀ t, Ent.withTil ⟨⟨F[p].kv.key, y, tilK c F[p].kv.til⟩, pa, pc, ia, ic, sa, sc⟩ t = ⟨⟨F[p].kv.key, y, t⟩, pa, pc, ia, ic, sa, sc⟩ := fun t => rfl
  have hend : c.k = 1 → tilK c F[p].kv.til = 0 := fun h => by rw [hT, if_pos h]
  have hend2 : ¬ c.k = 1 → tilK c F[p].kv.til = F[p].kv.til := fun h => by rw [hT, if_neg h]
  clear hT hV hl h hrow
  obtain ⟨k, key, fld, txt, n⟩ := c
  simp only at hend hend2
  generalize tilK ⟨k, key, fld, txt, n⟩ F[p].kv.til = T at *
  obtain ⟨yk, yt, yc, yp, yi, ys⟩ := y
  simp only at *
  go_enter Tryz.func145, Tryz.ntmps145
  go_upto_region 1 with fail
  generalize wr.alloc (valO yk yt yc (.slice pa yp.length pc) (.slice ia yi.length ic) (.slice sa ys.length sc)) = V at nx nR hbl hd hv1 hv2 ⊢
  have hwr : wr.heap.size ≤ V.heap.size := hbl.size
  generalize hb : wr.heap.size = b at nx hgb ⊢
  obtain ⟨q0, f0⟩ := cellsB nx
  obtain ⟨q1, f1⟩ := cellsB hd.deed
  obtain ⟨-, fz⟩ := cellsB nR
  obtain ⟨r0, r1, r2, r3, r4, r5, r6, r7, -⟩ := row_eight nR hp rfl
  have l0 := lt_at nx
  have l1 := lt_at hd.deed
  have lg := lt_at nR
  obtain ⟨s1, s2, s7⟩ : V.cell? ⟨D, 1, none⟩ = some (.slice (some ⟨g, 0, none⟩) F.length cap) ∧ V.cell? ⟨D, 2, none⟩ = some (.int .i64 k) ∧ V.cell? ⟨D, 7, none⟩ = some (.int .i64 (p : Int)) := ⟨q1 1, q1 2, q1 7⟩
  obtain ⟨v0, v1, v2, v3, v4, v5⟩ : V.cell? ⟨b, 0, none⟩ = some (.int .i64 yk) ∧ V.cell? ⟨b, 1, none⟩ = some (.string yt) ∧ V.cell? ⟨b, 2, none⟩ = some (.int .i64 yc) ∧ V.cell? ⟨b, 3, none⟩ = some (.slice pa yp.length pc) ∧ V.cell? ⟨b, 4, none⟩ = some (.slice ia yi.length ic) ∧ V.cell? ⟨b, 5, none⟩ = some (.slice sa ys.length sc) := ⟨q0 0, q0 1, q0 2, q0 3, q0 4, q0 5⟩
  have hgD' : ¬ g = D := hgD
  have HBL := hideE hbl
  have HV1 := hideE hv1
  have HV2 := hideE hv2
  have HE := hideE hend
  have HE2 := hideE hend2
  clear nx nR hd hbl hsz hv1 hv2 hend hend2 hwt q0 q1
  by_cases hk : k = 1
  · have HK := hideE hk
    have hk' : (k == 1) = true := by simpa using hk
    clear hk
    go_region_held3 (fun w' => w'.cell? ⟨D, 1, none⟩ = some (.slice (some ⟨g, 0, none⟩) F.length cap) ∧ w'.cell? ⟨D, 7, none⟩ = some (.int .i64 (p : Int)) ∧ w'.cell? ⟨b, 0, none⟩ = some (.int .i64 yk) ∧ w'.cell? ⟨b, 1, none⟩ = some (.string yt) ∧ w'.cell? ⟨b, 2, none⟩ = some (.int .i64 yc) ∧ w'.cell? ⟨b, 3, none⟩ = some (.slice pa yp.length pc) ∧ w'.cell? ⟨b, 4, none⟩ = some (.slice ia yi.length ic) ∧ w'.cell? ⟨b, 5, none⟩ = some (.slice sa ys.length sc)) (go_keep) (fail)
    go_upto_region 3 with fail
    go_region_held3 (fun w' => w'.cell? ⟨D, 1, none⟩ = some (.slice (some ⟨g, 0, none⟩) F.length cap) ∧ w'.cell? ⟨D, 7, none⟩ = some (.int .i64 (p : Int))) (go_keep) (fail)
    go_wp2_with fail
    refine bodyPost_end (v := .tuple #[]) (by simp [results, Tryz.results145, go_sem]) rfl ⟨rfl, ?_⟩
    have h1 := ((HV2.out 0).1.mid (Below.refl _ _).drew).mid (Below.refl _ _).drew
    have h2 := (((HV2.out 0).2.below (Below.refl _ _).drew).below (Below.refl _ _).drew).pre HBL.out
    simp only [sixC] at h1 h2
    simp only [Nat.add_assoc, Nat.reduceAdd]
    rw [HE.out HK.out]
    exact ⟨h1, h2⟩
  · have HK := hideE hk
    have hk' : (k == 1) = false := by simpa using hk
    clear hk
    go_region_held3 (fun w' => w'.cell? ⟨D, 1, none⟩ = some (.slice (some ⟨g, 0, none⟩) F.length cap) ∧ w'.cell? ⟨D, 7, none⟩ = some (.int .i64 (p : Int)) ∧ w'.cell? ⟨b, 0, none⟩ = some (.int .i64 yk) ∧ w'.cell? ⟨b, 1, none⟩ = some (.string yt) ∧ w'.cell? ⟨b, 2, none⟩ = some (.int .i64 yc) ∧ w'.cell? ⟨b, 3, none⟩ = some (.slice pa yp.length pc) ∧ w'.cell? ⟨b, 4, none⟩ = some (.slice ia yi.length ic) ∧ w'.cell? ⟨b, 5, none⟩ = some (.slice sa ys.length sc)) (go_keep) (fail)
    go_wp2_with fail
    refine bodyPost_end (v := .tuple #[]) (by simp [results, Tryz.results145, go_sem]) rfl ⟨rfl, ?_⟩
    have h1 := (HV1.out (HE2.out HK.out)).1.mid (Below.refl _ _).drew
    have h2 := ((HV1.out (HE2.out HK.out)).2.below (Below.refl _ _).drew).pre HBL.out
    simp only [sixC] at h1 h2
    simp only [Nat.add_assoc, Nat.reduceAdd]
    exact ⟨h1, h2⟩
end Go.Proofs.YtfnephnecighaaaGreat
