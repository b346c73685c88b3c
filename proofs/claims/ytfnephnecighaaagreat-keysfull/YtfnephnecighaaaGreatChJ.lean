/- A key's value is changed, as the command asks: (*store.deed).change. -/
import Derived.Test.YtfnephnecighaaaGreatLnJ
import Derived.Test.YtfnephnecighaaaGreatPmJ
import Derived.Test.YtfnephnecighaaaGreatGnJ
namespace Go.Proofs.YtfnephnecighaaaGreat
open Go.RowKit
set_option linter.unusedVariables false
set_option maxRecDepth 100000

abbrev zeroR : Obj := .cells #[.int .i64 0, .string ⟨#[]⟩, .int .i64 0, .slice none 0 0] 32
theorem RowAt.keptD {w W : World} {D B : Nat} {ob : Option Nat} {ls : Value} {l : List ByteArray} (h : RowAt 1 encI w ls l) (hf : From B ls) (hD : D < B) (hob : ∀ b, ob = some b → b < B) (hK : Kept D ob w W) : RowAt 1 encI W ls l :=
  h.sameS hf (fun b hb hl => hK.block b hl (by omega) (fun e => by have := hob b e.symm; omega)) hK.size
/-- What a change comes to, said of the entries in memory. -/
def Changed (w wr : World) (ob : Option Nat) (now : Int) (c : Cmd) (A : List Kv × Rep) (D B : Nat) (e : Ending) (w' : World) : Prop :=
  ∃ rv, e = .returned rv ∧ RepRF B w' rv A.2 ∧ Kept D ob wr w' ∧ ∃ F' es', Fin w now c F' D B es' w' ∧ F'.map (·.kv) = A.1

theorem ch_fin {w wr w2 : World} {ob : Option Nat} {now : Int} {c : Cmd} {A : List Kv × Rep} {L2 : List Kv} {F2 : List Ent} {D b0 B : Nat} {es2 ls : Value} {r : Rep} (hf : Fin w now c F2 D B es2 w2) (h0 : w2.heap[b0]? = some zeroR) (hb : w.heap.size ≤ b0) (hbB : b0 < B) (hK : Kept D ob wr w2) (hwr : wr.heap.size ≤ b0) (hl : RowAt 1 encI w2 ls r.list) (hfr : From B ls) (hc : A = (L2, r)) (hF : F2.map (·.kv) = L2) :
    Changed w wr ob now c A D B (.returned (repV r.code r.text r.n ls)) (storedR w2 b0 r.code r.text r.n ls) := by
  subst hc
  exact ⟨_, rfl, ⟨ls, rfl, (((hl.setCell hfr (p := ⟨b0, 0, none⟩) hbB _).setCell hfr (p := ⟨b0, 1, none⟩) hbB _).setCell hfr (p := ⟨b0, 2, none⟩) hbB _).setCell hfr (p := ⟨b0, 3, none⟩) hbB _, hfr⟩, hK.fresh4 hwr _ _ _ _, F2, es2, hf.reply h0 hb hbB _ _ _ _, hF⟩
theorem meetR {w w3 Z : World} {now at' : Int} {c : Cmd} {hit : Bool} {F : List Ent} {D b0 g Bq : Nat} {es : Value} {y : Val} {r : Rep} {cs : Array Value} (la : Option Addr) (lc : Nat) (pa : Option Addr) (pc : Nat) (ia : Option Addr) (ic : Nat) (sa : Option Addr) (sc : Nat)
    (hL : Left w3 Z (b0 + 1) g (valO y.kind y.text y.count (.slice pa y.pairs.length pc) (.slice ia y.items.length ic) (.slice sa y.scores.length sc)) (repO r.code r.text r.n (.slice la r.list.length lc))) (hg1 : w3.heap[b0 + 1]? = some (.cells cs 26 (0, 0))) (hg' : w3.heap.size ≤ g ∨ ∃ cs', w3.heap[g]? = some (.cells cs' 32 (0, 0))) (n0 : w3.heap[b0]? = some zeroR)
    (hl : Lists w3 (.slice pa y.pairs.length pc) (.slice ia y.items.length ic) (.slice sa y.scores.length sc) y) (f1 : From Bq (.slice pa y.pairs.length pc)) (f2 : From Bq (.slice ia y.items.length ic)) (f3 : From Bq (.slice sa y.scores.length sc)) (hr : RowAt 1 encI w3 (.slice la r.list.length lc) r.list) (fr : From Bq (.slice la r.list.length lc))
    (hd : Deed w now c at' hit F D es w3) (hq : b0 + 2 ≤ Bq) (hq2 : g < Bq ∨ w3.heap.size ≤ g) (hg2 : b0 + 2 ≤ g) (hw : w.heap.size ≤ b0) (hs3 : b0 + 2 ≤ w3.heap.size) {wr : World} (hbr : Below b0 wr w3) :
    ∃ g2 la lc pa pc ia ic sa sc, Value.pointer (some ⟨g, 0, none⟩) = .pointer (some ⟨g2, 0, none⟩) ∧ Z.heap[b0]? = some zeroR ∧ Z.heap[b0 + 1]? = some (valO y.kind y.text y.count (.slice pa y.pairs.length pc) (.slice ia y.items.length ic) (.slice sa y.scores.length sc)) ∧
      Z.heap[g2]? = some (repO r.code r.text r.n (.slice la r.list.length lc)) ∧ Lists Z (.slice pa y.pairs.length pc) (.slice ia y.items.length ic) (.slice sa y.scores.length sc) y ∧ From (b0 + 2) (.slice pa y.pairs.length pc) ∧ From (b0 + 2) (.slice ia y.items.length ic) ∧ From (b0 + 2) (.slice sa y.scores.length sc) ∧
      RowAt 1 encI Z (.slice la r.list.length lc) r.list ∧ From (b0 + 2) (.slice la r.list.length lc) ∧ b0 + 2 ≤ g2 ∧ b0 + 2 ≤ Z.heap.size ∧ Deed w now c at' hit F D es Z ∧ Below b0 wr Z := by
  have hsm : ∀ b, Bq ≤ b → b < w3.heap.size → Z.heap[b]? = w3.heap[b]? := fun b hb hlt => hL.kept b hlt (by omega) (by omega)
  have l0 := lt_at n0
  exact ⟨g, la, lc, pa, pc, ia, ic, sa, sc, rfl, (hL.kept b0 l0 (by omega) (by omega)).trans n0, hL.at1, hL.at2, ⟨hl.p.sameS f1 hsm hL.size, hl.i.sameS f2 hsm hL.size, hl.s.sameS f3 hsm hL.size⟩, f1.mono hq, f2.mono hq, f3.mono hq, hr.sameS fr hsm hL.size, fr.mono hq, hg2, Nat.le_trans hs3 hL.size, hd.boxes hL hg1 hg' (by omega) (by omega), hL.below _ _ hbr (by omega) (by omega) (by omega)⟩
theorem meetV {w Z : World} {now at' : Int} {c : Cmd} {hit : Bool} {F : List Ent} {D b0 : Nat} {es : Value} {x : Val} (pa : Option Addr) (pc : Nat) (ia : Option Addr) (ic : Nat) (sa : Option Addr) (sc : Nat) (e1 : Z.heap[b0]? = some zeroR) (e2 : Z.heap[b0 + 1]? = some (valO x.kind x.text x.count (.slice pa x.pairs.length pc) (.slice ia x.items.length ic) (.slice sa x.scores.length sc)))
    (e3 : Lists Z (.slice pa x.pairs.length pc) (.slice ia x.items.length ic) (.slice sa x.scores.length sc) x) (e4 : Z.heap.size = b0 + 2) (e5 : Deed w now c at' hit F D es Z) {wr : World} (e6 : Below b0 wr Z) :
    ∃ pa pc ia ic sa sc, Z.drew.heap[b0]? = some zeroR ∧ Z.drew.heap[b0 + 1]? = some (valO x.kind x.text x.count (.slice pa x.pairs.length pc) (.slice ia x.items.length ic) (.slice sa x.scores.length sc)) ∧ Lists Z.drew (.slice pa x.pairs.length pc) (.slice ia x.items.length ic) (.slice sa x.scores.length sc) x ∧ Z.drew.heap.size = b0 + 2 ∧ Deed w now c at' hit F D es Z.drew ∧ Below b0 wr Z.drew :=
  ⟨pa, pc, ia, ic, sa, sc, e1, e2, e3.below (Below.refl _ _).drew, e4, e5.mid (Below.refl _ _).drew, e6.drew⟩

set_option maxHeartbeats 16000000 in
theorem change_any (w wr : World) (now : Int) (p : Nat) (c : Cmd) (hit : Bool) (F : List Ent) (D : Nat) (es : Value) (h : Deed w now c (p : Int) hit F D es wr) (hpt : Parts (fun e : Ent => cmpS e.kv.key c.key) F p) (hh : hitB (fun e : Ent => cmpS e.kv.key c.key) F p = hit)
    (hok : OkKs now (F.map (·.kv))) (hc : c.fault = 0) (hs : ofStoreB c.k = false) :
    Calls Tryz.prog 83 #[.pointer (some ⟨D, 0, none⟩)] wr fun e w' => Changed w wr es.ownBlock now c (changeK c (F.map (·.kv))) D (wr.heap.size + 2) e w' := by
  obtain ⟨k1, k2, k3, k4⟩ := found_kv hok.rise hpt
  rw [hh] at k2 k3 k4
  have hwell := get_well hok c.key
  have href := hwell.ref hc hs
  have hxsz : (getK c.key (F.map (·.kv))).x.size ≤ 20 := by
    rcases hwell with h | h
    · rw [h]; simp [emptyVal, Val.size]
    · exact h.size
  have hn12 : F.length ≤ 12 := by have := hok.len; simpa using this
  have hp0 := hpt.1
  have hDO := do_any (getK c.key (F.map (·.kv))).x c
  rw [href] at hDO
  have hCH : Hid (changeK c (F.map (·.kv)) = changeK c (F.map (·.kv))) := rfl
  have hlf := lay_found hok hc hs
  obtain ⟨L, hL⟩ : ∃ L, F.map (·.kv) = L := ⟨_, rfl⟩
  rw [hL] at k1 k2 k3 hxsz hDO hlf hwell ⊢
  have hnone : hit = false → (getK c.key L).x = emptyVal 0 := fun e => by rw [get_none (by rw [k2, e])]; rfl
  obtain ⟨x, hx⟩ : ∃ x, (getK c.key L).x = x := ⟨_, rfl⟩
  rw [hx] at hnone hxsz hDO hlf
  have hsome : ∀ hp : p < F.length, hit = true → F[p].kv.x = x := fun hp e => by rw [← hx, (k3 hp e).1]
  have HX : Hid ((getK c.key L).x = x) := hx
  have HK1 : Hid (atK c.key L = p ∧ hasK c.key L = hit) := ⟨k1, k2⟩
  have HK3 := hideE k3
  have HK4 := hideE k4
  have HL : Hid (F.map (·.kv) = L) := hL
  obtain ⟨y, hy⟩ : ∃ y, doV x c = y := ⟨_, rfl⟩
  obtain ⟨r, hr⟩ : ∃ r, doR x c = r := ⟨_, rfl⟩
  have HY : Hid (doV x c = y ∧ doR x c = r) := ⟨hy, hr⟩
  rw [hy, hr] at hDO hlf
  have HLF := hideE hlf
  have hDD : w.heap.size ≤ wr.heap.size := h.below.size
  have hDb := lt_at h.deed
  have hrowb : ∀ b, es.ownBlock = some b → b < wr.heap.size := fun b hb => (World.ownsRow.lt h.own b hb).2
  have hbl := (balloc wr zeroR).alloc (by simp) (valO 0 ⟨#[]⟩ 0 (.slice none 0 0) (.slice none 0 0) (.slice none 0 0))
  obtain ⟨n0, n1⟩ := two_new wr zeroR (valO 0 ⟨#[]⟩ 0 (.slice none 0 0) (.slice none 0 0) (.slice none 0 0))
  have hd := h.mid hbl
  have hsz : ((wr.alloc zeroR).alloc (valO 0 ⟨#[]⟩ 0 (.slice none 0 0) (.slice none 0 0) (.slice none 0 0))).heap.size = wr.heap.size + 2 := by simp
  have HPT := hideE hpt
  have HC := hideE hc
  have HS := hideE hs
  clear k1 k2 k3 k4 hwell href hlf hy hr hx hL h hpt hh hok hCH hc hs
  obtain ⟨k, key, fld, txt, n⟩ := c
  go_enter Tryz.func83, Tryz.ntmps83
  go_upto_region 2 with fail
  generalize (wr.alloc zeroR).alloc (valO 0 ⟨#[]⟩ 0 (.slice none 0 0) (.slice none 0 0) (.slice none 0 0)) = V at n0 n1 hd hbl hsz ⊢
  generalize hb0 : wr.heap.size = b0 at *
  obtain ⟨q1, f1⟩ := cellsB hd.deed
  have l1 := lt_at hd.deed
  have l0 : b0 < V.heap.size := by omega
  go_upto_if 10 with fail
  go_cut [] (fun wx => ∃ pa pc ia ic sa sc, wx.heap[b0]? = some zeroR ∧ wx.heap[b0 + 1]? = some (valO x.kind x.text x.count (.slice pa x.pairs.length pc) (.slice ia x.items.length ic) (.slice sa x.scores.length sc)) ∧ Lists wx (.slice pa x.pairs.length pc) (.slice ia x.items.length ic) (.slice sa x.scores.length sc) x ∧ wx.heap.size = b0 + 2 ∧ Deed w now ⟨k, key, fld, txt, n⟩ (p : Int) hit F D es wx ∧ Below b0 wr wx)
  case first =>
    cases hit
    · have he := hnone rfl
      subst he
      have HD := hideE hd
      have HN : Hid (V.heap[b0]? = some zeroR ∧ V.heap[b0 + 1]? = some (valO 0 ⟨#[]⟩ 0 (.slice none 0 0) (.slice none 0 0) (.slice none 0 0)) ∧ V.heap.size = b0 + 2) := ⟨n0, n1, hsz⟩
      have HBL := hideE hbl
      clear n0 n1 hd hsome hnone hDO hbl
      go_wp2_with fail
      go_meet
      case rel => exact ⟨none, 0, none, 0, none, 0, HN.out.1, HN.out.2.1, Lists.empty _ 0, HN.out.2.2, HD.out, HBL.out⟩
    · have hpl := HK4.out rfl
      have hxe := hsome hpl rfl
      obtain ⟨g, cap, S, hs', hgw, hgD, hc1, hc2, hrow, hszr⟩ := hd.entry p hpl
      subst hs'
      obtain ⟨e, he⟩ : ∃ e : Ent, F[p] = e := ⟨_, rfl⟩
      rw [he] at hxe
      have hlist := (hd.lists F[p] (List.getElem_mem hpl))
      rw [he] at hlist
      obtain ⟨r0, r1, r2, r3, r4, r5, r6, r7, fz⟩ := row_eight hrow hpl he
      obtain ⟨⟨ekey, ex, til⟩, pa, pc, ia, ic, sa, sc⟩ := e
      simp only at hxe
      subst hxe
      simp only [Ent.ps, Ent.is, Ent.ss] at r0 r1 r2 r3 r4 r5 r6 r7 hlist
      have hls : Lists V (.slice pa ex.pairs.length pc) (.slice ia ex.items.length ic) (.slice sa ex.scores.length sc) ex := by
        have := hxsz
        unfold Val.size at this
        exact hlist.lists (by omega) (by omega) (by omega)
      have hpi : (p : Int) < (F.length : Int) := by omega
      have hpi0 : (0 : Int) ≤ (p : Int) := by omega
      have hgb : ¬ g = b0 := by have := lt_at hrow; rintro rfl; have := hrow.symm.trans n0; simp at this
      have hgb1 : ¬ g = b0 + 1 := by rintro rfl; have := hrow.symm.trans n1; simp at this
      have hDb1 : ¬ D = b0 + 1 := by omega
      obtain ⟨s1, s7⟩ : V.cell? ⟨D, 1, none⟩ = some (.slice (some ⟨g, 0, none⟩) F.length cap) ∧ V.cell? ⟨D, 7, none⟩ = some (.int .i64 (p : Int)) := ⟨q1 1, q1 7⟩
      obtain ⟨q2, f2⟩ := cellsB n1
      have l2 := lt_at n1
      have hL0 : ∀ o, Deed w now ⟨k, key, fld, txt, n⟩ (p : Int) true F D (.slice (some ⟨g, 0, none⟩) F.length cap) (storedV V (b0 + 1) ex.kind ex.text ex.count (.slice pa ex.pairs.length pc) (.slice ia ex.items.length ic) (.slice sa ex.scores.length sc)) ∧ Lists (storedV V (b0 + 1) ex.kind ex.text ex.count (.slice pa ex.pairs.length pc) (.slice ia ex.items.length ic) (.slice sa ex.scores.length sc)) (.slice pa ex.pairs.length pc) (.slice ia ex.items.length ic) (.slice sa ex.scores.length sc) ex := fun (o : Unit) => by
        have hk : ∀ b, b ≠ b0 + 1 → (storedV V (b0 + 1) ex.kind ex.text ex.count (.slice pa ex.pairs.length pc) (.slice ia ex.items.length ic) (.slice sa ex.scores.length sc)).heap[b]? = V.heap[b]? := fun b hb => keepV hb
        have hsame : ∀ {t : TypeId} {kk n : Nat} {v : Value} {xs : List Value}, V.ownsRow w.heap.size t kk v n xs → t ≠ 26 → (storedV V (b0 + 1) ex.kind ex.text ex.count (.slice pa ex.pairs.length pc) (.slice ia ex.items.length ic) (.slice sa ex.scores.length sc)).ownsRow w.heap.size t kk v n xs := fun hr h1 => own_same hr fun b hb => hk b (fun e => own_ne hr n1 (fun e => h1 e.symm) (by rw [← e]; exact hb))
        have hl' : ∀ a : Ent, OwnVL w.heap.size V a.ps a.is a.ss a.kv.x → OwnVL w.heap.size (storedV V (b0 + 1) ex.kind ex.text ex.count (.slice pa ex.pairs.length pc) (.slice ia ex.items.length ic) (.slice sa ex.scores.length sc)) a.ps a.is a.ss a.kv.x := fun a ha => ⟨hsame ha.p (by decide), hsame ha.i (by decide), hsame ha.s (by decide)⟩
        refine ⟨⟨hd.bD, (hk D hDb1).trans hd.deed, hsame hd.own (by decide), fun a ha => hl' a (hd.lists a ha), storedV_below hd.below (by omega)⟩, ?_⟩
        have h1 := hl' ⟨⟨ekey, ex, til⟩, pa, pc, ia, ic, sa, sc⟩ hlist
        have := hxsz
        unfold Val.size at this
        have z1 : ex.pairs.length ≤ 140737488355328 := by omega
        have z2 : ex.items.length ≤ 140737488355328 := by omega
        have z3 : ex.scores.length ≤ 140737488355328 := by omega
        exact h1.lists z1 z2 z3
      have HE := hideE (hL0 ())
      have HN : Hid (V.heap[b0]? = some zeroR ∧ V.heap[b0 + 1]? = some (valO 0 ⟨#[]⟩ 0 (.slice none 0 0) (.slice none 0 0) (.slice none 0 0)) ∧ V.heap.size = b0 + 2) := ⟨n0, n1, hsz⟩
      have HBL := hideE hbl
      clear hL0 hls hlist hrow hszr n0 n1 hd hsome hnone hDO q1 he hbl
      go_upto_region 3 with fail
      refine region_but 12 13 (fun w' => w'.cell? ⟨D, 1, none⟩ = some (.slice (some ⟨g, 0, none⟩) F.length cap) ∧ w'.cell? ⟨D, 7, none⟩ = some (.int .i64 (p : Int)) ∧ w'.cell? ⟨g, p * 8 + 1, none⟩ = some (.int .i64 ex.kind) ∧ w'.cell? ⟨g, p * 8 + 2, none⟩ = some (.string ex.text) ∧ w'.cell? ⟨g, p * 8 + 3, none⟩ = some (.int .i64 ex.count) ∧ w'.cell? ⟨g, p * 8 + 4, none⟩ = some (.slice pa ex.pairs.length pc) ∧ w'.cell? ⟨g, p * 8 + 5, none⟩ = some (.slice ia ex.items.length ic) ∧ w'.cell? ⟨g, p * 8 + 6, none⟩ = some (.slice sa ex.scores.length sc)) (by kernel_rfl) (by kernel_rfl) (by (try dsimp only); go_keep) (fun hHeld => ?_)
      refine but_take (i := 0) (v := ?_) rfl (by kernel_rfl) (by kernel_rfl) (by kernel_rfl) (by kernel_rfl) (by decide) (fun _ _ _ h => h) (Or.inl ⟨by rfl, ?_⟩) (by assumption) ?_
      rotate_left
      · (intro w hSw; (try dsimp only at hSw); go_simp <;> with_reducible rfl)
      try simp only [Act.put, List.setIfInBounds_toArray, List.set_cons_zero, List.set_cons_succ]
      refine but_take (i := 1) (v := ?_) rfl (by kernel_rfl) (by kernel_rfl) (by kernel_rfl) (by kernel_rfl) (by decide) (fun _ _ _ h => h) (Or.inl ⟨by rfl, ?_⟩) (by assumption) ?_
      rotate_left
      · (intro w hSw; (try dsimp only at hSw); go_simp <;> with_reducible rfl)
      try simp only [Act.put, List.setIfInBounds_toArray, List.set_cons_zero, List.set_cons_succ]
      refine but_take (i := 2) (v := ?_) rfl (by kernel_rfl) (by kernel_rfl) (by kernel_rfl) (by kernel_rfl) (by decide) (fun _ _ _ h => h) (Or.inl ⟨by rfl, ?_⟩) (by assumption) ?_
      rotate_left
      · (intro w hSw; (try dsimp only at hSw); go_simp <;> with_reducible rfl)
      try simp only [Act.put, List.setIfInBounds_toArray, List.set_cons_zero, List.set_cons_succ]
      refine but_take (i := 3) (v := ?_) rfl (by kernel_rfl) (by kernel_rfl) (by kernel_rfl) (by kernel_rfl) (by decide) (fun _ _ _ h => h) (Or.inl ⟨by rfl, ?_⟩) (by assumption) ?_
      rotate_left
      · (intro w hSw; (try dsimp only at hSw); go_simp <;> with_reducible rfl)
      try simp only [Act.put, List.setIfInBounds_toArray, List.set_cons_zero, List.set_cons_succ]
      refine but_take (i := 4) (v := ?_) rfl (by kernel_rfl) (by kernel_rfl) (by kernel_rfl) (by kernel_rfl) (by decide) (fun _ _ _ h => h) (Or.inl ⟨by rfl, ?_⟩) (by assumption) ?_
      rotate_left
      · (intro w hSw; (try dsimp only at hSw); go_simp <;> with_reducible rfl)
      try simp only [Act.put, List.setIfInBounds_toArray, List.set_cons_zero, List.set_cons_succ]
      refine but_take (i := 5) (v := ?_) rfl (by kernel_rfl) (by kernel_rfl) (by kernel_rfl) (by kernel_rfl) (by decide) (fun _ _ _ h => h) (Or.inl ⟨by rfl, ?_⟩) (by assumption) ?_
      rotate_left
      · (intro w hSw; (try dsimp only at hSw); go_simp <;> with_reducible rfl)
      try simp only [Act.put, List.setIfInBounds_toArray, List.set_cons_zero, List.set_cons_succ]
      refine but_take (i := 6) (v := ?_) rfl (by kernel_rfl) (by kernel_rfl) (by kernel_rfl) (by kernel_rfl) (by decide) (fun _ _ _ h => h) (Or.inl ⟨by rfl, ?_⟩) (by assumption) ?_
      rotate_left
      · (intro w hSw; (try dsimp only at hSw); go_simp <;> with_reducible rfl)
      try simp only [Act.put, List.setIfInBounds_toArray, List.set_cons_zero, List.set_cons_succ]
      refine but_take (i := 7) (v := ?_) rfl (by kernel_rfl) (by kernel_rfl) (by kernel_rfl) (by kernel_rfl) (by decide) (fun _ _ _ h => h) (Or.inl ⟨by rfl, ?_⟩) (by assumption) ?_
      rotate_left
      · (intro w hSw; (try dsimp only at hSw); go_simp <;> with_reducible rfl)
      try simp only [Act.put, List.setIfInBounds_toArray, List.set_cons_zero, List.set_cons_succ]
      refine but_take (i := 8) (v := ?_) rfl (by kernel_rfl) (by kernel_rfl) (by kernel_rfl) (by kernel_rfl) (by decide) (fun _ _ _ h => h) (Or.inl ⟨by rfl, ?_⟩) (by assumption) ?_
      rotate_left
      · (intro w hSw; (try dsimp only at hSw); go_simp <;> with_reducible rfl)
      try simp only [Act.put, List.setIfInBounds_toArray, List.set_cons_zero, List.set_cons_succ]
      refine but_take (i := 9) (v := ?_) rfl (by kernel_rfl) (by kernel_rfl) (by kernel_rfl) (by kernel_rfl) (by decide) (fun _ _ _ h => h) (Or.inl ⟨by rfl, ?_⟩) (by assumption) ?_
      rotate_left
      · (intro w hSw; (try dsimp only at hSw); go_simp <;> with_reducible rfl)
      try simp only [Act.put, List.setIfInBounds_toArray, List.set_cons_zero, List.set_cons_succ]
      refine but_take (i := 10) (v := ?_) rfl (by kernel_rfl) (by kernel_rfl) (by kernel_rfl) (by kernel_rfl) (by decide) (fun _ _ _ h => h) (Or.inl ⟨by rfl, ?_⟩) (by assumption) ?_
      rotate_left
      · (intro w hSw; (try dsimp only at hSw); go_simp <;> with_reducible rfl)
      try simp only [Act.put, List.setIfInBounds_toArray, List.set_cons_zero, List.set_cons_succ]
      refine but_take (i := 11) (v := ?_) rfl (by kernel_rfl) (by kernel_rfl) (by kernel_rfl) (by kernel_rfl) (by decide) (fun _ _ _ h => h) (Or.inl ⟨by rfl, ?_⟩) (by assumption) ?_
      rotate_left
      · (intro w hSw; (try dsimp only at hSw); go_simp <;> with_reducible rfl)
      try simp only [Act.put, List.setIfInBounds_toArray, List.set_cons_zero, List.set_cons_succ]
      refine but_step (i := 12) (by kernel_rfl) rfl (fun K hK => ?_)
      (go_simp)
      refine hK.out.2 ⟨12, by decide, by kernel_rfl⟩ _ _ ?_
      clear hK K
      try simp only [Act.put, List.setIfInBounds_toArray, List.set_cons_zero, List.set_cons_succ]
      refine but_done (by kernel_rfl) ?_
      clear hHeld
      go_wp2_with fail
      go_meet
      case rel =>
        exact meetV pa pc ia ic sa sc ((keepV (by omega)).trans HN.out.1) (storedV_block HN.out.2.1) HE.out.2 ((sizeV _ _ _ _ _ _ _ _).trans HN.out.2.2) HE.out.1 (storedV_below HBL.out (by omega))
  case rest =>
    obtain ⟨pa, pc, ia, ic, sa, sc, n0, n1, hls, hsz, hd, hbr⟩ := hcut
    obtain ⟨q0, g0⟩ := cellsB n1
    obtain ⟨q1, g1⟩ := cellsB hd.deed
    obtain ⟨v0, v1, v2, v3, v4, v5⟩ : wc.cell? ⟨b0 + 1, 0, none⟩ = some (.int .i64 x.kind) ∧ wc.cell? ⟨b0 + 1, 1, none⟩ = some (.string x.text) ∧ wc.cell? ⟨b0 + 1, 2, none⟩ = some (.int .i64 x.count) ∧ wc.cell? ⟨b0 + 1, 3, none⟩ = some (.slice pa x.pairs.length pc) ∧ wc.cell? ⟨b0 + 1, 4, none⟩ = some (.slice ia x.items.length ic) ∧ wc.cell? ⟨b0 + 1, 5, none⟩ = some (.slice sa x.scores.length sc) := ⟨q0 0, q0 1, q0 2, q0 3, q0 4, q0 5⟩
    obtain ⟨t2, t3, t4, t5, t6⟩ : wc.cell? ⟨D, 2, none⟩ = some (.int .i64 k) ∧ wc.cell? ⟨D, 3, none⟩ = some (.string key) ∧ wc.cell? ⟨D, 4, none⟩ = some (.string fld) ∧ wc.cell? ⟨D, 5, none⟩ = some (.string txt) ∧ wc.cell? ⟨D, 6, none⟩ = some (.int .i64 n) := ⟨q1 2, q1 3, q1 4, q1 5, q1 6⟩
    have m1 := lt_at n1
    have mD := lt_at hd.deed
    have hDO' : ∀ W, Below wc.heap.size wc W → Calls Tryz.prog 12 #[valV x.kind x.text x.count (.slice pa x.pairs.length pc) (.slice ia x.items.length ic) (.slice sa x.scores.length sc), cmdV k key fld txt n] W fun e w' => ∃ qa qc ja jc ta tc la lc, e = .returned (.tuple #[valV y.kind y.text y.count (.slice qa y.pairs.length qc) (.slice ja y.items.length jc) (.slice ta y.scores.length tc), repV r.code r.text r.n (.slice la r.list.length lc), .int .i64 0]) ∧
        (Lists w' (.slice qa y.pairs.length qc) (.slice ja y.items.length jc) (.slice ta y.scores.length tc) y ∧ From W.heap.size (.slice qa y.pairs.length qc) ∧ From W.heap.size (.slice ja y.items.length jc) ∧ From W.heap.size (.slice ta y.scores.length tc) ∧ RowAt 1 encI w' (.slice la r.list.length lc) r.list ∧ From W.heap.size (.slice la r.list.length lc)) ∧ Below W.heap.size W w' := fun W hW => by
      refine (hDO W _ ⟨_, _, _, rfl, hls.below hW⟩).mono ?_
      rintro e w' ⟨v', u, rfl, ⟨qs, js, ts, rfl, hl', f1, f2, f3⟩, ⟨ls, rfl, hr', f4⟩, hb⟩
      obtain ⟨qa, qc, ja, jc, ta, tc, rfl, rfl, rfl, -⟩ := hl'.lens
      obtain ⟨la, lc, rfl⟩ : ∃ la lc, ls = .slice la r.list.length lc := by obtain ⟨-, a, c, h, -⟩ := hr'; exact ⟨a, c, h⟩
      exact ⟨qa, qc, ja, jc, ta, tc, la, lc, rfl, ⟨hl', f1, f2, f3, hr', f4⟩, hb⟩
    have HDO := hideE hDO'
    have HN : Hid (wc.heap[b0]? = some zeroR ∧ wc.heap[b0 + 1]? = some (valO x.kind x.text x.count (.slice pa x.pairs.length pc) (.slice ia x.items.length ic) (.slice sa x.scores.length sc))) := ⟨n0, n1⟩
    have HSZ := hideE hsz
    have HD := hideE hd
    have HBR := hideE hbr
    clear hbr hls n0 n1 hd hDO hDO' q0 q1 hsome hnone hsz
    go_upto_region 4 with fail
    go_cut [4, 5] (fun s4 s5 wx => s5 = .int .i64 0 ∧ ∃ g2 la lc pa pc ia ic sa sc, s4 = .pointer (some ⟨g2, 0, none⟩) ∧ wx.heap[b0]? = some zeroR ∧ wx.heap[b0 + 1]? = some (valO y.kind y.text y.count (.slice pa y.pairs.length pc) (.slice ia y.items.length ic) (.slice sa y.scores.length sc)) ∧
      wx.heap[g2]? = some (repO r.code r.text r.n (.slice la r.list.length lc)) ∧ Lists wx (.slice pa y.pairs.length pc) (.slice ia y.items.length ic) (.slice sa y.scores.length sc) y ∧ From (b0 + 2) (.slice pa y.pairs.length pc) ∧ From (b0 + 2) (.slice ia y.items.length ic) ∧ From (b0 + 2) (.slice sa y.scores.length sc) ∧
      RowAt 1 encI wx (.slice la r.list.length lc) r.list ∧ From (b0 + 2) (.slice la r.list.length lc) ∧ b0 + 2 ≤ g2 ∧ b0 + 2 ≤ wx.heap.size ∧ Deed w now ⟨k, key, fld, txt, n⟩ (p : Int) hit F D es wx ∧ Below b0 wr wx)
    case first =>
      refine region_but 11 14 (fun W => W.cell? ⟨b0 + 1, 0, none⟩ = some (.int .i64 x.kind) ∧ W.cell? ⟨b0 + 1, 1, none⟩ = some (.string x.text) ∧ W.cell? ⟨b0 + 1, 2, none⟩ = some (.int .i64 x.count) ∧ W.cell? ⟨b0 + 1, 3, none⟩ = some (.slice pa x.pairs.length pc) ∧ W.cell? ⟨b0 + 1, 4, none⟩ = some (.slice ia x.items.length ic) ∧ W.cell? ⟨b0 + 1, 5, none⟩ = some (.slice sa x.scores.length sc) ∧ W.cell? ⟨D, 2, none⟩ = some (.int .i64 k) ∧ W.cell? ⟨D, 3, none⟩ = some (.string key) ∧ W.cell? ⟨D, 4, none⟩ = some (.string fld) ∧ W.cell? ⟨D, 5, none⟩ = some (.string txt) ∧ W.cell? ⟨D, 6, none⟩ = some (.int .i64 n)) (by kernel_rfl) (by kernel_rfl) (by (try dsimp only); go_keep) (fun hHeld => ?_)
      refine but_take (i := 0) (v := ?_) rfl (by kernel_rfl) (by kernel_rfl) (by kernel_rfl) (by kernel_rfl) (by decide) (fun _ _ _ h => h) (Or.inl ⟨by rfl, ?_⟩) (by assumption) ?_
      rotate_left
      · (intro w hSw; (try dsimp only at hSw); go_simp <;> with_reducible rfl)
      try simp only [Act.put, List.setIfInBounds_toArray, List.set_cons_zero, List.set_cons_succ]
      refine but_take (i := 1) (v := ?_) rfl (by kernel_rfl) (by kernel_rfl) (by kernel_rfl) (by kernel_rfl) (by decide) (fun _ _ _ h => h) (Or.inl ⟨by rfl, ?_⟩) (by assumption) ?_
      rotate_left
      · (intro w hSw; (try dsimp only at hSw); go_simp <;> with_reducible rfl)
      try simp only [Act.put, List.setIfInBounds_toArray, List.set_cons_zero, List.set_cons_succ]
      refine but_take (i := 2) (v := ?_) rfl (by kernel_rfl) (by kernel_rfl) (by kernel_rfl) (by kernel_rfl) (by decide) (fun _ _ _ h => h) (Or.inl ⟨by rfl, ?_⟩) (by assumption) ?_
      rotate_left
      · (intro w hSw; (try dsimp only at hSw); go_simp <;> with_reducible rfl)
      try simp only [Act.put, List.setIfInBounds_toArray, List.set_cons_zero, List.set_cons_succ]
      refine but_take (i := 3) (v := ?_) rfl (by kernel_rfl) (by kernel_rfl) (by kernel_rfl) (by kernel_rfl) (by decide) (fun _ _ _ h => h) (Or.inl ⟨by rfl, ?_⟩) (by assumption) ?_
      rotate_left
      · (intro w hSw; (try dsimp only at hSw); go_simp <;> with_reducible rfl)
      try simp only [Act.put, List.setIfInBounds_toArray, List.set_cons_zero, List.set_cons_succ]
      refine but_take (i := 4) (v := ?_) rfl (by kernel_rfl) (by kernel_rfl) (by kernel_rfl) (by kernel_rfl) (by decide) (fun _ _ _ h => h) (Or.inl ⟨by rfl, ?_⟩) (by assumption) ?_
      rotate_left
      · (intro w hSw; (try dsimp only at hSw); go_simp <;> with_reducible rfl)
      try simp only [Act.put, List.setIfInBounds_toArray, List.set_cons_zero, List.set_cons_succ]
      refine but_two (i := 5) (j := 10) (by kernel_rfl) rfl rfl ?_ ?_
      · intro K hK
        (go_simp; refine (HDO.out _ (Below.refl _ wc).drew).mono ?_; rintro e w2 ⟨qa, qc, ja, jc, ta, tc, la, lc, rfl, hh, hb2⟩; obtain ⟨y1, y2⟩ := same_block (hb2.block D mD); obtain ⟨y3, y4⟩ := same_block (hb2.block (b0 + 1) m1); have z1 := bsize hb2 mD; have z2 := bsize hb2 m1; go_simp)
        refine hK.out.1 _ _ (by (try dsimp only); go_keep) (fun hHeld => ?_)
        clear hK K
        try simp only [Act.put, List.setIfInBounds_toArray, List.set_cons_zero, List.set_cons_succ]
        refine but_take (i := 6) (v := ?_) rfl (by kernel_rfl) (by kernel_rfl) (by kernel_rfl) (by kernel_rfl) (by decide) (fun _ _ _ h => h) (Or.inl ⟨by rfl, ?_⟩) (by assumption) ?_
        rotate_left
        · (intro w hSw; (try dsimp only at hSw); go_simp <;> with_reducible rfl)
        try simp only [Act.put, List.setIfInBounds_toArray, List.set_cons_zero, List.set_cons_succ]
        refine but_take (i := 7) (v := ?_) rfl (by kernel_rfl) (by kernel_rfl) (by kernel_rfl) (by kernel_rfl) (by decide) (fun _ _ _ h => h) (Or.inl ⟨by rfl, ?_⟩) (by assumption) ?_
        rotate_left
        · (intro w hSw; (try dsimp only at hSw); go_simp <;> with_reducible rfl)
        try simp only [Act.put, List.setIfInBounds_toArray, List.set_cons_zero, List.set_cons_succ]
        refine but_takeW (i := 8) (v := ?_) rfl (by kernel_rfl) (by kernel_rfl) (by kernel_rfl) (by decide) (fun _ _ _ h => h) (Or.inl ⟨by rfl, ?_⟩) (by assumption) ?_
        rotate_left
        · (intro w _; go_simp <;> with_reducible rfl)
        try simp only [Act.put, List.setIfInBounds_toArray, List.set_cons_zero, List.set_cons_succ]
        refine but_takeW (i := 9) (v := ?_) rfl (by kernel_rfl) (by kernel_rfl) (by kernel_rfl) (by decide) (fun _ _ _ h => h) (Or.inl ⟨by rfl, ?_⟩) (by assumption) ?_
        rotate_left
        · (intro w _; go_simp <;> with_reducible rfl)
        try simp only [Act.put, List.setIfInBounds_toArray, List.set_cons_zero, List.set_cons_succ]
        refine but_step (i := 10) (by kernel_rfl) rfl (fun K hK => ?_)
        (go_simp)
        refine hK.out.1 _ _ (by (try dsimp only); go_keep) (fun hHeld => ?_)
        clear hK K
        try simp only [Act.put, List.setIfInBounds_toArray, List.set_cons_zero, List.set_cons_succ]
        refine but_step (i := 11) (by kernel_rfl) rfl (fun K hK => ?_)
        (go_simp)
        refine hK.out.2 ⟨11, by decide, by kernel_rfl⟩ _ _ ?_
        clear hK K
        try simp only [Act.put, List.setIfInBounds_toArray, List.set_cons_zero, List.set_cons_succ]
        refine but_step (i := 12) (by kernel_rfl) rfl (fun K hK => ?_)
        (go_simp)
        refine hK.out.2 ⟨12, by decide, by kernel_rfl⟩ _ _ ?_
        clear hK K
        try simp only [Act.put, List.setIfInBounds_toArray, List.set_cons_zero, List.set_cons_succ]
        refine but_step (i := 13) (by kernel_rfl) rfl (fun K hK => ?_)
        (go_simp)
        refine hK.out.2 ⟨13, by decide, by kernel_rfl⟩ _ _ ?_
        clear hK K
        try simp only [Act.put, List.setIfInBounds_toArray, List.set_cons_zero, List.set_cons_succ]
        refine but_done (by kernel_rfl) ?_
        clear hHeld
        have e0 := (hb2.block b0 (lt_at HN.out.1)).trans HN.out.1
        have e1 := (hb2.block (b0 + 1) m1).trans HN.out.2
        have ed := HD.out.mid ((Below.refl _ wc).drew.trans hb2)
        have es2 : b0 + 2 ≤ w2.heap.size := by have h1 := hb2.size; have h2 : wc.drew.heap.size = wc.heap.size := rfl; have h3 := HSZ.out; omega
        have eb : wc.heap.size = b0 + 2 := HSZ.out
        obtain ⟨hl', f1, f2, f3, hr', f4⟩ := hh
        have HX2 := hideE (meetR (Z := (storedV w2 (b0 + 1) y.kind y.text y.count (.slice qa y.pairs.length qc) (.slice ja y.items.length jc) (.slice ta y.scores.length tc)).alloc (repO r.code r.text r.n (.slice la r.list.length lc))) (Bq := b0 + 2) (g := w2.heap.size) la lc qa qc ja jc ta tc (left_alloc e1) e1 (.inl (Nat.le_refl _)) e0 hl' (f1.mono (by rw [← eb]; exact Nat.le_refl _)) (f2.mono (by rw [← eb]; exact Nat.le_refl _)) (f3.mono (by rw [← eb]; exact Nat.le_refl _)) hr' (f4.mono (by rw [← eb]; exact Nat.le_refl _)) ed (Nat.le_refl _) (.inr (Nat.le_refl _)) es2 hDD es2 (HBR.out.trans (((Below.refl _ wc).drew.trans hb2).mono (show b0 ≤ wc.heap.size by omega))))
        clear e0 e1 ed es2 eb hl' f1 f2 f3 hr' f4 y1 y2 y3 y4 hb2
        go_wp2_with fail
        go_meet
        case rel => exact ⟨rfl, HX2.out⟩
      · intro K hK
        (go_simp)
        refine hK.out.1 _ _ (by (try dsimp only); go_keep) (fun hHeld => ?_)
        clear hK K
        try simp only [Act.put, List.setIfInBounds_toArray, List.set_cons_zero, List.set_cons_succ]
        refine but_step (i := 5) (by kernel_rfl) rfl (fun K hK => ?_)
        (go_simp; refine (HDO.out _ ((Below.refl _ wc).drew.alloc (Nat.le_refl _) _)).mono ?_; rintro e w2 ⟨qa, qc, ja, jc, ta, tc, la, lc, rfl, hh, hb2⟩; have hbx := bstep (show Below wc.heap.size wc (wc.drew.alloc zeroR) from (Below.refl _ wc).drew.alloc (Nat.le_refl _) zeroR) hb2; obtain ⟨y1, y2⟩ := same_block (hbx.block D mD); obtain ⟨y3, y4⟩ := same_block (hbx.block (b0 + 1) m1); have ng := (hb2.block wc.heap.size (size_a1 wc.drew zeroR)).trans (alloc_at wc.drew zeroR); obtain ⟨y5, y6⟩ := cellsB ng; have z1 := bsize hbx mD; have z2 := bsize hbx m1; have z3 := lt_at ng; have z4 : ¬ b0 + 1 = wc.heap.size := (by omega); have z5 : ¬ D = wc.heap.size := (by omega); go_simp)
        refine hK.out.1 _ _ (by (try dsimp only); go_keep) (fun hHeld => ?_)
        clear hK K
        try simp only [Act.put, List.setIfInBounds_toArray, List.set_cons_zero, List.set_cons_succ]
        refine but_take (i := 6) (v := ?_) rfl (by kernel_rfl) (by kernel_rfl) (by kernel_rfl) (by kernel_rfl) (by decide) (fun _ _ _ h => h) (Or.inl ⟨by rfl, ?_⟩) (by assumption) ?_
        rotate_left
        · (intro w hSw; (try dsimp only at hSw); go_simp <;> with_reducible rfl)
        try simp only [Act.put, List.setIfInBounds_toArray, List.set_cons_zero, List.set_cons_succ]
        refine but_take (i := 7) (v := ?_) rfl (by kernel_rfl) (by kernel_rfl) (by kernel_rfl) (by kernel_rfl) (by decide) (fun _ _ _ h => h) (Or.inl ⟨by rfl, ?_⟩) (by assumption) ?_
        rotate_left
        · (intro w hSw; (try dsimp only at hSw); go_simp <;> with_reducible rfl)
        try simp only [Act.put, List.setIfInBounds_toArray, List.set_cons_zero, List.set_cons_succ]
        refine but_takeW (i := 8) (v := ?_) rfl (by kernel_rfl) (by kernel_rfl) (by kernel_rfl) (by decide) (fun _ _ _ h => h) (Or.inl ⟨by rfl, ?_⟩) (by assumption) ?_
        rotate_left
        · (intro w _; go_simp <;> with_reducible rfl)
        try simp only [Act.put, List.setIfInBounds_toArray, List.set_cons_zero, List.set_cons_succ]
        refine but_takeW (i := 9) (v := ?_) rfl (by kernel_rfl) (by kernel_rfl) (by kernel_rfl) (by decide) (fun _ _ _ h => h) (Or.inl ⟨by rfl, ?_⟩) (by assumption) ?_
        rotate_left
        · (intro w _; go_simp <;> with_reducible rfl)
        try simp only [Act.put, List.setIfInBounds_toArray, List.set_cons_zero, List.set_cons_succ]
        refine but_step (i := 11) (by kernel_rfl) rfl (fun K hK => ?_)
        (go_simp)
        refine hK.out.2 ⟨11, by decide, by kernel_rfl⟩ _ _ ?_
        clear hK K
        try simp only [Act.put, List.setIfInBounds_toArray, List.set_cons_zero, List.set_cons_succ]
        refine but_step (i := 12) (by kernel_rfl) rfl (fun K hK => ?_)
        (go_simp)
        refine hK.out.2 ⟨12, by decide, by kernel_rfl⟩ _ _ ?_
        clear hK K
        try simp only [Act.put, List.setIfInBounds_toArray, List.set_cons_zero, List.set_cons_succ]
        refine but_step (i := 13) (by kernel_rfl) rfl (fun K hK => ?_)
        (go_simp)
        refine hK.out.2 ⟨13, by decide, by kernel_rfl⟩ _ _ ?_
        clear hK K
        try simp only [Act.put, List.setIfInBounds_toArray, List.set_cons_zero, List.set_cons_succ]
        refine but_done (by kernel_rfl) ?_
        clear hHeld
        have e0 := (hbx.block b0 (lt_at HN.out.1)).trans HN.out.1
        have e1 := (hbx.block (b0 + 1) m1).trans HN.out.2
        have ed := HD.out.mid hbx
        have eb : wc.heap.size = b0 + 2 := HSZ.out
        have es2 : b0 + 2 ≤ w2.heap.size := by have := hbx.size; omega
        have eW : (wc.drew.alloc zeroR).heap.size = b0 + 3 := by show ((_ : Array Obj).push _).size = _; rw [Array.size_push]; exact congrArg (· + 1) eb
        obtain ⟨hl', f1, f2, f3, hr', f4⟩ := hh
        have HX2 := hideE (meetR (Z := storedR (storedV w2 (b0 + 1) y.kind y.text y.count (.slice qa y.pairs.length qc) (.slice ja y.items.length jc) (.slice ta y.scores.length tc)) wc.heap.size r.code r.text r.n (.slice la r.list.length lc)) (Bq := b0 + 3) (g := wc.heap.size) la lc qa qc ja jc ta tc (left_old e1 ng (by omega)) e1 (.inr ⟨_, ng⟩) e0 hl' (f1.mono (by rw [← eW]; exact Nat.le_refl _)) (f2.mono (by rw [← eW]; exact Nat.le_refl _)) (f3.mono (by rw [← eW]; exact Nat.le_refl _)) hr' (f4.mono (by rw [← eW]; exact Nat.le_refl _)) ed (by omega) (.inl (by omega)) (by omega) hDD es2 (HBR.out.trans (hbx.mono (by omega))))
        clear e0 e1 ed es2 eb eW hl' f1 f2 f3 hr' f4 y1 y2 y3 y4 y5 y6 hb2 hbx
        go_wp2_with fail
        go_meet
        case rel => exact ⟨rfl, HX2.out⟩
    case rest =>
      obtain ⟨rfl, g2, la, lc, qa, qc, ja, jc, ta, tc, rfl, n0, n1, n2, hl, f1, f2, f3, hr, f4, hg2, hwsz, hd, hbr⟩ := hcut
      have hbr0 : Below wr.heap.size wr wc := by first | exact hbr | (rw [hb0]; exact hbr)
      have hwr : wr.heap.size ≤ b0 := by omega
      have HBW := hideE hbr0
      clear hbr hbr0
      clear HDO HN HSZ HD v0 v1 v2 v3 v4 v5 t2 t3 t4 t5 t6 m1 mD g0 g1
      obtain ⟨x0, x1⟩ := cellsB n0
      obtain ⟨x2, x3⟩ := cellsB n2
      obtain ⟨x4, x5⟩ := cellsB n1
      have lb0 := lt_at n0
      have lb1 := lt_at n1
      have lg2 := lt_at n2
      have hg0 : ¬ b0 = g2 := by omega
      have hg0' : ¬ g2 = b0 := by omega
      have hDD2 : w.heap.size ≤ b0 + 2 := by omega
      by_cases hcode : r.code = 0
      · have hcode' : (r.code != 0) = false := by simpa using hcode
        have HCODE := hideE hcode
        clear hcode
        by_cases hk : y.kind = 0
        · have hit1 : hit = true := by rw [← HK1.out.2]; exact HLF.out HCODE.out hk
          subst hit1
          have hpl := HK4.out rfl
          have HLAY := hideE (lay_drop w wc now p ⟨k, key, fld, txt, n⟩ true F D es y qa ja ta qc jc tc hd hpl (by omega) hk)
          have HCG := hideE (change_gone (c := ⟨k, key, fld, txt, n⟩) (L := L) (r := r) (by rw [HX.out, HY.out.1]; exact hk) (by rw [HX.out, HY.out.2]) HCODE.out)
          have hb0o := own_ne hd.own n0 (by decide)
          have hg2o := own_ne hd.own n2 (by decide)
          have HKB := hideE (show b0 ≠ D ∧ g2 ≠ D ∧ D < b0 + 2 from ⟨by omega, by omega, by omega⟩)
          have HR := hideE hr
          have HN2 : Hid (wc.heap[b0]? = some zeroR ∧ wc.heap[g2]? = some (repO r.code r.text r.n (.slice la r.list.length lc))) := ⟨n0, n2⟩
          clear n0 n1 n2 hd hl hr
          clear hk
          go_wp2_with fail
          refine HLAY.out.mono ?_
          rintro e w2 ⟨rfl, r', hd2, hK⟩
          clear x0 x1 x2 x3 x4 x5
          have n0' := (hK.block b0 lb0 HKB.out.1 (fun e => hb0o e.symm)).trans HN2.out.1
          have n2' := (hK.block g2 lg2 HKB.out.2.1 (fun e => hg2o e.symm)).trans HN2.out.2
          have hr' := HR.out.keptD f4 HKB.out.2.2 (fun b hb => by have := hrowb b hb; omega) hK
          obtain ⟨x0, x1⟩ := cellsB n0'
          obtain ⟨x2, x3⟩ := cellsB n2'
          have lx0 := lt_at n0'
          have lx2 := lt_at n2'
          have HFIN := hideE (ch_fin (ob := es.ownBlock) (B := b0 + 2) (hd2.fin hDD2) n0' hDD (by omega) (hK.pre HBW.out) hwr hr' f4 HCG.out (by rw [map_cut, HL.out, HK1.out.1]))
          clear n0' n2' hr' hd2 hK hb0o hg2o HCG
          go_wp2_with fail
          refine bodyPost_ret (v := repV r.code r.text r.n (.slice la r.list.length lc)) (by simp [results, Tryz.results83, go_sem, x0]) rfl ?_
          first | exact HFIN.out | (rw [hb0]; exact HFIN.out)
        · have hyk := hideE hk
          cases hit
          · have h0 := HK1.out.2
            have hX0 : x = emptyVal 0 := by rw [← HX.out, get_none h0]; rfl
            subst hX0
            by_cases hfull : 12 ≤ F.length
            · have HLAY := hideE (lay_full w wc now p ⟨k, key, fld, txt, n⟩ F D es y qa ja ta qc jc tc hd hfull hk)
              have HCG := hideE (change_full (c := ⟨k, key, fld, txt, n⟩) (L := L) (y := y) (r := r) HY.out.1 HY.out.2 HCODE.out hk h0 (by rw [← HL.out]; simpa using hfull))
              have HD := hideE hd
              have HN2 : Hid (wc.heap[b0]? = some zeroR) := n0
              clear hk n0 n1 n2 hd hl hr hfull h0
              go_wp2_with fail
              refine HLAY.out.mono ?_
              rintro e w2 ⟨rfl, hb2⟩
              clear x0 x1 x2 x3 x4 x5
              have n0' := (hb2.block b0 lb0).trans HN2.out
              obtain ⟨x0, x1⟩ := cellsB n0'
              have lx0 := lt_at n0'
              have HFIN := hideE (ch_fin (ob := es.ownBlock) (B := b0 + 2) (r := { code := 6 }) (ls := .slice none 0 0) ((HD.out.mid hb2).fin hDD2) n0' hDD (by omega) (Kept.of (bstep HBW.out hb2)) hwr (RowAt.nil _ _ _) (From.nil _) HCG.out HL.out)
              clear n0' hb2 HCG
              go_wp2_with fail
              refine bodyPost_ret (v := repV 6 ⟨#[]⟩ 0 (.slice none 0 0)) (by simp [results, Tryz.results83, go_sem, x0]) rfl ?_
              first | exact HFIN.out | (rw [hb0]; exact HFIN.out)
            · have HLAY := hideE (lay_new w wc now p (b0 + 2) ⟨k, key, fld, txt, n⟩ F D es y qa ja ta qc jc tc hd hp0 (fun b hb => by have := hrowb b hb; omega) (by omega) hDD2 hwsz ⟨hl, f1, f2, f3⟩ (by omega) hk)
              have HCG := hideE (change_new (c := ⟨k, key, fld, txt, n⟩) (L := L) (y := y) (r := r) HY.out.1 HY.out.2 HCODE.out hk h0 (by rw [← HL.out]; simp; omega))
              have hb0o := own_ne hd.own n0 (by decide)
              have hg2o := own_ne hd.own n2 (by decide)
              have HKB := hideE (show b0 ≠ D ∧ g2 ≠ D ∧ D < b0 + 2 from ⟨by omega, by omega, by omega⟩)
              have HR := hideE hr
              have HN2 : Hid (wc.heap[b0]? = some zeroR ∧ wc.heap[g2]? = some (repO r.code r.text r.n (.slice la r.list.length lc))) := ⟨n0, n2⟩
              clear n0 n1 n2 hd hl hr
              clear hk hfull h0
              go_wp2_with fail
              refine HLAY.out.mono ?_
              rintro e w2 ⟨rfl, r', hd2, hK⟩
              clear x0 x1 x2 x3 x4 x5
              have n0' := (hK.block b0 lb0 HKB.out.1 (fun e => hb0o e.symm)).trans HN2.out.1
              have n2' := (hK.block g2 lg2 HKB.out.2.1 (fun e => hg2o e.symm)).trans HN2.out.2
              have hr' := HR.out.keptD f4 HKB.out.2.2 (fun b hb => by have := hrowb b hb; omega) hK
              obtain ⟨x0, x1⟩ := cellsB n0'
              obtain ⟨x2, x3⟩ := cellsB n2'
              have lx0 := lt_at n0'
              have lx2 := lt_at n2'
              have HFIN := hideE (ch_fin (ob := es.ownBlock) hd2 n0' hDD (by omega) (hK.pre HBW.out) hwr hr' f4 HCG.out (by rw [map_lay, HL.out, HK1.out.1]))
              clear n0' n2' hr' hd2 hK hb0o hg2o HCG
              go_wp2_with fail
              refine bodyPost_ret (v := repV r.code r.text r.n (.slice la r.list.length lc)) (by simp [results, Tryz.results83, go_sem, x0]) rfl ?_
              first | exact HFIN.out | (rw [hb0]; exact HFIN.out)
          · have hpl := HK4.out rfl
            obtain ⟨h3, h4⟩ := HK3.out hpl rfl
            have HLAY := hideE (lay_old w wc now p (b0 + 2) ⟨k, key, fld, txt, n⟩ F D es y qa ja ta qc jc tc hd hpl (fun b hb => by have := hrowb b hb; omega) hDD2 hwsz ⟨hl, f1, f2, f3⟩ hk)
            have HCG := hideE (change_old (c := ⟨k, key, fld, txt, n⟩) (L := L) (y := y) (r := r) (by rw [HX.out]; exact HY.out.1) (by rw [HX.out]; exact HY.out.2) HCODE.out hk HK1.out.2)
            have HE3 := hideE (show F[p].kv.key = key ∧ F[p].kv.til = (getK key L).til from ⟨h4, by rw [h3]⟩)
            have hb0o := own_ne hd.own n0 (by decide)
            have hg2o := own_ne hd.own n2 (by decide)
            have HKB := hideE (show b0 ≠ D ∧ g2 ≠ D ∧ D < b0 + 2 from ⟨by omega, by omega, by omega⟩)
            have HR := hideE hr
            have HN2 : Hid (wc.heap[b0]? = some zeroR ∧ wc.heap[g2]? = some (repO r.code r.text r.n (.slice la r.list.length lc))) := ⟨n0, n2⟩
            clear n0 n1 n2 hd hl hr
            clear hk h3 h4
            go_wp2_with fail
            refine HLAY.out.mono ?_
            rintro e w2 ⟨rfl, hd2, hK⟩
            clear x0 x1 x2 x3 x4 x5
            have n0' := (hK.block b0 lb0 HKB.out.1 (fun e => hb0o e.symm)).trans HN2.out.1
            have n2' := (hK.block g2 lg2 HKB.out.2.1 (fun e => hg2o e.symm)).trans HN2.out.2
            have hr' := HR.out.keptD f4 HKB.out.2.2 (fun b hb => by have := hrowb b hb; omega) hK
            obtain ⟨x0, x1⟩ := cellsB n0'
            obtain ⟨x2, x3⟩ := cellsB n2'
            have lx0 := lt_at n0'
            have lx2 := lt_at n2'
            have HFIN := hideE (ch_fin (ob := es.ownBlock) hd2 n0' hDD (by omega) (hK.pre HBW.out) hwr hr' f4 HCG.out (by rw [map_setE, HL.out, HK1.out.1]; simp only [HE3.out.1, HE3.out.2]))
            clear n0' n2' hr' hd2 hK hb0o hg2o HCG HE3
            go_wp2_with fail
            refine bodyPost_ret (v := repV r.code r.text r.n (.slice la r.list.length lc)) (by simp [results, Tryz.results83, go_sem, x0]) rfl ?_
            first | exact HFIN.out | (rw [hb0]; exact HFIN.out)
      · have hcode' : (r.code != 0) = true := by simpa using hcode
        have HFIN := hideE (ch_fin (ob := es.ownBlock) (A := changeK ⟨k, key, fld, txt, n⟩ L) (B := b0 + 2) (hd.fin hDD2) n0 hDD (by omega) (Kept.of HBW.out) hwr hr f4 (by have := change_fail (c := ⟨k, key, fld, txt, n⟩) (L := L) (by rw [HX.out, HY.out.2]; exact hcode); rw [HX.out, HY.out.2] at this; exact this) HL.out)
        clear n0 n1 n2 hd hl hr hcode
        go_wp2_with fail
        refine bodyPost_ret (v := repV r.code r.text r.n (.slice la r.list.length lc)) (by simp [results, Tryz.results83, go_sem, x0]) rfl ?_
        first | exact HFIN.out | (rw [hb0]; exact HFIN.out)
end Go.Proofs.YtfnephnecighaaaGreat

/- What a deed answers: (*store.deed).answer. -/
namespace Go.Proofs.YtfnephnecighaaaGreat
open Go.RowKit
set_option linter.unusedVariables false
set_option maxRecDepth 100000

theorem ansK_22 {now : Int} {c : Cmd} {L : List Kv} (h : c.k = 22) : ansK now c L = (L, { list := L.map (·.key) }) := by rw [ansK, if_pos h]
theorem ansK_19 {now : Int} {c : Cmd} {L : List Kv} (h : c.k = 19) : ansK now c L = if hasK c.key L = true then (cutAt L (atK c.key L), { n := 1 }) else (L, {}) := by rw [ansK, if_neg (by omega), if_pos h]
theorem ansK_20 {now : Int} {c : Cmd} {L : List Kv} (h : c.k = 20) : ansK now c L = expireK now c L := by rw [ansK, if_neg (by omega), if_neg (by omega), if_pos h]
theorem ansK_21 {now : Int} {c : Cmd} {L : List Kv} (h : c.k = 21) : ansK now c L = (L, lifeRep now (hasK c.key L) (getK c.key L).til) := by rw [ansK, if_neg (by omega), if_neg (by omega), if_neg (by omega), if_pos h]

set_option maxHeartbeats 8000000 in
theorem answer_any (w wr : World) (now : Int) (p : Nat) (c : Cmd) (hit : Bool) (F : List Ent) (D : Nat) (es : Value) (h : Deed w now c (p : Int) hit F D es wr) (hpt : Parts (fun e : Ent => cmpS e.kv.key c.key) F p) (hh : hitB (fun e : Ent => cmpS e.kv.key c.key) F p = hit)
    (hok : OkKs now (F.map (·.kv))) (hc : c.fault = 0) (hn0 : 0 ≤ now) (hn1 : now ≤ 1073741824) :
    Calls Tryz.prog 40 #[.pointer (some ⟨D, 0, none⟩)] wr fun e w' => ∃ B, Changed w wr es.ownBlock now c (ansK now c (F.map (·.kv))) D B e w' := by
  obtain ⟨k1, k2, k3, k4⟩ := found_kv hok.rise hpt
  rw [hh] at k2 k3 k4
  have hn12 : F.length ≤ 12 := by have := hok.len; simpa using this
  have hbl := balloc wr zeroR
  have nx := alloc_at wr zeroR
  have hd := h.mid hbl
  have hbw : w.heap.size ≤ wr.heap.size := h.below.size
  have hDb := lt_at h.deed
  have hVs : (wr.alloc zeroR).heap.size = wr.heap.size + 1 := by simp
  have HK := hideE (show atK c.key (F.map (·.kv)) = p ∧ hasK c.key (F.map (·.kv)) = hit from ⟨k1, k2⟩)
  have HK3 := hideE k3
  have HK4 := hideE k4
  have hsel : c.k = 22 ∨ c.k = 19 ∨ c.k = 20 ∨ c.k = 21 ∨ ofStoreB c.k = false := by
    by_cases h1 : c.k = 22; exact .inl h1
    by_cases h2 : c.k = 19; exact .inr (.inl h2)
    by_cases h3 : c.k = 20; exact .inr (.inr (.inl h3))
    by_cases h4 : c.k = 21; exact .inr (.inr (.inr (.inl h4)))
    exact .inr (.inr (.inr (.inr (by simp [ofStoreB]; omega))))
  obtain ⟨k, key, fld, txt, n⟩ := c
  simp only at hsel
  have HBL := hideE hbl
  clear h hbl k1 k2 k3 k4
  rcases hsel with rfl | rfl | rfl | rfl | hs
  · have hCALL := keys_any w _ now p ⟨22, key, fld, txt, n⟩ hit F D es hd (by omega)
    go_enter Tryz.func40, Tryz.ntmps40
    go_upto_region 1 with fail
    generalize wr.alloc zeroR = V at nx hd hVs hCALL HBL ⊢
    generalize hb : wr.heap.size = b at nx hbw hDb hVs ⊢
    obtain ⟨q0, f0⟩ := cellsB nx
    obtain ⟨q1, f1⟩ := cellsB hd.deed
    have l0 := lt_at nx
    have l1 := lt_at hd.deed
    have hbD : b ≠ D := by omega
    have hbo := own_ne hd.own nx (by decide)
    have HNX := hideE nx
    have HD := hideE hd
    have HC := hideE hCALL
    have hwr : wr.heap.size ≤ b := by omega
    clear hd nx hCALL
    go_wp2_with fail
    refine HC.out.mono ?_
    rintro e w2 ⟨rv, rfl, hown, hb2⟩
    obtain ⟨la, lc, rfl⟩ := ownsRow_shape hown
    have n0 := (hb2.block b l0).trans HNX.out
    have hlen : (F.map (·.kv.key)).length = F.length := by simp
    have hrow : RowAt 1 encI w2 (.slice la F.length lc) (F.map (·.kv.key)) := RowAt.ofOwn lenI (by rw [hlen]; exact hown) (by omega)
    have HFIN := hideE (ch_fin (ob := es.ownBlock) (A := ansK now ⟨22, key, fld, txt, n⟩ (F.map (·.kv))) (B := b + 1) (r := { list := F.map (·.kv.key) }) (ls := .slice la F.length lc) ((HD.out.mid hb2).fin (by omega)) n0 hbw (by omega) ((Kept.of hb2).pre HBL.out) hwr hrow ((From.own hown).mono (by omega)) ((ansK_22 rfl).trans (by simp)) rfl)
    clear q0 f0 q1 f1 hown hrow hlen
    obtain ⟨x0, x1⟩ := cellsB n0
    have lx := lt_at n0
    clear n0 hb2
    go_wp2_with fail
    refine bodyPost_ret (v := repV 0 ⟨#[]⟩ 0 (.slice la F.length lc)) (by simp [results, Tryz.results40, go_sem, x0]) rfl ⟨_, HFIN.out⟩
  · cases hit
    · have hCALL := remove_none w _ now p ⟨19, key, fld, txt, n⟩ F D es hd
      go_enter Tryz.func40, Tryz.ntmps40
      go_upto_region 1 with fail
      generalize wr.alloc zeroR = V at nx hd hVs hCALL HBL ⊢
      generalize hb : wr.heap.size = b at nx hbw hDb hVs ⊢
      obtain ⟨q0, f0⟩ := cellsB nx
      obtain ⟨q1, f1⟩ := cellsB hd.deed
      have l0 := lt_at nx
      have l1 := lt_at hd.deed
      have hbD : b ≠ D := by omega
      have hbo := own_ne hd.own nx (by decide)
      have HNX := hideE nx
      have HD := hideE hd
      have HC := hideE hCALL
      have hwr : wr.heap.size ≤ b := by omega
      clear hd nx hCALL
      go_wp2_with fail
      refine HC.out.mono ?_
      rintro e w2 ⟨rfl, hb2⟩
      have n0 := (hb2.block b l0).trans HNX.out
      have HFIN := hideE (ch_fin (ob := es.ownBlock) (A := ansK now ⟨19, key, fld, txt, n⟩ (F.map (·.kv))) (B := b + 1) (r := {}) (ls := .slice none 0 0) ((HD.out.mid hb2).fin (by omega)) n0 hbw (by omega) ((Kept.of hb2).pre HBL.out) hwr (RowAt.nil _ _ _) (From.nil _) ((ansK_19 rfl).trans (by rw [if_neg (by rw [HK.out.2]; simp)])) rfl)
      clear q0 f0 q1 f1
      obtain ⟨x0, x1⟩ := cellsB n0
      have lx := lt_at n0
      clear n0
      go_wp2_with fail
      refine bodyPost_ret (v := repV 0 ⟨#[]⟩ 0 (.slice none 0 0)) (by simp [results, Tryz.results40, go_sem, x0]) rfl ⟨_, HFIN.out⟩
    · have hpl := HK4.out rfl
      have hCALL := remove_some w _ now p ⟨19, key, fld, txt, n⟩ F D es hd hpl (by omega)
      go_enter Tryz.func40, Tryz.ntmps40
      go_upto_region 1 with fail
      generalize wr.alloc zeroR = V at nx hd hVs hCALL HBL ⊢
      generalize hb : wr.heap.size = b at nx hbw hDb hVs ⊢
      obtain ⟨q0, f0⟩ := cellsB nx
      obtain ⟨q1, f1⟩ := cellsB hd.deed
      have l0 := lt_at nx
      have l1 := lt_at hd.deed
      have hbD : b ≠ D := by omega
      have hbo := own_ne hd.own nx (by decide)
      have HNX := hideE nx
      have HD := hideE hd
      have HC := hideE hCALL
      have hwr : wr.heap.size ≤ b := by omega
      clear hd nx hCALL
      go_wp2_with fail
      refine HC.out.mono ?_
      rintro e w2 ⟨rfl, r', hd2, hK⟩
      have n0 := (hK.block b l0 hbD (fun e => hbo e.symm)).trans HNX.out
      have HFIN := hideE (ch_fin (ob := es.ownBlock) (A := ansK now ⟨19, key, fld, txt, n⟩ (F.map (·.kv))) (B := b + 1) (r := { n := 1 }) (ls := .slice none 0 0) (hd2.fin (by omega)) n0 hbw (by omega) (hK.pre HBL.out) hwr (RowAt.nil _ _ _) (From.nil _) ((ansK_19 rfl).trans (by rw [if_pos HK.out.2])) (by rw [map_cut, HK.out.1]))
      clear q0 f0 q1 f1
      obtain ⟨x0, x1⟩ := cellsB n0
      have lx := lt_at n0
      clear n0
      go_wp2_with fail
      refine bodyPost_ret (v := repV 0 ⟨#[]⟩ 1 (.slice none 0 0)) (by simp [results, Tryz.results40, go_sem, x0]) rfl ⟨_, HFIN.out⟩
  · cases hit
    · have hCALL := expire_none w _ now p ⟨20, key, fld, txt, n⟩ F D es hd
      go_enter Tryz.func40, Tryz.ntmps40
      go_upto_region 1 with fail
      generalize wr.alloc zeroR = V at nx hd hVs hCALL HBL ⊢
      generalize hb : wr.heap.size = b at nx hbw hDb hVs ⊢
      obtain ⟨q0, f0⟩ := cellsB nx
      obtain ⟨q1, f1⟩ := cellsB hd.deed
      have l0 := lt_at nx
      have l1 := lt_at hd.deed
      have hbD : b ≠ D := by omega
      have hbo := own_ne hd.own nx (by decide)
      have HNX := hideE nx
      have HD := hideE hd
      have HC := hideE hCALL
      have hwr : wr.heap.size ≤ b := by omega
      clear hd nx hCALL
      go_wp2_with fail
      refine HC.out.mono ?_
      rintro e w2 ⟨rfl, hb2⟩
      have n0 := (hb2.block b l0).trans HNX.out
      have HFIN := hideE (ch_fin (ob := es.ownBlock) (A := ansK now ⟨20, key, fld, txt, n⟩ (F.map (·.kv))) (B := b + 1) (r := { code := 5 }) (ls := .slice none 0 0) ((HD.out.mid hb2).fin (by omega)) n0 hbw (by omega) ((Kept.of hb2).pre HBL.out) hwr (RowAt.nil _ _ _) (From.nil _) ((ansK_20 rfl).trans (by rw [expireK, if_pos HK.out.2])) rfl)
      clear q0 f0 q1 f1
      obtain ⟨x0, x1⟩ := cellsB n0
      have lx := lt_at n0
      clear n0
      go_wp2_with fail
      refine bodyPost_ret (v := repV 5 ⟨#[]⟩ 0 (.slice none 0 0)) (by simp [results, Tryz.results40, go_sem, x0]) rfl ⟨_, HFIN.out⟩
    · by_cases hbad : n < 1 ∨ 1073741824 - now < n
      · have HBAD := hideE hbad
        have hCALL := expire_bad w _ now p ⟨20, key, fld, txt, n⟩ F D es hd hn0 hn1 hbad
        clear hbad
        go_enter Tryz.func40, Tryz.ntmps40
        go_upto_region 1 with fail
        generalize wr.alloc zeroR = V at nx hd hVs hCALL HBL ⊢
        generalize hb : wr.heap.size = b at nx hbw hDb hVs ⊢
        obtain ⟨q0, f0⟩ := cellsB nx
        obtain ⟨q1, f1⟩ := cellsB hd.deed
        have l0 := lt_at nx
        have l1 := lt_at hd.deed
        have hbD : b ≠ D := by omega
        have hbo := own_ne hd.own nx (by decide)
        have HNX := hideE nx
        have HD := hideE hd
        have HC := hideE hCALL
        have hwr : wr.heap.size ≤ b := by omega
        clear hd nx hCALL
        go_wp2_with fail
        refine HC.out.mono ?_
        rintro e w2 ⟨rfl, hb2⟩
        have n0 := (hb2.block b l0).trans HNX.out
        have HFIN := hideE (ch_fin (ob := es.ownBlock) (A := ansK now ⟨20, key, fld, txt, n⟩ (F.map (·.kv))) (B := b + 1) (r := { code := 2 }) (ls := .slice none 0 0) ((HD.out.mid hb2).fin (by omega)) n0 hbw (by omega) ((Kept.of hb2).pre HBL.out) hwr (RowAt.nil _ _ _) (From.nil _) ((ansK_20 rfl).trans (by rw [expireK, if_neg (by rw [HK.out.2]; simp), if_pos HBAD.out])) rfl)
        clear q0 f0 q1 f1
        obtain ⟨x0, x1⟩ := cellsB n0
        have lx := lt_at n0
        clear n0
        go_wp2_with fail
        refine bodyPost_ret (v := repV 2 ⟨#[]⟩ 0 (.slice none 0 0)) (by simp [results, Tryz.results40, go_sem, x0]) rfl ⟨_, HFIN.out⟩
      · have hpl := HK4.out rfl
        have h34 := HK3.out hpl rfl
        have hCALL := expire_good w _ now p ⟨20, key, fld, txt, n⟩ F D es hd hpl hn0 hn1 (by simp only; omega) (by simp only; omega)
        have HBAD := hideE hbad
        have HE3 := hideE h34
        clear hbad h34
        go_enter Tryz.func40, Tryz.ntmps40
        go_upto_region 1 with fail
        generalize wr.alloc zeroR = V at nx hd hVs hCALL HBL ⊢
        generalize hb : wr.heap.size = b at nx hbw hDb hVs ⊢
        obtain ⟨q0, f0⟩ := cellsB nx
        obtain ⟨q1, f1⟩ := cellsB hd.deed
        have l0 := lt_at nx
        have l1 := lt_at hd.deed
        have hbD : b ≠ D := by omega
        have hbo := own_ne hd.own nx (by decide)
        have HNX := hideE nx
        have HD := hideE hd
        have HC := hideE hCALL
        have hwr : wr.heap.size ≤ b := by omega
        clear hd nx hCALL
        go_wp2_with fail
        refine HC.out.mono ?_
        rintro e w2 ⟨rfl, hd2, hK⟩
        have n0 := (hK.block b l0 hbD (fun e => hbo e.symm)).trans HNX.out
        have HFIN := hideE (ch_fin (ob := es.ownBlock) (A := ansK now ⟨20, key, fld, txt, n⟩ (F.map (·.kv))) (B := b + 1) (r := {}) (ls := .slice none 0 0) (hd2.fin (by omega)) n0 hbw (by omega) (hK.pre HBL.out) hwr (RowAt.nil _ _ _) (From.nil _) ((ansK_20 rfl).trans (by rw [expireK, if_neg (by rw [HK.out.2]; simp), if_neg HBAD.out])) (by rw [map_setE, HK.out.1, HE3.out.1]; simp only [Ent.withTil, HE3.out.2]))
        clear q0 f0 q1 f1
        obtain ⟨x0, x1⟩ := cellsB n0
        have lx := lt_at n0
        clear n0
        go_wp2_with fail
        refine bodyPost_ret (v := repV 0 ⟨#[]⟩ 0 (.slice none 0 0)) (by simp [results, Tryz.results40, go_sem, x0]) rfl ⟨_, HFIN.out⟩
  · cases hit
    · have hCALL := life_none w _ now p ⟨21, key, fld, txt, n⟩ F D es hd
      go_enter Tryz.func40, Tryz.ntmps40
      go_upto_region 1 with fail
      generalize wr.alloc zeroR = V at nx hd hVs hCALL HBL ⊢
      generalize hb : wr.heap.size = b at nx hbw hDb hVs ⊢
      obtain ⟨q0, f0⟩ := cellsB nx
      obtain ⟨q1, f1⟩ := cellsB hd.deed
      have l0 := lt_at nx
      have l1 := lt_at hd.deed
      have hbD : b ≠ D := by omega
      have hbo := own_ne hd.own nx (by decide)
      have HNX := hideE nx
      have HD := hideE hd
      have HC := hideE hCALL
      have hwr : wr.heap.size ≤ b := by omega
      clear hd nx hCALL
      go_wp2_with fail
      refine HC.out.mono ?_
      rintro e w2 ⟨rfl, hb2⟩
      have n0 := (hb2.block b l0).trans HNX.out
      have HFIN := hideE (ch_fin (ob := es.ownBlock) (A := ansK now ⟨21, key, fld, txt, n⟩ (F.map (·.kv))) (B := b + 1) (r := { code := 5 }) (ls := .slice none 0 0) ((HD.out.mid hb2).fin (by omega)) n0 hbw (by omega) ((Kept.of hb2).pre HBL.out) hwr (RowAt.nil _ _ _) (From.nil _) ((ansK_21 rfl).trans (by rw [HK.out.2]; rfl)) rfl)
      clear q0 f0 q1 f1
      obtain ⟨x0, x1⟩ := cellsB n0
      have lx := lt_at n0
      clear n0
      go_wp2_with fail
      refine bodyPost_ret (v := repV 5 ⟨#[]⟩ 0 (.slice none 0 0)) (by simp [results, Tryz.results40, go_sem, x0]) rfl ⟨_, HFIN.out⟩
    · have hpl := HK4.out rfl
      have h34 := HK3.out hpl rfl
      have hw := (wrong_iff.1 (hok.ok F[p].kv (List.mem_map.2 ⟨F[p], List.getElem_mem hpl, rfl⟩))).2.2
      have hCALL := life_some w _ now p ⟨21, key, fld, txt, n⟩ F D es hd hpl hn0 hn1 (by omega) (by omega)
      have HE3 := hideE h34
      have hLR : lifeRep now true F[p].kv.til = { n := (lifeRep now true F[p].kv.til).n } := by unfold lifeRep; by_cases h : F[p].kv.til = 0 <;> simp [h]
      obtain ⟨m, hm⟩ : ∃ m, (lifeRep now true F[p].kv.til).n = m := ⟨_, rfl⟩
      rw [hm] at hCALL hLR
      have HLR := hideE hLR
      clear h34 hw hm hLR
      go_enter Tryz.func40, Tryz.ntmps40
      go_upto_region 1 with fail
      generalize wr.alloc zeroR = V at nx hd hVs hCALL HBL ⊢
      generalize hb : wr.heap.size = b at nx hbw hDb hVs ⊢
      obtain ⟨q0, f0⟩ := cellsB nx
      obtain ⟨q1, f1⟩ := cellsB hd.deed
      have l0 := lt_at nx
      have l1 := lt_at hd.deed
      have hbD : b ≠ D := by omega
      have hbo := own_ne hd.own nx (by decide)
      have HNX := hideE nx
      have HD := hideE hd
      have HC := hideE hCALL
      have hwr : wr.heap.size ≤ b := by omega
      clear hd nx hCALL
      go_wp2_with fail
      refine HC.out.mono ?_
      rintro e w2 ⟨rfl, hb2⟩
      have n0 := (hb2.block b l0).trans HNX.out
      have HFIN := hideE (ch_fin (ob := es.ownBlock) (A := ansK now ⟨21, key, fld, txt, n⟩ (F.map (·.kv))) (B := b + 1) (r := { n := m }) (ls := .slice none 0 0) ((HD.out.mid hb2).fin (by omega)) n0 hbw (by omega) ((Kept.of hb2).pre HBL.out) hwr (RowAt.nil _ _ _) (From.nil _) ((ansK_21 rfl).trans (by rw [HK.out.2, HE3.out.1, HLR.out])) rfl)
      clear q0 f0 q1 f1
      obtain ⟨x0, x1⟩ := cellsB n0
      have lx := lt_at n0
      clear n0
      go_wp2_with fail
      refine bodyPost_ret (v := repV 0 ⟨#[]⟩ m (.slice none 0 0)) (by simp [results, Tryz.results40, go_sem, x0]) rfl ⟨_, HFIN.out⟩
  · have hCALL := change_any w _ now p ⟨k, key, fld, txt, n⟩ hit F D es hd hpt hh hok hc hs
    have hk : ¬ (k = 19 ∨ k = 20 ∨ k = 21 ∨ k = 22) := by simpa [ofStoreB] using hs
    have k22 : (k == 22) = false := by simp; omega
    have k19 : (k == 19) = false := by simp; omega
    have k20 : (k == 20) = false := by simp; omega
    have k21 : (k == 21) = false := by simp; omega
    have HA : Hid (ansK now ⟨k, key, fld, txt, n⟩ (F.map (·.kv)) = changeK ⟨k, key, fld, txt, n⟩ (F.map (·.kv))) := ans_change hs
    obtain ⟨A, hA⟩ : ∃ A, changeK ⟨k, key, fld, txt, n⟩ (F.map (·.kv)) = A := ⟨_, rfl⟩
    rw [hA] at hCALL HA
    clear hk hpt hh hok hc hs hA
    go_enter Tryz.func40, Tryz.ntmps40
    go_upto_region 1 with fail
    generalize wr.alloc zeroR = V at nx hd hVs hCALL HBL ⊢
    generalize hb : wr.heap.size = b at nx hbw hDb hVs ⊢
    obtain ⟨q0, f0⟩ := cellsB nx
    obtain ⟨q1, f1⟩ := cellsB hd.deed
    have l0 := lt_at nx
    have l1 := lt_at hd.deed
    have hbD : b ≠ D := by omega
    have hbo := own_ne hd.own nx (by decide)
    have HNX := hideE nx
    have HD := hideE hd
    have HC := hideE hCALL
    have hwr : wr.heap.size ≤ b := by omega
    clear hd nx hCALL
    go_wp2_with fail
    refine HC.out.mono ?_
    rintro e w2 ⟨rv, rfl, ⟨ls, rfl, hl, hfr⟩, hK, F2, es2, hf, hF⟩
    obtain ⟨la, lc, rfl⟩ : ∃ la lc, ls = .slice la A.2.list.length lc := by obtain ⟨-, a, c, h, -⟩ := hl; exact ⟨a, c, h⟩
    have n0 := (hK.block b l0 hbD (fun e => hbo e.symm)).trans HNX.out
    have HFIN := hideE (ch_fin (ob := es.ownBlock) (A := ansK now ⟨k, key, fld, txt, n⟩ (F.map (·.kv))) (B := V.heap.size + 2) (r := A.2) (ls := .slice la A.2.list.length lc) hf n0 hbw (by omega) (hK.pre HBL.out) hwr hl hfr HA.out hF)
    clear hl hfr hK hf hF
    clear q0 f0 q1 f1
    obtain ⟨x0, x1⟩ := cellsB n0
    have lx := lt_at n0
    clear n0
    go_wp2_with fail
    refine bodyPost_ret (v := repV A.2.code A.2.text A.2.n (.slice la A.2.list.length lc)) (by simp [results, Tryz.results40, go_sem, x0]) rfl ⟨_, HFIN.out⟩
end Go.Proofs.YtfnephnecighaaaGreat

/- store.Apply answers just what the plain functions say, at every store, time and command. -/
namespace Go.Proofs.YtfnephnecighaaaGreat
open Go.RowKit
set_option linter.unusedVariables false
set_option maxRecDepth 100000

/-- A store that lies in memory as s, all of it from a block number on. -/
def RepsStF (B : Nat) (w : World) (v : Value) (s : Sto) : Prop := ∃ es E, v = stoV s.now es ∧ RowAt 8 encE w es E ∧ From B es ∧ (∀ e ∈ E, ListsF B w e) ∧ E.map (·.kv) = s.es
theorem RepsStF.st {B : Nat} {w : World} {v : Value} {s : Sto} (h : RepsStF B w v s) : RepsSt w v s := by
  obtain ⟨es, E, h1, h2, -, h3, h4⟩ := h
  exact ⟨es, E, h1, h2, fun e he => (h3 e he).1, h4⟩
theorem RepsStF.below {B : Nat} {w w' : World} {v : Value} {s : Sto} (h : RepsStF B w v s) (hb : Below w.heap.size w w') : RepsStF B w' v s := by
  obtain ⟨es, E, h1, h2, hf, h3, h4⟩ := h
  exact ⟨es, E, h1, h2.below hb, hf, fun e he => (h3 e he).mid hb, h4⟩
theorem RepsStF.mono {B B' : Nat} {w : World} {v : Value} {s : Sto} (h : RepsStF B w v s) (hb : B' ≤ B) : RepsStF B' w v s := by
  obtain ⟨es, E, h1, h2, hf, h3, h4⟩ := h
  exact ⟨es, E, h1, h2, hf.mono hb, fun e he => ⟨(h3 e he).1, (h3 e he).2.1.mono hb, (h3 e he).2.2.1.mono hb, (h3 e he).2.2.2.mono hb⟩, h4⟩
theorem RepsStF.setCell {B : Nat} {w : World} {v : Value} {s : Sto} (h : RepsStF B w v s) {p : Addr} (hp : p.block < B) (u : Value) : RepsStF B (w.setCell p u) v s := by
  obtain ⟨es, E, h1, h2, hf, h3, h4⟩ := h
  refine ⟨es, E, h1, h2.setCell hf hp u, hf, fun e he => ?_, h4⟩
  obtain ⟨l, f1, f2, f3⟩ := h3 e he
  exact ⟨⟨l.p.setCell f1 hp u, l.i.setCell f2 hp u, l.s.setCell f3 hp u⟩, f1, f2, f3⟩
theorem RepsStF.nil (B : Nat) (w : World) (now : Int) : RepsStF B w (stoV now (.slice none 0 0)) ⟨now, []⟩ := ⟨_, [], rfl, RowAt.nil _ _ _, From.nil _, fun e he => by simp at he, rfl⟩
theorem Fin.store {w wr : World} {now : Int} {c : Cmd} {F : List Ent} {D B : Nat} {es : Value} (h : Fin w now c F D B es wr) (hn : F.length ≤ 1048576) (hs : ∀ e ∈ F, e.kv.x.size ≤ 1048576) : RepsStF w.heap.size wr (stoV now es) ⟨now, F.map (·.kv)⟩ := by
  refine ⟨es, F, rfl, RowAt.ofOwn lenE h.own (by omega), From.own h.own, fun e he => ?_, rfl⟩
  rcases h.lists e he with h1 | ⟨l, f1, f2, f3⟩
  · have h2 := hs e he
    unfold Val.size at h2
    exact ⟨h1.lists (by omega) (by omega) (by omega), From.own h1.p, From.own h1.i, From.own h1.s⟩
  · exact ⟨l, f1.mono h.hB, f2.mono h.hB, f3.mono h.hB⟩
theorem OkKs.sizes {now : Int} {L : List Kv} (h : OkKs now L) : L.length ≤ 1048576 ∧ ∀ e ∈ L, e.x.size ≤ 1048576 :=
  ⟨by have := h.len; omega, fun e he => by have := (wrong_iff.1 (h.ok e he)).2.1.size; omega⟩

/-- What store.Apply answers: the store behind the command, the reply, the error. -/
def ApplyOk (s : Sto) (time : Int) (c : Cmd) : Prop :=
  ∀ (W : World) (v : Value), RepsSt W v s → Calls Tryz.prog 17 #[v, .int .i64 time, c.v] W fun e w' => ∃ v' u, e = .returned (.tuple #[v', u, .int .i64 (refS s time c)]) ∧ RepsStF W.heap.size w' v' (applyS s time c) ∧ RepRF W.heap.size w' u (applyR s time c) ∧ Below W.heap.size W w'

theorem four_new (w : World) (o0 o1 o2 o3 : Obj) : let V := (((w.alloc o0).alloc o1).alloc o2).alloc o3; V.heap[w.heap.size]? = some o0 ∧ V.heap[w.heap.size + 1]? = some o1 ∧ V.heap[w.heap.size + 2]? = some o2 ∧ V.heap[w.heap.size + 3]? = some o3 ∧ Below w.heap.size w V ∧ V.heap.size = w.heap.size + 4 := by
  intro V
  obtain ⟨a, b⟩ := two_new w o0 o1
  obtain ⟨c, d⟩ := two_new ((w.alloc o0).alloc o1) o2 o3
  have hz : ((w.alloc o0).alloc o1).heap.size = w.heap.size + 2 := by simp
  rw [hz] at c d
  have hb := (balloc ((w.alloc o0).alloc o1) o2).alloc (by simp) o3
  exact ⟨(hb.block _ (by omega)).trans a, (hb.block _ (by omega)).trans b, c, d, ((balloc w o0).alloc (by simp) o1).trans (hb.mono (by omega)), by simp [V]⟩

set_option maxHeartbeats 4000000 in
theorem apply_refused (s : Sto) (time : Int) (c : Cmd) (h0 : refS s time c ≠ 0) : ApplyOk s time c := by
  intro w v h
  have hR := fun W (hb : Below w.heap.size w W) => refusalS_any v s time c W (h.below hb)
  have hS : applyS s time c = ⟨0, []⟩ := by rw [applyS, if_pos h0]
  have hP : applyR s time c = {} := by rw [applyR, if_pos h0]
  rw [hS, hP]
  obtain ⟨es, E, rfl, hrow, -, -⟩ := h
  obtain ⟨-, ea, ec, rfl, -⟩ := hrow
  obtain ⟨F, hF⟩ : ∃ F, refS s time c = F := ⟨_, rfl⟩
  rw [hF] at h0 hR ⊢
  clear hF hS hP
  obtain ⟨k, key, fld, txt, n⟩ := c
  obtain ⟨now, L⟩ := s
  simp only at hR ⊢
  obtain ⟨n0, n1, n2, n3, hB0, hs0⟩ := four_new w (stoO now (.slice ea E.length ec)) (cmdO0 k key fld txt n) (stoO 0 (.slice none 0 0)) (.cells #[.int .i64 0, .string ⟨#[]⟩, .int .i64 0, .slice none 0 0] 32)
  have hne : (F != 0) = true := by simpa using h0
  have HR : Hid (∀ W, Below w.heap.size w W → Calls Tryz.prog 38 #[stoV now (.slice ea E.length ec), .int .i64 time, cmdV k key fld txt n] W fun e w' => e = .returned (.int .i64 F) ∧ Below W.heap.size W w') := hR
  clear hR h0
  generalize E.length = m at *
  go_enter Tryz.func17, Tryz.ntmps17
  go_upto_region 1 with fail
  generalize (((w.alloc (stoO now (.slice ea m ec))).alloc (cmdO0 k key fld txt n)).alloc (stoO 0 (.slice none 0 0))).alloc (.cells #[.int .i64 0, .string ⟨#[]⟩, .int .i64 0, .slice none 0 0] 32) = V at n0 n1 n2 n3 hB0 hs0 ⊢
  obtain ⟨c0, f0⟩ := cellsB n0
  obtain ⟨c1, f1⟩ := cellsB n1
  have HN : Hid (V.heap[w.heap.size + 2]? = some (stoO 0 (.slice none 0 0)) ∧ V.heap[w.heap.size + 3]? = some (.cells #[.int .i64 0, .string ⟨#[]⟩, .int .i64 0, .slice none 0 0] 32 (0, 0)) ∧ Below w.heap.size w V) := ⟨n2, n3, hB0⟩
  clear n0 n1 n2 n3 hB0 hs0
  go_wp2_with fail
  refine (HR.out _ HN.out.2.2).mono ?_
  rintro e w1 ⟨rfl, hb1⟩
  have n2 := (hb1.block _ (lt_at HN.out.1)).trans HN.out.1
  have n3 := (hb1.block _ (lt_at HN.out.2.1)).trans HN.out.2.1
  have HB := hideE (bstep HN.out.2.2 hb1)
  obtain ⟨x2, y2⟩ := cellsB n2
  obtain ⟨x3, y3⟩ := cellsB n3
  have l2 := lt_at n2
  have l3 := lt_at n3
  clear c0 f0 c1 f1 n2 n3 hb1 HN
  go_wp2_with fail
  refine bodyPost_ret (v := .tuple #[stoV 0 (.slice none 0 0), repV 0 ⟨#[]⟩ 0 (.slice none 0 0), .int .i64 F]) (by simp [results, Tryz.results17, go_sem, x2, x3]) rfl ⟨_, _, rfl, RepsStF.nil _ _ _, ⟨_, rfl, RowAt.nil _ _ _, From.nil _⟩, ?_⟩
  (iterate 6 (refine Below.setCell ?_ (by simp; try omega) _))
  exact HB.out
theorem RepRF.nilR (B : Nat) (w : World) (r : Rep) (h : r.list = []) : RepRF B w (repV r.code r.text r.n (.slice none 0 0)) r := ⟨_, rfl, by rw [h]; exact RowAt.nil _ _ _, From.nil _⟩

theorem ayEnd {w V : World} {B b2 b3 : Nat} {v ls : Value} {s : Sto} {r : Rep} {f : Int} (hB : w.heap.size ≤ B) (h2 : b2 < B) (h3 : b3 < B) (hw2 : w.heap.size ≤ b2) (hw3 : w.heap.size ≤ b3) (hst : RepsStF B V v s) (hr : RowAt 1 encI V ls r.list) (hf : From B ls) (hb : Below w.heap.size w V) (u0 u1 u2 u3 u4 u5 : Value) :
    ∃ v' u, Ending.returned (.tuple #[v, repV r.code r.text r.n ls, .int .i64 f]) = .returned (.tuple #[v', u, .int .i64 f]) ∧ RepsStF w.heap.size ((((((V.setCell ⟨b2, 0, none⟩ u0).setCell ⟨b2, 1, none⟩ u1).setCell ⟨b3, 0, none⟩ u2).setCell ⟨b3, 1, none⟩ u3).setCell ⟨b3, 2, none⟩ u4).setCell ⟨b3, 3, none⟩ u5).drew v' s ∧
      RepRF w.heap.size ((((((V.setCell ⟨b2, 0, none⟩ u0).setCell ⟨b2, 1, none⟩ u1).setCell ⟨b3, 0, none⟩ u2).setCell ⟨b3, 1, none⟩ u3).setCell ⟨b3, 2, none⟩ u4).setCell ⟨b3, 3, none⟩ u5).drew u r ∧
      Below w.heap.size w ((((((V.setCell ⟨b2, 0, none⟩ u0).setCell ⟨b2, 1, none⟩ u1).setCell ⟨b3, 0, none⟩ u2).setCell ⟨b3, 1, none⟩ u3).setCell ⟨b3, 2, none⟩ u4).setCell ⟨b3, 3, none⟩ u5).drew := by
  have hs6 := (((((hst.setCell (p := ⟨b2, 0, none⟩) h2 u0).setCell (p := ⟨b2, 1, none⟩) h2 u1).setCell (p := ⟨b3, 0, none⟩) h3 u2).setCell (p := ⟨b3, 1, none⟩) h3 u3).setCell (p := ⟨b3, 2, none⟩) h3 u4).setCell (p := ⟨b3, 3, none⟩) h3 u5
  have hr6 := (((((hr.setCell hf (p := ⟨b2, 0, none⟩) h2 u0).setCell hf (p := ⟨b2, 1, none⟩) h2 u1).setCell hf (p := ⟨b3, 0, none⟩) h3 u2).setCell hf (p := ⟨b3, 1, none⟩) h3 u3).setCell hf (p := ⟨b3, 2, none⟩) h3 u4).setCell hf (p := ⟨b3, 3, none⟩) h3 u5
  have hb6 := (((((hb.setCell (p := ⟨b2, 0, none⟩) hw2 u0).setCell (p := ⟨b2, 1, none⟩) hw2 u1).setCell (p := ⟨b3, 0, none⟩) hw3 u2).setCell (p := ⟨b3, 1, none⟩) hw3 u3).setCell (p := ⟨b3, 2, none⟩) hw3 u4).setCell (p := ⟨b3, 3, none⟩) hw3 u5
  generalize (((((V.setCell ⟨b2, 0, none⟩ u0).setCell ⟨b2, 1, none⟩ u1).setCell ⟨b3, 0, none⟩ u2).setCell ⟨b3, 1, none⟩ u3).setCell ⟨b3, 2, none⟩ u4).setCell ⟨b3, 3, none⟩ u5 = Z at *
  exact ⟨_, _, rfl, (hs6.below (Below.refl _ _).drew).mono hB, ⟨ls, rfl, hr6.below (Below.refl _ _).drew, hf.mono hB⟩, hb6.drew⟩

set_option maxHeartbeats 8000000 in
theorem apply_done (s : Sto) (time : Int) (c : Cmd) (h0 : refS s time c = 0) : ApplyOk s time c := by
  intro w v h
  obtain ⟨hOS, hT, hCF⟩ := refS_ok.1 h0
  have hM := hOS.max0 hT.2
  have hR := fun W (hb : Below w.heap.size w W) => refusalS_any v s time c W (h.below hb)
  have hok := hOS.kept time
  have hans := okKs_ans hM.1 hok hCF
  have hS : applyS s time c = ⟨max s.now time, (ansK (max s.now time) c (keptK (max s.now time) s.es)).1⟩ := by rw [applyS, if_neg (by simp [h0])]
  have hP : applyR s time c = (ansK (max s.now time) c (keptK (max s.now time) s.es)).2 := by rw [applyR, if_neg (by simp [h0])]
  rw [hS, hP]
  rw [h0] at hR ⊢
  obtain ⟨es, E, rfl, hrow, hls, hE⟩ := h
  have hrow0 := hrow
  obtain ⟨-, ea, ec, rfl, -⟩ := hrow0
  have hszE : ∀ e ∈ E, e.kv.x.size ≤ 1048576 := fun e he => by
    have := hOS.ok e.kv (by rw [← hE]; exact List.mem_map.2 ⟨e, he, rfl⟩)
    have := (wrong_iff.1 this).2.1.size
    omega
  have hlenE : E.length ≤ 1048576 := by have := hOS.len; rw [← hE] at this; simp at this; omega
  have hriE : E.Pairwise (fun a b => ltK a.kv b.kv = true) := by have := hOS.rise; rw [← hE, Rise, List.pairwise_map] at this; exact this
  have hBG := fun W (hb : Below w.heap.size w W) => begin_core s.now time ea ec E c W (hrow.below hb) (fun e he => (hls e he).below hb) hszE hlenE hriE
  have hkE : ∀ F : List Ent, F.map (·.kv) = (E.map (·.kv)).filter (fun e => !goneB (max s.now time) e) → F.map (·.kv) = keptK (max s.now time) s.es := fun F h => by rw [h, hE]; rfl
  have HKE := hideE hkE
  generalize max s.now time = M at *
  obtain ⟨AA, hAA⟩ : ∃ AA, ansK M c (keptK M s.es) = AA := ⟨_, rfl⟩
  have HAA := hideE hAA
  rw [hAA] at hans ⊢
  clear hAA hS hP hrow hls hszE hriE hkE h0
  obtain ⟨k, key, fld, txt, n⟩ := c
  obtain ⟨now, L⟩ := s
  simp only at hR hBG ⊢
  obtain ⟨n0, n1, n2, n3, hB0, hs0⟩ := four_new w (stoO now (.slice ea E.length ec)) (cmdO0 k key fld txt n) (stoO 0 (.slice none 0 0)) (.cells #[.int .i64 0, .string ⟨#[]⟩, .int .i64 0, .slice none 0 0] 32)
  have HR : Hid (∀ W, Below w.heap.size w W → Calls Tryz.prog 38 #[stoV now (.slice ea E.length ec), .int .i64 time, cmdV k key fld txt n] W fun e w' => e = .returned (.int .i64 0) ∧ Below W.heap.size W w') := hR
  have HBG := hideE hBG
  have HOK := hideE hok
  have HAN := hideE hans
  have HM := hideE hM
  have HCF := hideE hCF
  clear hR hBG hok hans hM hCF hE hlenE hOS hT
  generalize E.length = m at *
  go_enter Tryz.func17, Tryz.ntmps17
  go_upto_region 1 with fail
  generalize (((w.alloc (stoO now (.slice ea m ec))).alloc (cmdO0 k key fld txt n)).alloc (stoO 0 (.slice none 0 0))).alloc (.cells #[.int .i64 0, .string ⟨#[]⟩, .int .i64 0, .slice none 0 0] 32) = V at n0 n1 n2 n3 hB0 hs0 ⊢
  obtain ⟨c0, f0⟩ := cellsB n0
  obtain ⟨c1, f1⟩ := cellsB n1
  have HN : Hid (V.heap[w.heap.size]? = some (stoO now (.slice ea m ec)) ∧ V.heap[w.heap.size + 1]? = some (cmdO0 k key fld txt n) ∧ V.heap[w.heap.size + 2]? = some (stoO 0 (.slice none 0 0)) ∧ V.heap[w.heap.size + 3]? = some (.cells #[.int .i64 0, .string ⟨#[]⟩, .int .i64 0, .slice none 0 0] 32 (0, 0)) ∧ Below w.heap.size w V) := ⟨n0, n1, n2, n3, hB0⟩
  clear n0 n1 n2 n3 hB0 hs0
  go_wp2_with fail
  refine (HR.out _ HN.out.2.2.2.2).mono ?_
  rintro e w1 ⟨rfl, hb1⟩
  have HN1 : Hid (w1.heap[w.heap.size]? = some (stoO now (.slice ea m ec)) ∧ w1.heap[w.heap.size + 1]? = some (cmdO0 k key fld txt n) ∧ w1.heap[w.heap.size + 2]? = some (stoO 0 (.slice none 0 0)) ∧ w1.heap[w.heap.size + 3]? = some (.cells #[.int .i64 0, .string ⟨#[]⟩, .int .i64 0, .slice none 0 0] 32 (0, 0)) ∧ Below w.heap.size w w1) :=
    ⟨(hb1.block _ (lt_at HN.out.1)).trans HN.out.1, (hb1.block _ (lt_at HN.out.2.1)).trans HN.out.2.1, (hb1.block _ (lt_at HN.out.2.2.1)).trans HN.out.2.2.1, (hb1.block _ (lt_at HN.out.2.2.2.1)).trans HN.out.2.2.2.1, bstep HN.out.2.2.2.2 hb1⟩
  clear c0 f0 c1 f1 hb1 HN
  obtain ⟨c0, f0⟩ := cellsB HN1.out.1
  obtain ⟨c1, f1⟩ := cellsB HN1.out.2.1
  go_wp2_with fail
  refine (HBG.out _ HN1.out.2.2.2.2).mono ?_
  rintro e w2 ⟨D, rfl, F, es, p, hd, hF, hpt⟩
  obtain ⟨hit, hh⟩ : ∃ h, hitB (fun e : Ent => cmpS e.kv.key key) F p = h := ⟨_, rfl⟩
  rw [hh] at hd
  have hF2 := HKE.out F hF
  have HA := hideE (answer_any w1 w2 M p ⟨k, key, fld, txt, n⟩ hit F D es hd hpt hh (by rw [hF2]; exact HOK.out) HCF.out HM.out.1 HM.out.2)
  have HF2 := hideE hF2
  have hl1 := lt_at HN1.out.2.2.2.1
  clear c0 f0 c1 f1 hd hF hpt hh hF2
  go_wp2_with fail
  refine HA.out.mono ?_
  rintro e w3 ⟨B, rv, rfl, hrv, -, F', es', hf, hF'⟩
  rw [HF2.out, HAA.out] at hrv hF'
  have hsz := HAN.out.sizes
  have hst := hf.store (by rw [← hF'] at hsz; simpa using hsz.1) (fun e he => hsz.2 _ (by rw [← hF']; exact List.mem_map.2 ⟨e, he, rfl⟩))
  rw [hF'] at hst
  obtain ⟨ls, rfl, hrl, hrf⟩ := hrv.mono hf.hB
  obtain ⟨la, lc, rfl⟩ : ∃ la lc, ls = .slice la AA.2.list.length lc := by obtain ⟨-, a, c, h, -⟩ := hrl; exact ⟨a, c, h⟩
  obtain ⟨at2, fd2, hD⟩ := hf.deed
  obtain ⟨ea2, ec2, rfl⟩ := ownsRow_shape hf.own
  have HST := hideE hst
  have HRL := hideE (show RowAt 1 encI w3 (.slice la AA.2.list.length lc) AA.2.list ∧ From w1.heap.size (.slice la AA.2.list.length lc) from ⟨hrl, hrf⟩)
  have hbel := hf.below
  have HB3 := hideE (show Below w.heap.size w w3 from HN1.out.2.2.2.2.trans (hbel.mono HN1.out.2.2.2.2.size))
  have m2 := (hbel.block _ (lt_at HN1.out.2.2.1)).trans HN1.out.2.2.1
  have m3 := (hbel.block _ (lt_at HN1.out.2.2.2.1)).trans HN1.out.2.2.2.1
  have hbig : w.heap.size + 4 ≤ w1.heap.size := by omega
  have hbig3 : w1.heap.size ≤ w3.heap.size := hbel.size
  have hDw := hf.bD
  generalize F'.length = m2' at *
  clear hrl hrf hst hf hF' hbel hsz HA HF2 HKE HBG HR HN1
  go_upto_region 6 with fail
  have n4 := alloc_at w3 (repO AA.2.code AA.2.text AA.2.n (.slice la AA.2.list.length lc))
  have hb4 := balloc w3 (repO AA.2.code AA.2.text AA.2.n (.slice la AA.2.list.length lc))
  have m2 := (hb4.block _ (lt_at m2)).trans m2
  have m3 := (hb4.block _ (lt_at m3)).trans m3
  have hD := (hb4.block _ (lt_at hD)).trans hD
  have HST4 := hideE (HST.out.below hb4)
  have HRL4 := hideE (show RowAt 1 encI (w3.alloc (repO AA.2.code AA.2.text AA.2.n (.slice la AA.2.list.length lc))) (.slice la AA.2.list.length lc) AA.2.list ∧ From w1.heap.size (.slice la AA.2.list.length lc) from ⟨HRL.out.1.below hb4, HRL.out.2⟩)
  have HB4 := hideE (bstep HB3.out hb4)
  clear HST HRL HB3 hb4
  generalize w3.alloc (repO AA.2.code AA.2.text AA.2.n (.slice la AA.2.list.length lc)) = V4 at *
  generalize w3.heap.size = b4 at *
  obtain ⟨x2, y2⟩ := cellsB m2
  obtain ⟨x3, y3⟩ := cellsB m3
  obtain ⟨x4, y4⟩ := cellsB n4
  obtain ⟨xD, yD⟩ := cellsB hD
  have l2 := lt_at m2
  have l3 := lt_at m3
  have l4 := lt_at n4
  have lD := lt_at hD
  obtain ⟨t0, t1⟩ : V4.cell? ⟨D, 0, none⟩ = some (.int .i64 M) ∧ V4.cell? ⟨D, 1, none⟩ = some (.slice ea2 m2' ec2) := ⟨xD 0, xD 1⟩
  obtain ⟨r0, r1, r2, r3⟩ : V4.cell? ⟨b4, 0, none⟩ = some (.int .i64 AA.2.code) ∧ V4.cell? ⟨b4, 1, none⟩ = some (.string AA.2.text) ∧ V4.cell? ⟨b4, 2, none⟩ = some (.int .i64 AA.2.n) ∧ V4.cell? ⟨b4, 3, none⟩ = some (.slice la AA.2.list.length lc) := ⟨x4 0, x4 1, x4 2, x4 3⟩
  clear m2 m3 n4 hD xD x4
  generalize hq3 : w.heap.size + 1 + 1 + 1 = b3 at *
  generalize hq2 : w.heap.size + 1 + 1 = b2 at *
  have z1 : ¬ D = b2 := by omega
  have z2 : ¬ D = b3 := by omega
  have z3 : ¬ b4 = b2 := by omega
  have z4 : ¬ b4 = b3 := by omega
  have y1 : ¬ b2 = D := by omega
  have y2' : ¬ b3 = D := by omega
  have y3' : ¬ b2 = b4 := by omega
  have y4' : ¬ b3 = b4 := by omega
  have z5 : ¬ b3 = b2 := by omega
  have z6 : ¬ b2 = b3 := by omega
  have HQ := hideE (show w.heap.size ≤ w1.heap.size ∧ b2 < w1.heap.size ∧ b3 < w1.heap.size ∧ w.heap.size ≤ b2 ∧ w.heap.size ≤ b3 from ⟨by omega, by omega, by omega, by omega, by omega⟩)
  clear hq2 hq3
  refine region_but 8 8 (fun W => W.cell? ⟨D, 0, none⟩ = some (.int .i64 M) ∧ W.cell? ⟨D, 1, none⟩ = some (.slice ea2 m2' ec2) ∧ W.cell? ⟨b4, 0, none⟩ = some (.int .i64 AA.2.code) ∧ W.cell? ⟨b4, 1, none⟩ = some (.string AA.2.text) ∧ W.cell? ⟨b4, 2, none⟩ = some (.int .i64 AA.2.n) ∧ W.cell? ⟨b4, 3, none⟩ = some (.slice la AA.2.list.length lc)) (by kernel_rfl) (by kernel_rfl) (by (try dsimp only); go_keep) (fun hHeld => ?_)
  refine but_take (i := 0) (v := ?_) rfl (by kernel_rfl) (by kernel_rfl) (by kernel_rfl) (by kernel_rfl) (by decide) (fun _ _ _ h => h) (Or.inl ⟨by rfl, ?_⟩) (by assumption) ?_
  rotate_left
  · (intro w hSw; (try dsimp only at hSw); go_simp <;> with_reducible rfl)
  try simp only [Act.put, List.setIfInBounds_toArray, List.set_cons_zero, List.set_cons_succ]
  refine but_take (i := 1) (v := ?_) rfl (by kernel_rfl) (by kernel_rfl) (by kernel_rfl) (by kernel_rfl) (by decide) (fun _ _ _ h => h) (Or.inl ⟨by rfl, ?_⟩) (by assumption) ?_
  rotate_left
  · (intro w hSw; (try dsimp only at hSw); go_simp <;> with_reducible rfl)
  try simp only [Act.put, List.setIfInBounds_toArray, List.set_cons_zero, List.set_cons_succ]
  refine but_take (i := 2) (v := ?_) rfl (by kernel_rfl) (by kernel_rfl) (by kernel_rfl) (by kernel_rfl) (by decide) (fun _ _ _ h => h) (Or.inl ⟨by rfl, ?_⟩) (by assumption) ?_
  rotate_left
  · (intro w hSw; (try dsimp only at hSw); go_simp <;> with_reducible rfl)
  try simp only [Act.put, List.setIfInBounds_toArray, List.set_cons_zero, List.set_cons_succ]
  refine but_take (i := 3) (v := ?_) rfl (by kernel_rfl) (by kernel_rfl) (by kernel_rfl) (by kernel_rfl) (by decide) (fun _ _ _ h => h) (Or.inl ⟨by rfl, ?_⟩) (by assumption) ?_
  rotate_left
  · (intro w hSw; (try dsimp only at hSw); go_simp <;> with_reducible rfl)
  try simp only [Act.put, List.setIfInBounds_toArray, List.set_cons_zero, List.set_cons_succ]
  refine but_take (i := 4) (v := ?_) rfl (by kernel_rfl) (by kernel_rfl) (by kernel_rfl) (by kernel_rfl) (by decide) (fun _ _ _ h => h) (Or.inl ⟨by rfl, ?_⟩) (by assumption) ?_
  rotate_left
  · (intro w hSw; (try dsimp only at hSw); go_simp <;> with_reducible rfl)
  try simp only [Act.put, List.setIfInBounds_toArray, List.set_cons_zero, List.set_cons_succ]
  refine but_step (i := 5) (by kernel_rfl) rfl (fun K hK => ?_)
  (go_simp)
  refine hK.out.1 _ _ (by (try dsimp only); go_keep) (fun hHeld => ?_)
  clear hK K
  try simp only [Act.put, List.setIfInBounds_toArray, List.set_cons_zero, List.set_cons_succ]
  refine but_step (i := 6) (by kernel_rfl) rfl (fun K hK => ?_)
  (go_simp)
  refine hK.out.1 _ _ (by (try dsimp only); go_keep) (fun hHeld => ?_)
  clear hK K
  try simp only [Act.put, List.setIfInBounds_toArray, List.set_cons_zero, List.set_cons_succ]
  refine but_step (i := 7) (by kernel_rfl) rfl (fun K hK => ?_)
  (go_simp)
  refine hK.out.1 _ _ (by (try dsimp only); go_keep) (fun hHeld => ?_)
  clear hK K
  try simp only [Act.put, List.setIfInBounds_toArray, List.set_cons_zero, List.set_cons_succ]
  refine but_done (by kernel_rfl) ?_
  clear hHeld
  go_wp2_with fail
  refine bodyPost_ret (v := .tuple #[stoV M (.slice ea2 m2' ec2), repV AA.2.code AA.2.text AA.2.n (.slice la AA.2.list.length lc), .int .i64 0]) (by simp [results, Tryz.results17, go_sem, x2, x3]) rfl ?_
  exact ayEnd HQ.out.1 HQ.out.2.1 HQ.out.2.2.1 HQ.out.2.2.2.1 HQ.out.2.2.2.2 HST4.out HRL4.out.1 HRL4.out.2 HB4.out _ _ _ _ _ _
theorem apply_any (s : Sto) (time : Int) (c : Cmd) : ApplyOk s time c := by
  by_cases h : refS s time c = 0
  · exact apply_done s time c h
  · exact apply_refused s time c h
end Go.Proofs.YtfnephnecighaaaGreat
