/- What a deed answers: (*store.deed).answer. -/
import Derived.Test.YtfnephnecighaaaGreatCh
namespace Go.Proofs.YtfnephnecighaaaGreat
open Go.RowKit
set_option linter.unusedVariables false
set_option maxRecDepth 100000

theorem ansK_22 {now : Int} {c : Cmd} {L : List Kv} (h : c.k = 22) : ansK now c L = (L, { list := L.map (·.key) }) := by rw [ansK, if_pos h]
theorem ansK_19 {now : Int} {c : Cmd} {L : List Kv} (h : c.k = 19) : ansK now c L = if hasK c.key L = true then (cutAt L (atK c.key L), { n := 1 }) else (L, {}) := by rw [ansK, if_neg (by omega), if_pos h]
theorem ansK_20 {now : Int} {c : Cmd} {L : List Kv} (h : c.k = 20) : ansK now c L = expireK now c L := by rw [ansK, if_neg (by omega), if_neg (by omega), if_pos h]
theorem ansK_21 {now : Int} {c : Cmd} {L : List Kv} (h : c.k = 21) : ansK now c L = (L, lifeRep now (hasK c.key L) (getK c.key L).til) := by rw [ansK, if_neg (by omega), if_neg (by omega), if_neg (by omega), if_pos h]

set_option maxHeartbeats 8000000 in
theorem answer_any (w wr : World) (now : Int) (p : Nat) (c : Cmd) (hit : Bool) (F : List Ent) (D : Nat) (es : Value) (h : Deed w now c (p : Int) hit F D es wr) (hpt : Parts (fun e : Ent => cmpS e.kv.key c.key) F p) (hh : hitB (fun e : Ent => cmpS e.kv.key c.key) F p = hit)
    (hok : OkKs now (F.map (·.kv))) (hc : c.fault = 0) (hn0 : 0 ≤ now) (hn1 : now ≤ 1073741824) :
    Calls Tryz.prog 40 #[.pointer (some ⟨D, 0, none⟩)] wr fun e w' => ∃ B, Changed w wr es.ownBlock now c (ansK now c (F.map (·.kv))) D B e w' := by
  obtain ⟨k1, k2, k3, k4⟩ := found_kv hok.rise hpt
  rw [hh] at k2 k3 k4
  have hn12 : F.length ≤ 12 := by have := hok.len; simpa using this
  have hbl := balloc wr zeroR
  have nx := alloc_at wr zeroR
  have hd := h.mid hbl
  have hbw : w.heap.size ≤ wr.heap.size := h.below.size
  have hDb := lt_at h.deed
  have hVs : (wr.alloc zeroR).heap.size = wr.heap.size + 1 := by simp
  have HK := hideE (show atK c.key (F.map (·.kv)) = p ∧ hasK c.key (F.map (·.kv)) = hit from ⟨k1, k2⟩)
  have HK3 := hideE k3
  have HK4 := hideE k4
  have hsel : c.k = 22 ∨ c.k = 19 ∨ c.k = 20 ∨ c.k = 21 ∨ ofStoreB c.k = false := by
    by_cases h1 : c.k = 22; exact .inl h1
    by_cases h2 : c.k = 19; exact .inr (.inl h2)
    by_cases h3 : c.k = 20; exact .inr (.inr (.inl h3))
    by_cases h4 : c.k = 21; exact .inr (.inr (.inr (.inl h4)))
    exact .inr (.inr (.inr (.inr (by simp [ofStoreB]; omega))))
  obtain ⟨k, key, fld, txt, n⟩ := c
  simp only at hsel
  have HBL := hideE hbl
  clear h hbl k1 k2 k3 k4
  rcases hsel with rfl | rfl | rfl | rfl | hs
  · have hCALL := keys_any w _ now p ⟨22, key, fld, txt, n⟩ hit F D es hd (by omega)
    go_enter Tryz.func40, Tryz.ntmps40
    go_upto_region 1 with fail
    generalize wr.alloc zeroR = V at nx hd hVs hCALL HBL ⊢
    generalize hb : wr.heap.size = b at nx hbw hDb hVs ⊢
    obtain ⟨q0, f0⟩ := cellsB nx
    obtain ⟨q1, f1⟩ := cellsB hd.deed
    have l0 := lt_at nx
    have l1 := lt_at hd.deed
    have hbD : b ≠ D := by omega
    have hbo := own_ne hd.own nx (by decide)
    have HNX := hideE nx
    have HD := hideE hd
    have HC := hideE hCALL
    have hwr : wr.heap.size ≤ b := by omega
    clear hd nx hCALL
    go_wp2_with fail
    refine HC.out.mono ?_
    rintro e w2 ⟨rv, rfl, hown, hb2⟩
    obtain ⟨la, lc, rfl⟩ := ownsRow_shape hown
    have n0 := (hb2.block b l0).trans HNX.out
    have hlen : (F.map (·.kv.key)).length = F.length := by simp
    have hrow : RowAt 1 encI w2 (.slice la F.length lc) (F.map (·.kv.key)) := RowAt.ofOwn lenI (by rw [hlen]; exact hown) (by omega)
    have HFIN := hideE (ch_fin (ob := es.ownBlock) (A := ansK now ⟨22, key, fld, txt, n⟩ (F.map (·.kv))) (B := b + 1) (r := { list := F.map (·.kv.key) }) (ls := .slice la F.length lc) ((HD.out.mid hb2).fin (by omega)) n0 hbw (by omega) ((Kept.of hb2).pre HBL.out) hwr hrow ((From.own hown).mono (by omega)) ((ansK_22 rfl).trans (by simp)) rfl)
    clear q0 f0 q1 f1 hown hrow hlen
    obtain ⟨x0, x1⟩ := cellsB n0
    have lx := lt_at n0
    clear n0 hb2
    go_wp2_with fail
    refine bodyPost_ret (v := repV 0 ⟨#[]⟩ 0 (.slice la F.length lc)) (by simp [results, Tryz.results40, go_sem, x0]) rfl ⟨_, HFIN.out⟩
  · cases hit
    · have hCALL := remove_none w _ now p ⟨19, key, fld, txt, n⟩ F D es hd
      go_enter Tryz.func40, Tryz.ntmps40
      go_upto_region 1 with fail
      generalize wr.alloc zeroR = V at nx hd hVs hCALL HBL ⊢
      generalize hb : wr.heap.size = b at nx hbw hDb hVs ⊢
      obtain ⟨q0, f0⟩ := cellsB nx
      obtain ⟨q1, f1⟩ := cellsB hd.deed
      have l0 := lt_at nx
      have l1 := lt_at hd.deed
      have hbD : b ≠ D := by omega
      have hbo := own_ne hd.own nx (by decide)
      have HNX := hideE nx
      have HD := hideE hd
      have HC := hideE hCALL
      have hwr : wr.heap.size ≤ b := by omega
      clear hd nx hCALL
      go_wp2_with fail
      refine HC.out.mono ?_
      rintro e w2 ⟨rfl, hb2⟩
      have n0 := (hb2.block b l0).trans HNX.out
      have HFIN := hideE (ch_fin (ob := es.ownBlock) (A := ansK now ⟨19, key, fld, txt, n⟩ (F.map (·.kv))) (B := b + 1) (r := {}) (ls := .slice none 0 0) ((HD.out.mid hb2).fin (by omega)) n0 hbw (by omega) ((Kept.of hb2).pre HBL.out) hwr (RowAt.nil _ _ _) (From.nil _) ((ansK_19 rfl).trans (by rw [if_neg (by rw [HK.out.2]; simp)])) rfl)
      clear q0 f0 q1 f1
      obtain ⟨x0, x1⟩ := cellsB n0
      have lx := lt_at n0
      clear n0
      go_wp2_with fail
      refine bodyPost_ret (v := repV 0 ⟨#[]⟩ 0 (.slice none 0 0)) (by simp [results, Tryz.results40, go_sem, x0]) rfl ⟨_, HFIN.out⟩
    · have hpl := HK4.out rfl
      have hCALL := remove_some w _ now p ⟨19, key, fld, txt, n⟩ F D es hd hpl (by omega)
      go_enter Tryz.func40, Tryz.ntmps40
      go_upto_region 1 with fail
      generalize wr.alloc zeroR = V at nx hd hVs hCALL HBL ⊢
      generalize hb : wr.heap.size = b at nx hbw hDb hVs ⊢
      obtain ⟨q0, f0⟩ := cellsB nx
      obtain ⟨q1, f1⟩ := cellsB hd.deed
      have l0 := lt_at nx
      have l1 := lt_at hd.deed
      have hbD : b ≠ D := by omega
      have hbo := own_ne hd.own nx (by decide)
      have HNX := hideE nx
      have HD := hideE hd
      have HC := hideE hCALL
      have hwr : wr.heap.size ≤ b := by omega
      clear hd nx hCALL
      go_wp2_with fail
      refine HC.out.mono ?_
      rintro e w2 ⟨rfl, r', hd2, hK⟩
      have n0 := (hK.block b l0 hbD (fun e => hbo e.symm)).trans HNX.out
      have HFIN := hideE (ch_fin (ob := es.ownBlock) (A := ansK now ⟨19, key, fld, txt, n⟩ (F.map (·.kv))) (B := b + 1) (r := { n := 1 }) (ls := .slice none 0 0) (hd2.fin (by omega)) n0 hbw (by omega) (hK.pre HBL.out) hwr (RowAt.nil _ _ _) (From.nil _) ((ansK_19 rfl).trans (by rw [if_pos HK.out.2])) (by rw [map_cut, HK.out.1]))
      clear q0 f0 q1 f1
      obtain ⟨x0, x1⟩ := cellsB n0
      have lx := lt_at n0
      clear n0
      go_wp2_with fail
      refine bodyPost_ret (v := repV 0 ⟨#[]⟩ 1 (.slice none 0 0)) (by simp [results, Tryz.results40, go_sem, x0]) rfl ⟨_, HFIN.out⟩
  · cases hit
    · have hCALL := expire_none w _ now p ⟨20, key, fld, txt, n⟩ F D es hd
      go_enter Tryz.func40, Tryz.ntmps40
      go_upto_region 1 with fail
      generalize wr.alloc zeroR = V at nx hd hVs hCALL HBL ⊢
      generalize hb : wr.heap.size = b at nx hbw hDb hVs ⊢
      obtain ⟨q0, f0⟩ := cellsB nx
      obtain ⟨q1, f1⟩ := cellsB hd.deed
      have l0 := lt_at nx
      have l1 := lt_at hd.deed
      have hbD : b ≠ D := by omega
      have hbo := own_ne hd.own nx (by decide)
      have HNX := hideE nx
      have HD := hideE hd
      have HC := hideE hCALL
      have hwr : wr.heap.size ≤ b := by omega
      clear hd nx hCALL
      go_wp2_with fail
      refine HC.out.mono ?_
      rintro e w2 ⟨rfl, hb2⟩
      have n0 := (hb2.block b l0).trans HNX.out
      have HFIN := hideE (ch_fin (ob := es.ownBlock) (A := ansK now ⟨20, key, fld, txt, n⟩ (F.map (·.kv))) (B := b + 1) (r := { code := 5 }) (ls := .slice none 0 0) ((HD.out.mid hb2).fin (by omega)) n0 hbw (by omega) ((Kept.of hb2).pre HBL.out) hwr (RowAt.nil _ _ _) (From.nil _) ((ansK_20 rfl).trans (by rw [expireK, if_pos HK.out.2])) rfl)
      clear q0 f0 q1 f1
      obtain ⟨x0, x1⟩ := cellsB n0
      have lx := lt_at n0
      clear n0
      go_wp2_with fail
      refine bodyPost_ret (v := repV 5 ⟨#[]⟩ 0 (.slice none 0 0)) (by simp [results, Tryz.results40, go_sem, x0]) rfl ⟨_, HFIN.out⟩
    · by_cases hbad : n < 1 ∨ 1073741824 - now < n
      · have HBAD := hideE hbad
        have hCALL := expire_bad w _ now p ⟨20, key, fld, txt, n⟩ F D es hd hn0 hn1 hbad
        clear hbad
        go_enter Tryz.func40, Tryz.ntmps40
        go_upto_region 1 with fail
        generalize wr.alloc zeroR = V at nx hd hVs hCALL HBL ⊢
        generalize hb : wr.heap.size = b at nx hbw hDb hVs ⊢
        obtain ⟨q0, f0⟩ := cellsB nx
        obtain ⟨q1, f1⟩ := cellsB hd.deed
        have l0 := lt_at nx
        have l1 := lt_at hd.deed
        have hbD : b ≠ D := by omega
        have hbo := own_ne hd.own nx (by decide)
        have HNX := hideE nx
        have HD := hideE hd
        have HC := hideE hCALL
        have hwr : wr.heap.size ≤ b := by omega
        clear hd nx hCALL
        go_wp2_with fail
        refine HC.out.mono ?_
        rintro e w2 ⟨rfl, hb2⟩
        have n0 := (hb2.block b l0).trans HNX.out
        have HFIN := hideE (ch_fin (ob := es.ownBlock) (A := ansK now ⟨20, key, fld, txt, n⟩ (F.map (·.kv))) (B := b + 1) (r := { code := 2 }) (ls := .slice none 0 0) ((HD.out.mid hb2).fin (by omega)) n0 hbw (by omega) ((Kept.of hb2).pre HBL.out) hwr (RowAt.nil _ _ _) (From.nil _) ((ansK_20 rfl).trans (by rw [expireK, if_neg (by rw [HK.out.2]; simp), if_pos HBAD.out])) rfl)
        clear q0 f0 q1 f1
        obtain ⟨x0, x1⟩ := cellsB n0
        have lx := lt_at n0
        clear n0
        go_wp2_with fail
        refine bodyPost_ret (v := repV 2 ⟨#[]⟩ 0 (.slice none 0 0)) (by simp [results, Tryz.results40, go_sem, x0]) rfl ⟨_, HFIN.out⟩
      · have hpl := HK4.out rfl
        have h34 := HK3.out hpl rfl
        have hCALL := expire_good w _ now p ⟨20, key, fld, txt, n⟩ F D es hd hpl hn0 hn1 (by simp only; omega) (by simp only; omega)
        have HBAD := hideE hbad
        have HE3 := hideE h34
        clear hbad h34
        go_enter Tryz.func40, Tryz.ntmps40
        go_upto_region 1 with fail
        generalize wr.alloc zeroR = V at nx hd hVs hCALL HBL ⊢
        generalize hb : wr.heap.size = b at nx hbw hDb hVs ⊢
        obtain ⟨q0, f0⟩ := cellsB nx
        obtain ⟨q1, f1⟩ := cellsB hd.deed
        have l0 := lt_at nx
        have l1 := lt_at hd.deed
        have hbD : b ≠ D := by omega
        have hbo := own_ne hd.own nx (by decide)
        have HNX := hideE nx
        have HD := hideE hd
        have HC := hideE hCALL
        have hwr : wr.heap.size ≤ b := by omega
        clear hd nx hCALL
        go_wp2_with fail
        refine HC.out.mono ?_
        rintro e w2 ⟨rfl, hd2, hK⟩
        have n0 := (hK.block b l0 hbD (fun e => hbo e.symm)).trans HNX.out
        have HFIN := hideE (ch_fin (ob := es.ownBlock) (A := ansK now ⟨20, key, fld, txt, n⟩ (F.map (·.kv))) (B := b + 1) (r := {}) (ls := .slice none 0 0) (hd2.fin (by omega)) n0 hbw (by omega) (hK.pre HBL.out) hwr (RowAt.nil _ _ _) (From.nil _) ((ansK_20 rfl).trans (by rw [expireK, if_neg (by rw [HK.out.2]; simp), if_neg HBAD.out])) (by rw [map_setE, HK.out.1, HE3.out.1]; simp only [Ent.withTil, HE3.out.2]))
        clear q0 f0 q1 f1
        obtain ⟨x0, x1⟩ := cellsB n0
        have lx := lt_at n0
        clear n0
        go_wp2_with fail
        refine bodyPost_ret (v := repV 0 ⟨#[]⟩ 0 (.slice none 0 0)) (by simp [results, Tryz.results40, go_sem, x0]) rfl ⟨_, HFIN.out⟩
  · cases hit
    · have hCALL := life_none w _ now p ⟨21, key, fld, txt, n⟩ F D es hd
      go_enter Tryz.func40, Tryz.ntmps40
      go_upto_region 1 with fail
      generalize wr.alloc zeroR = V at nx hd hVs hCALL HBL ⊢
      generalize hb : wr.heap.size = b at nx hbw hDb hVs ⊢
      obtain ⟨q0, f0⟩ := cellsB nx
      obtain ⟨q1, f1⟩ := cellsB hd.deed
      have l0 := lt_at nx
      have l1 := lt_at hd.deed
      have hbD : b ≠ D := by omega
      have hbo := own_ne hd.own nx (by decide)
      have HNX := hideE nx
      have HD := hideE hd
      have HC := hideE hCALL
      have hwr : wr.heap.size ≤ b := by omega
      clear hd nx hCALL
      go_wp2_with fail
      refine HC.out.mono ?_
      rintro e w2 ⟨rfl, hb2⟩
      have n0 := (hb2.block b l0).trans HNX.out
      have HFIN := hideE (ch_fin (ob := es.ownBlock) (A := ansK now ⟨21, key, fld, txt, n⟩ (F.map (·.kv))) (B := b + 1) (r := { code := 5 }) (ls := .slice none 0 0) ((HD.out.mid hb2).fin (by omega)) n0 hbw (by omega) ((Kept.of hb2).pre HBL.out) hwr (RowAt.nil _ _ _) (From.nil _) ((ansK_21 rfl).trans (by rw [HK.out.2]; rfl)) rfl)
      clear q0 f0 q1 f1
      obtain ⟨x0, x1⟩ := cellsB n0
      have lx := lt_at n0
      clear n0
      go_wp2_with fail
      refine bodyPost_ret (v := repV 5 ⟨#[]⟩ 0 (.slice none 0 0)) (by simp [results, Tryz.results40, go_sem, x0]) rfl ⟨_, HFIN.out⟩
    · have hpl := HK4.out rfl
      have h34 := HK3.out hpl rfl
      have hw := (wrong_iff.1 (hok.ok F[p].kv (List.mem_map.2 ⟨F[p], List.getElem_mem hpl, rfl⟩))).2.2
      have hCALL := life_some w _ now p ⟨21, key, fld, txt, n⟩ F D es hd hpl hn0 hn1 (by omega) (by omega)
      have HE3 := hideE h34
      have hLR : lifeRep now true F[p].kv.til = { n := (lifeRep now true F[p].kv.til).n } := by unfold lifeRep; by_cases h : F[p].kv.til = 0 <;> simp [h]
      obtain ⟨m, hm⟩ : ∃ m, (lifeRep now true F[p].kv.til).n = m := ⟨_, rfl⟩
      rw [hm] at hCALL hLR
      have HLR := hideE hLR
      clear h34 hw hm hLR
      go_enter Tryz.func40, Tryz.ntmps40
      go_upto_region 1 with fail
      generalize wr.alloc zeroR = V at nx hd hVs hCALL HBL ⊢
      generalize hb : wr.heap.size = b at nx hbw hDb hVs ⊢
      obtain ⟨q0, f0⟩ := cellsB nx
      obtain ⟨q1, f1⟩ := cellsB hd.deed
      have l0 := lt_at nx
      have l1 := lt_at hd.deed
      have hbD : b ≠ D := by omega
      have hbo := own_ne hd.own nx (by decide)
      have HNX := hideE nx
      have HD := hideE hd
      have HC := hideE hCALL
      have hwr : wr.heap.size ≤ b := by omega
      clear hd nx hCALL
      go_wp2_with fail
      refine HC.out.mono ?_
      rintro e w2 ⟨rfl, hb2⟩
      have n0 := (hb2.block b l0).trans HNX.out
      have HFIN := hideE (ch_fin (ob := es.ownBlock) (A := ansK now ⟨21, key, fld, txt, n⟩ (F.map (·.kv))) (B := b + 1) (r := { n := m }) (ls := .slice none 0 0) ((HD.out.mid hb2).fin (by omega)) n0 hbw (by omega) ((Kept.of hb2).pre HBL.out) hwr (RowAt.nil _ _ _) (From.nil _) ((ansK_21 rfl).trans (by rw [HK.out.2, HE3.out.1, HLR.out])) rfl)
      clear q0 f0 q1 f1
      obtain ⟨x0, x1⟩ := cellsB n0
      have lx := lt_at n0
      clear n0
      go_wp2_with fail
      refine bodyPost_ret (v := repV 0 ⟨#[]⟩ m (.slice none 0 0)) (by simp [results, Tryz.results40, go_sem, x0]) rfl ⟨_, HFIN.out⟩
  · have hCALL := change_any w _ now p ⟨k, key, fld, txt, n⟩ hit F D es hd hpt hh hok hc hs
    have hk : ¬ (k = 19 ∨ k = 20 ∨ k = 21 ∨ k = 22) := by simpa [ofStoreB] using hs
    have k22 : (k == 22) = false := by simp; omega
    have k19 : (k == 19) = false := by simp; omega
    have k20 : (k == 20) = false := by simp; omega
    have k21 : (k == 21) = false := by simp; omega
    have HA : Hid (ansK now ⟨k, key, fld, txt, n⟩ (F.map (·.kv)) = changeK ⟨k, key, fld, txt, n⟩ (F.map (·.kv))) := ans_change hs
    obtain ⟨A, hA⟩ : ∃ A, changeK ⟨k, key, fld, txt, n⟩ (F.map (·.kv)) = A := ⟨_, rfl⟩
    rw [hA] at hCALL HA
    clear hk hpt hh hok hc hs hA
    go_enter Tryz.func40, Tryz.ntmps40
    go_upto_region 1 with fail
    generalize wr.alloc zeroR = V at nx hd hVs hCALL HBL ⊢
    generalize hb : wr.heap.size = b at nx hbw hDb hVs ⊢
    obtain ⟨q0, f0⟩ := cellsB nx
    obtain ⟨q1, f1⟩ := cellsB hd.deed
    have l0 := lt_at nx
    have l1 := lt_at hd.deed
    have hbD : b ≠ D := by omega
    have hbo := own_ne hd.own nx (by decide)
    have HNX := hideE nx
    have HD := hideE hd
    have HC := hideE hCALL
    have hwr : wr.heap.size ≤ b := by omega
    clear hd nx hCALL
    go_wp2_with fail
    refine HC.out.mono ?_
    rintro e w2 ⟨rv, rfl, ⟨ls, rfl, hl, hfr⟩, hK, F2, es2, hf, hF⟩
    obtain ⟨la, lc, rfl⟩ : ∃ la lc, ls = .slice la A.2.list.length lc := by obtain ⟨-, a, c, h, -⟩ := hl; exact ⟨a, c, h⟩
    have n0 := (hK.block b l0 hbD (fun e => hbo e.symm)).trans HNX.out
    have HFIN := hideE (ch_fin (ob := es.ownBlock) (A := ansK now ⟨k, key, fld, txt, n⟩ (F.map (·.kv))) (B := V.heap.size + 2) (r := A.2) (ls := .slice la A.2.list.length lc) hf n0 hbw (by omega) (hK.pre HBL.out) hwr hl hfr HA.out hF)
    clear hl hfr hK hf hF
    clear q0 f0 q1 f1
    obtain ⟨x0, x1⟩ := cellsB n0
    have lx := lt_at n0
    clear n0
    go_wp2_with fail
    refine bodyPost_ret (v := repV A.2.code A.2.text A.2.n (.slice la A.2.list.length lc)) (by simp [results, Tryz.results40, go_sem, x0]) rfl ⟨_, HFIN.out⟩
end Go.Proofs.YtfnephnecighaaaGreat
