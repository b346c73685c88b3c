/- store.Apply answers just what the plain functions say, at every store, time and command. -/
import Derived.Test.YtfnephnecighaaaGreatAn
import Derived.Test.YtfnephnecighaaaGreatBg
namespace Go.Proofs.YtfnephnecighaaaGreat
open Go.RowKit
set_option linter.unusedVariables false
set_option maxRecDepth 100000

/-- A store that lies in memory as s, all of it from a block number on. -/
def RepsStF (B : Nat) (w : World) (v : Value) (s : Sto) : Prop := ∃ es E, v = stoV s.now es ∧ RowAt 8 encE w es E ∧ From B es ∧ (∀ e ∈ E, ListsF B w e) ∧ E.map (·.kv) = s.es
theorem RepsStF.st {B : Nat} {w : World} {v : Value} {s : Sto} (h : RepsStF B w v s) : RepsSt w v s := by
  obtain ⟨es, E, h1, h2, -, h3, h4⟩ := h
  exact ⟨es, E, h1, h2, fun e he => (h3 e he).1, h4⟩
theorem RepsStF.below {B : Nat} {w w' : World} {v : Value} {s : Sto} (h : RepsStF B w v s) (hb : Below w.heap.size w w') : RepsStF B w' v s := by
  obtain ⟨es, E, h1, h2, hf, h3, h4⟩ := h
  exact ⟨es, E, h1, h2.below hb, hf, fun e he => (h3 e he).mid hb, h4⟩
theorem RepsStF.mono {B B' : Nat} {w : World} {v : Value} {s : Sto} (h : RepsStF B w v s) (hb : B' ≤ B) : RepsStF B' w v s := by
  obtain ⟨es, E, h1, h2, hf, h3, h4⟩ := h
  exact ⟨es, E, h1, h2, hf.mono hb, fun e he => ⟨(h3 e he).1, (h3 e he).2.1.mono hb, (h3 e he).2.2.1.mono hb, (h3 e he).2.2.2.mono hb⟩, h4⟩
theorem RepsStF.setCell {B : Nat} {w : World} {v : Value} {s : Sto} (h : RepsStF B w v s) {p : Addr} (hp : p.block < B) (u : Value) : RepsStF B (w.setCell p u) v s := by
  obtain ⟨es, E, h1, h2, hf, h3, h4⟩ := h
  refine ⟨es, E, h1, h2.setCell hf hp u, hf, fun e he => ?_, h4⟩
  obtain ⟨l, f1, f2, f3⟩ := h3 e he
  exact ⟨⟨l.p.setCell f1 hp u, l.i.setCell f2 hp u, l.s.setCell f3 hp u⟩, f1, f2, f3⟩
theorem RepsStF.nil (B : Nat) (w : World) (now : Int) : RepsStF B w (stoV now (.slice none 0 0)) ⟨now, []⟩ := ⟨_, [], rfl, RowAt.nil _ _ _, From.nil _, fun e he => by simp at he, rfl⟩
theorem Fin.store {w wr : World} {now : Int} {c : Cmd} {F : List Ent} {D B : Nat} {es : Value} (h : Fin w now c F D B es wr) (hn : F.length ≤ 1048576) (hs : ∀ e ∈ F, e.kv.x.size ≤ 1048576) : RepsStF w.heap.size wr (stoV now es) ⟨now, F.map (·.kv)⟩ := by
  refine ⟨es, F, rfl, RowAt.ofOwn lenE h.own (by omega), From.own h.own, fun e he => ?_, rfl⟩
  rcases h.lists e he with h1 | ⟨l, f1, f2, f3⟩
  · have h2 := hs e he
    unfold Val.size at h2
    exact ⟨h1.lists (by omega) (by omega) (by omega), From.own h1.p, From.own h1.i, From.own h1.s⟩
  · exact ⟨l, f1.mono h.hB, f2.mono h.hB, f3.mono h.hB⟩
theorem OkKs.sizes {now : Int} {L : List Kv} (h : OkKs now L) : L.length ≤ 1048576 ∧ ∀ e ∈ L, e.x.size ≤ 1048576 :=
  ⟨by have := h.len; omega, fun e he => by have := (wrong_iff.1 (h.ok e he)).2.1.size; omega⟩

/-- What store.Apply answers: the store behind the command, the reply, the error. -/
def ApplyOk (s : Sto) (time : Int) (c : Cmd) : Prop :=
  ∀ (W : World) (v : Value), RepsSt W v s → Calls Tryz.prog 17 #[v, .int .i64 time, c.v] W fun e w' => ∃ v' u, e = .returned (.tuple #[v', u, .int .i64 (refS s time c)]) ∧ RepsStF W.heap.size w' v' (applyS s time c) ∧ RepRF W.heap.size w' u (applyR s time c) ∧ Below W.heap.size W w'

theorem four_new (w : World) (o0 o1 o2 o3 : Obj) : let V := (((w.alloc o0).alloc o1).alloc o2).alloc o3; V.heap[w.heap.size]? = some o0 ∧ V.heap[w.heap.size + 1]? = some o1 ∧ V.heap[w.heap.size + 2]? = some o2 ∧ V.heap[w.heap.size + 3]? = some o3 ∧ Below w.heap.size w V ∧ V.heap.size = w.heap.size + 4 := by
  intro V
  obtain ⟨a, b⟩ := two_new w o0 o1
  obtain ⟨c, d⟩ := two_new ((w.alloc o0).alloc o1) o2 o3
  have hz : ((w.alloc o0).alloc o1).heap.size = w.heap.size + 2 := by simp
  rw [hz] at c d
  have hb := (balloc ((w.alloc o0).alloc o1) o2).alloc (by simp) o3
  exact ⟨(hb.block _ (by omega)).trans a, (hb.block _ (by omega)).trans b, c, d, ((balloc w o0).alloc (by simp) o1).trans (hb.mono (by omega)), by simp [V]⟩

set_option maxHeartbeats 4000000 in
theorem apply_refused (s : Sto) (time : Int) (c : Cmd) (h0 : refS s time c ≠ 0) : ApplyOk s time c := by
  intro w v h
  have hR := fun W (hb : Below w.heap.size w W) => refusalS_any v s time c W (h.below hb)
  have hS : applyS s time c = ⟨0, []⟩ := by rw [applyS, if_pos h0]
  have hP : applyR s time c = {} := by rw [applyR, if_pos h0]
  rw [hS, hP]
  obtain ⟨es, E, rfl, hrow, -, -⟩ := h
  obtain ⟨-, ea, ec, rfl, -⟩ := hrow
  obtain ⟨F, hF⟩ : ∃ F, refS s time c = F := ⟨_, rfl⟩
  rw [hF] at h0 hR ⊢
  clear hF hS hP
  obtain ⟨k, key, fld, txt, n⟩ := c
  obtain ⟨now, L⟩ := s
  simp only at hR ⊢
  obtain ⟨n0, n1, n2, n3, hB0, hs0⟩ := four_new w (stoO now (.slice ea E.length ec)) (cmdO0 k key fld txt n) (stoO 0 (.slice none 0 0)) (.cells #[.int .i64 0, .string ⟨#[]⟩, .int .i64 0, .slice none 0 0] 32)
  have hne : (F != 0) = true := by simpa using h0
  have HR : Hid (∀ W, Below w.heap.size w W → Calls Tryz.prog 38 #[stoV now (.slice ea E.length ec), .int .i64 time, cmdV k key fld txt n] W fun e w' => e = .returned (.int .i64 F) ∧ Below W.heap.size W w') := hR
  clear hR h0
  generalize E.length = m at *
  go_enter Tryz.func17, Tryz.ntmps17
  go_upto_region 1 with fail
  generalize (((w.alloc (stoO now (.slice ea m ec))).alloc (cmdO0 k key fld txt n)).alloc (stoO 0 (.slice none 0 0))).alloc (.cells #[.int .i64 0, .string ⟨#[]⟩, .int .i64 0, .slice none 0 0] 32) = V at n0 n1 n2 n3 hB0 hs0 ⊢
  obtain ⟨c0, f0⟩ := cellsB n0
  obtain ⟨c1, f1⟩ := cellsB n1
  have HN : Hid (V.heap[w.heap.size + 2]? = some (stoO 0 (.slice none 0 0)) ∧ V.heap[w.heap.size + 3]? = some (.cells #[.int .i64 0, .string ⟨#[]⟩, .int .i64 0, .slice none 0 0] 32 (0, 0)) ∧ Below w.heap.size w V) := ⟨n2, n3, hB0⟩
  clear n0 n1 n2 n3 hB0 hs0
  go_wp2_with fail
  refine (HR.out _ HN.out.2.2).mono ?_
  rintro e w1 ⟨rfl, hb1⟩
  have n2 := (hb1.block _ (lt_at HN.out.1)).trans HN.out.1
  have n3 := (hb1.block _ (lt_at HN.out.2.1)).trans HN.out.2.1
  have HB := hideE (bstep HN.out.2.2 hb1)
  obtain ⟨x2, y2⟩ := cellsB n2
  obtain ⟨x3, y3⟩ := cellsB n3
  have l2 := lt_at n2
  have l3 := lt_at n3
  clear c0 f0 c1 f1 n2 n3 hb1 HN
  go_wp2_with fail
  refine bodyPost_ret (v := .tuple #[stoV 0 (.slice none 0 0), repV 0 ⟨#[]⟩ 0 (.slice none 0 0), .int .i64 F]) (by simp [results, Tryz.results17, go_sem, x2, x3]) rfl ⟨_, _, rfl, RepsStF.nil _ _ _, ⟨_, rfl, RowAt.nil _ _ _, From.nil _⟩, ?_⟩
  (iterate 6 (refine Below.setCell ?_ (by simp; try omega) _))
  exact HB.out
theorem RepRF.nilR (B : Nat) (w : World) (r : Rep) (h : r.list = []) : RepRF B w (repV r.code r.text r.n (.slice none 0 0)) r := ⟨_, rfl, by rw [h]; exact RowAt.nil _ _ _, From.nil _⟩

theorem ayEnd {w V : World} {B b2 b3 : Nat} {v ls : Value} {s : Sto} {r : Rep} {f : Int} (hB : w.heap.size ≤ B) (h2 : b2 < B) (h3 : b3 < B) (hw2 : w.heap.size ≤ b2) (hw3 : w.heap.size ≤ b3) (hst : RepsStF B V v s) (hr : RowAt 1 encI V ls r.list) (hf : From B ls) (hb : Below w.heap.size w V) (u0 u1 u2 u3 u4 u5 : Value) :
    ∃ v' u, Ending.returned (.tuple #[v, repV r.code r.text r.n ls, .int .i64 f]) = .returned (.tuple #[v', u, .int .i64 f]) ∧ RepsStF w.heap.size ((((((V.setCell ⟨b2, 0, none⟩ u0).setCell ⟨b2, 1, none⟩ u1).setCell ⟨b3, 0, none⟩ u2).setCell ⟨b3, 1, none⟩ u3).setCell ⟨b3, 2, none⟩ u4).setCell ⟨b3, 3, none⟩ u5).drew v' s ∧
      RepRF w.heap.size ((((((V.setCell ⟨b2, 0, none⟩ u0).setCell ⟨b2, 1, none⟩ u1).setCell ⟨b3, 0, none⟩ u2).setCell ⟨b3, 1, none⟩ u3).setCell ⟨b3, 2, none⟩ u4).setCell ⟨b3, 3, none⟩ u5).drew u r ∧
      Below w.heap.size w ((((((V.setCell ⟨b2, 0, none⟩ u0).setCell ⟨b2, 1, none⟩ u1).setCell ⟨b3, 0, none⟩ u2).setCell ⟨b3, 1, none⟩ u3).setCell ⟨b3, 2, none⟩ u4).setCell ⟨b3, 3, none⟩ u5).drew := by
  have hs6 := (((((hst.setCell (p := ⟨b2, 0, none⟩) h2 u0).setCell (p := ⟨b2, 1, none⟩) h2 u1).setCell (p := ⟨b3, 0, none⟩) h3 u2).setCell (p := ⟨b3, 1, none⟩) h3 u3).setCell (p := ⟨b3, 2, none⟩) h3 u4).setCell (p := ⟨b3, 3, none⟩) h3 u5
  have hr6 := (((((hr.setCell hf (p := ⟨b2, 0, none⟩) h2 u0).setCell hf (p := ⟨b2, 1, none⟩) h2 u1).setCell hf (p := ⟨b3, 0, none⟩) h3 u2).setCell hf (p := ⟨b3, 1, none⟩) h3 u3).setCell hf (p := ⟨b3, 2, none⟩) h3 u4).setCell hf (p := ⟨b3, 3, none⟩) h3 u5
  have hb6 := (((((hb.setCell (p := ⟨b2, 0, none⟩) hw2 u0).setCell (p := ⟨b2, 1, none⟩) hw2 u1).setCell (p := ⟨b3, 0, none⟩) hw3 u2).setCell (p := ⟨b3, 1, none⟩) hw3 u3).setCell (p := ⟨b3, 2, none⟩) hw3 u4).setCell (p := ⟨b3, 3, none⟩) hw3 u5
  generalize (((((V.setCell ⟨b2, 0, none⟩ u0).setCell ⟨b2, 1, none⟩ u1).setCell ⟨b3, 0, none⟩ u2).setCell ⟨b3, 1, none⟩ u3).setCell ⟨b3, 2, none⟩ u4).setCell ⟨b3, 3, none⟩ u5 = Z at *
  exact ⟨_, _, rfl, (hs6.below (Below.refl _ _).drew).mono hB, ⟨ls, rfl, hr6.below (Below.refl _ _).drew, hf.mono hB⟩, hb6.drew⟩

set_option maxHeartbeats 8000000 in
theorem apply_done (s : Sto) (time : Int) (c : Cmd) (h0 : refS s time c = 0) : ApplyOk s time c := by
  intro w v h
  obtain ⟨hOS, hT, hCF⟩ := refS_ok.1 h0
  have hM := hOS.max0 hT.2
  have hR := fun W (hb : Below w.heap.size w W) => refusalS_any v s time c W (h.below hb)
  have hok := hOS.kept time
  have hans := okKs_ans hM.1 hok hCF
  have hS : applyS s time c = ⟨max s.now time, (ansK (max s.now time) c (keptK (max s.now time) s.es)).1⟩ := by rw [applyS, if_neg (by simp [h0])]
  have hP : applyR s time c = (ansK (max s.now time) c (keptK (max s.now time) s.es)).2 := by rw [applyR, if_neg (by simp [h0])]
  rw [hS, hP]
  rw [h0] at hR ⊢
  obtain ⟨es, E, rfl, hrow, hls, hE⟩ := h
  have hrow0 := hrow
  obtain ⟨-, ea, ec, rfl, -⟩ := hrow0
  have hszE : ∀ e ∈ E, e.kv.x.size ≤ 1048576 := fun e he => by
    have := hOS.ok e.kv (by rw [← hE]; exact List.mem_map.2 ⟨e, he, rfl⟩)
    have := (wrong_iff.1 this).2.1.size
    omega
  have hlenE : E.length ≤ 1048576 := by have := hOS.len; rw [← hE] at this; simp at this; omega
  have hriE : E.Pairwise (fun a b => ltK a.kv b.kv = true) := by have := hOS.rise; rw [← hE, Rise, List.pairwise_map] at this; exact this
  have hBG := fun W (hb : Below w.heap.size w W) => begin_core s.now time ea ec E c W (hrow.below hb) (fun e he => (hls e he).below hb) hszE hlenE hriE
  have hkE : ∀ F : List Ent, F.map (·.kv) = (E.map (·.kv)).filter (fun e => !goneB (max s.now time) e) → F.map (·.kv) = keptK (max s.now time) s.es := fun F h => by rw [h, hE]; rfl
  have HKE := hideE hkE
  generalize max s.now time = M at *
  obtain ⟨AA, hAA⟩ : ∃ AA, ansK M c (keptK M s.es) = AA := ⟨_, rfl⟩
  have HAA := hideE hAA
  rw [hAA] at hans ⊢
  clear hAA hS hP hrow hls hszE hriE hkE h0
  obtain ⟨k, key, fld, txt, n⟩ := c
  obtain ⟨now, L⟩ := s
  simp only at hR hBG ⊢
  obtain ⟨n0, n1, n2, n3, hB0, hs0⟩ := four_new w (stoO now (.slice ea E.length ec)) (cmdO0 k key fld txt n) (stoO 0 (.slice none 0 0)) (.cells #[.int .i64 0, .string ⟨#[]⟩, .int .i64 0, .slice none 0 0] 32)
  have HR : Hid (∀ W, Below w.heap.size w W → Calls Tryz.prog 38 #[stoV now (.slice ea E.length ec), .int .i64 time, cmdV k key fld txt n] W fun e w' => e = .returned (.int .i64 0) ∧ Below W.heap.size W w') := hR
  have HBG := hideE hBG
  have HOK := hideE hok
  have HAN := hideE hans
  have HM := hideE hM
  have HCF := hideE hCF
  clear hR hBG hok hans hM hCF hE hlenE hOS hT
  generalize E.length = m at *
  go_enter Tryz.func17, Tryz.ntmps17
  go_upto_region 1 with fail
  generalize (((w.alloc (stoO now (.slice ea m ec))).alloc (cmdO0 k key fld txt n)).alloc (stoO 0 (.slice none 0 0))).alloc (.cells #[.int .i64 0, .string ⟨#[]⟩, .int .i64 0, .slice none 0 0] 32) = V at n0 n1 n2 n3 hB0 hs0 ⊢
  obtain ⟨c0, f0⟩ := cellsB n0
  obtain ⟨c1, f1⟩ := cellsB n1
  have HN : Hid (V.heap[w.heap.size]? = some (stoO now (.slice ea m ec)) ∧ V.heap[w.heap.size + 1]? = some (cmdO0 k key fld txt n) ∧ V.heap[w.heap.size + 2]? = some (stoO 0 (.slice none 0 0)) ∧ V.heap[w.heap.size + 3]? = some (.cells #[.int .i64 0, .string ⟨#[]⟩, .int .i64 0, .slice none 0 0] 32 (0, 0)) ∧ Below w.heap.size w V) := ⟨n0, n1, n2, n3, hB0⟩
  clear n0 n1 n2 n3 hB0 hs0
  go_wp2_with fail
  refine (HR.out _ HN.out.2.2.2.2).mono ?_
  rintro e w1 ⟨rfl, hb1⟩
  have HN1 : Hid (w1.heap[w.heap.size]? = some (stoO now (.slice ea m ec)) ∧ w1.heap[w.heap.size + 1]? = some (cmdO0 k key fld txt n) ∧ w1.heap[w.heap.size + 2]? = some (stoO 0 (.slice none 0 0)) ∧ w1.heap[w.heap.size + 3]? = some (.cells #[.int .i64 0, .string ⟨#[]⟩, .int .i64 0, .slice none 0 0] 32 (0, 0)) ∧ Below w.heap.size w w1) :=
    ⟨(hb1.block _ (lt_at HN.out.1)).trans HN.out.1, (hb1.block _ (lt_at HN.out.2.1)).trans HN.out.2.1, (hb1.block _ (lt_at HN.out.2.2.1)).trans HN.out.2.2.1, (hb1.block _ (lt_at HN.out.2.2.2.1)).trans HN.out.2.2.2.1, bstep HN.out.2.2.2.2 hb1⟩
  clear c0 f0 c1 f1 hb1 HN
  obtain ⟨c0, f0⟩ := cellsB HN1.out.1
  obtain ⟨c1, f1⟩ := cellsB HN1.out.2.1
  go_wp2_with fail
  refine (HBG.out _ HN1.out.2.2.2.2).mono ?_
  rintro e w2 ⟨D, rfl, F, es, p, hd, hF, hpt⟩
  obtain ⟨hit, hh⟩ : ∃ h, hitB (fun e : Ent => cmpS e.kv.key key) F p = h := ⟨_, rfl⟩
  rw [hh] at hd
  have hF2 := HKE.out F hF
  have HA := hideE (answer_any w1 w2 M p ⟨k, key, fld, txt, n⟩ hit F D es hd hpt hh (by rw [hF2]; exact HOK.out) HCF.out HM.out.1 HM.out.2)
  have HF2 := hideE hF2
  have hl1 := lt_at HN1.out.2.2.2.1
  clear c0 f0 c1 f1 hd hF hpt hh hF2
  go_wp2_with fail
  refine HA.out.mono ?_
  rintro e w3 ⟨B, rv, rfl, hrv, -, F', es', hf, hF'⟩
  rw [HF2.out, HAA.out] at hrv hF'
  have hsz := HAN.out.sizes
  have hst := hf.store (by rw [← hF'] at hsz; simpa using hsz.1) (fun e he => hsz.2 _ (by rw [← hF']; exact List.mem_map.2 ⟨e, he, rfl⟩))
  rw [hF'] at hst
  obtain ⟨ls, rfl, hrl, hrf⟩ := hrv.mono hf.hB
  obtain ⟨la, lc, rfl⟩ : ∃ la lc, ls = .slice la AA.2.list.length lc := by obtain ⟨-, a, c, h, -⟩ := hrl; exact ⟨a, c, h⟩
  obtain ⟨at2, fd2, hD⟩ := hf.deed
  obtain ⟨ea2, ec2, rfl⟩ := ownsRow_shape hf.own
  have HST := hideE hst
  have HRL := hideE (show RowAt 1 encI w3 (.slice la AA.2.list.length lc) AA.2.list ∧ From w1.heap.size (.slice la AA.2.list.length lc) from ⟨hrl, hrf⟩)
  have hbel := hf.below
  have HB3 := hideE (show Below w.heap.size w w3 from HN1.out.2.2.2.2.trans (hbel.mono HN1.out.2.2.2.2.size))
  have m2 := (hbel.block _ (lt_at HN1.out.2.2.1)).trans HN1.out.2.2.1
  have m3 := (hbel.block _ (lt_at HN1.out.2.2.2.1)).trans HN1.out.2.2.2.1
  have hbig : w.heap.size + 4 ≤ w1.heap.size := by omega
  have hbig3 : w1.heap.size ≤ w3.heap.size := hbel.size
  have hDw := hf.bD
  generalize F'.length = m2' at *
  clear hrl hrf hst hf hF' hbel hsz HA HF2 HKE HBG HR HN1
  go_upto_region 6 with fail
  have n4 := alloc_at w3 (repO AA.2.code AA.2.text AA.2.n (.slice la AA.2.list.length lc))
  have hb4 := balloc w3 (repO AA.2.code AA.2.text AA.2.n (.slice la AA.2.list.length lc))
  have m2 := (hb4.block _ (lt_at m2)).trans m2
  have m3 := (hb4.block _ (lt_at m3)).trans m3
  have hD := (hb4.block _ (lt_at hD)).trans hD
  have HST4 := hideE (HST.out.below hb4)
  have HRL4 := hideE (show RowAt 1 encI (w3.alloc (repO AA.2.code AA.2.text AA.2.n (.slice la AA.2.list.length lc))) (.slice la AA.2.list.length lc) AA.2.list ∧ From w1.heap.size (.slice la AA.2.list.length lc) from ⟨HRL.out.1.below hb4, HRL.out.2⟩)
  have HB4 := hideE (bstep HB3.out hb4)
  clear HST HRL HB3 hb4
  generalize w3.alloc (repO AA.2.code AA.2.text AA.2.n (.slice la AA.2.list.length lc)) = V4 at *
  generalize w3.heap.size = b4 at *
  obtain ⟨x2, y2⟩ := cellsB m2
  obtain ⟨x3, y3⟩ := cellsB m3
  obtain ⟨x4, y4⟩ := cellsB n4
  obtain ⟨xD, yD⟩ := cellsB hD
  have l2 := lt_at m2
  have l3 := lt_at m3
  have l4 := lt_at n4
  have lD := lt_at hD
  obtain ⟨t0, t1⟩ : V4.cell? ⟨D, 0, none⟩ = some (.int .i64 M) ∧ V4.cell? ⟨D, 1, none⟩ = some (.slice ea2 m2' ec2) := ⟨xD 0, xD 1⟩
  obtain ⟨r0, r1, r2, r3⟩ : V4.cell? ⟨b4, 0, none⟩ = some (.int .i64 AA.2.code) ∧ V4.cell? ⟨b4, 1, none⟩ = some (.string AA.2.text) ∧ V4.cell? ⟨b4, 2, none⟩ = some (.int .i64 AA.2.n) ∧ V4.cell? ⟨b4, 3, none⟩ = some (.slice la AA.2.list.length lc) := ⟨x4 0, x4 1, x4 2, x4 3⟩
  clear m2 m3 n4 hD xD x4
  generalize hq3 : w.heap.size + 1 + 1 + 1 = b3 at *
  generalize hq2 : w.heap.size + 1 + 1 = b2 at *
  have z1 : ¬ D = b2 := by omega
  have z2 : ¬ D = b3 := by omega
  have z3 : ¬ b4 = b2 := by omega
  have z4 : ¬ b4 = b3 := by omega
  have y1 : ¬ b2 = D := by omega
  have y2' : ¬ b3 = D := by omega
  have y3' : ¬ b2 = b4 := by omega
  have y4' : ¬ b3 = b4 := by omega
  have z5 : ¬ b3 = b2 := by omega
  have z6 : ¬ b2 = b3 := by omega
  have HQ := hideE (show w.heap.size ≤ w1.heap.size ∧ b2 < w1.heap.size ∧ b3 < w1.heap.size ∧ w.heap.size ≤ b2 ∧ w.heap.size ≤ b3 from ⟨by omega, by omega, by omega, by omega, by omega⟩)
  clear hq2 hq3
  refine region_but 8 8 (fun W => W.cell? ⟨D, 0, none⟩ = some (.int .i64 M) ∧ W.cell? ⟨D, 1, none⟩ = some (.slice ea2 m2' ec2) ∧ W.cell? ⟨b4, 0, none⟩ = some (.int .i64 AA.2.code) ∧ W.cell? ⟨b4, 1, none⟩ = some (.string AA.2.text) ∧ W.cell? ⟨b4, 2, none⟩ = some (.int .i64 AA.2.n) ∧ W.cell? ⟨b4, 3, none⟩ = some (.slice la AA.2.list.length lc)) (by kernel_rfl) (by kernel_rfl) (by (try dsimp only); go_keep) (fun hHeld => ?_)
  refine but_take (i := 0) (v := ?_) rfl (by kernel_rfl) (by kernel_rfl) (by kernel_rfl) (by kernel_rfl) (by decide) (fun _ _ _ h => h) (Or.inl ⟨by rfl, ?_⟩) (by assumption) ?_
  rotate_left
  · (intro w hSw; (try dsimp only at hSw); go_simp <;> with_reducible rfl)
  try simp only [Act.put, List.setIfInBounds_toArray, List.set_cons_zero, List.set_cons_succ]
  refine but_take (i := 1) (v := ?_) rfl (by kernel_rfl) (by kernel_rfl) (by kernel_rfl) (by kernel_rfl) (by decide) (fun _ _ _ h => h) (Or.inl ⟨by rfl, ?_⟩) (by assumption) ?_
  rotate_left
  · (intro w hSw; (try dsimp only at hSw); go_simp <;> with_reducible rfl)
  try simp only [Act.put, List.setIfInBounds_toArray, List.set_cons_zero, List.set_cons_succ]
  refine but_take (i := 2) (v := ?_) rfl (by kernel_rfl) (by kernel_rfl) (by kernel_rfl) (by kernel_rfl) (by decide) (fun _ _ _ h => h) (Or.inl ⟨by rfl, ?_⟩) (by assumption) ?_
  rotate_left
  · (intro w hSw; (try dsimp only at hSw); go_simp <;> with_reducible rfl)
  try simp only [Act.put, List.setIfInBounds_toArray, List.set_cons_zero, List.set_cons_succ]
  refine but_take (i := 3) (v := ?_) rfl (by kernel_rfl) (by kernel_rfl) (by kernel_rfl) (by kernel_rfl) (by decide) (fun _ _ _ h => h) (Or.inl ⟨by rfl, ?_⟩) (by assumption) ?_
  rotate_left
  · (intro w hSw; (try dsimp only at hSw); go_simp <;> with_reducible rfl)
  try simp only [Act.put, List.setIfInBounds_toArray, List.set_cons_zero, List.set_cons_succ]
  refine but_take (i := 4) (v := ?_) rfl (by kernel_rfl) (by kernel_rfl) (by kernel_rfl) (by kernel_rfl) (by decide) (fun _ _ _ h => h) (Or.inl ⟨by rfl, ?_⟩) (by assumption) ?_
  rotate_left
  · (intro w hSw; (try dsimp only at hSw); go_simp <;> with_reducible rfl)
  try simp only [Act.put, List.setIfInBounds_toArray, List.set_cons_zero, List.set_cons_succ]
  refine but_step (i := 5) (by kernel_rfl) rfl (fun K hK => ?_)
  (go_simp)
  refine hK.out.1 _ _ (by (try dsimp only); go_keep) (fun hHeld => ?_)
  clear hK K
  try simp only [Act.put, List.setIfInBounds_toArray, List.set_cons_zero, List.set_cons_succ]
  refine but_step (i := 6) (by kernel_rfl) rfl (fun K hK => ?_)
  (go_simp)
  refine hK.out.1 _ _ (by (try dsimp only); go_keep) (fun hHeld => ?_)
  clear hK K
  try simp only [Act.put, List.setIfInBounds_toArray, List.set_cons_zero, List.set_cons_succ]
  refine but_step (i := 7) (by kernel_rfl) rfl (fun K hK => ?_)
  (go_simp)
  refine hK.out.1 _ _ (by (try dsimp only); go_keep) (fun hHeld => ?_)
  clear hK K
  try simp only [Act.put, List.setIfInBounds_toArray, List.set_cons_zero, List.set_cons_succ]
  refine but_done (by kernel_rfl) ?_
  clear hHeld
  go_wp2_with fail
  refine bodyPost_ret (v := .tuple #[stoV M (.slice ea2 m2' ec2), repV AA.2.code AA.2.text AA.2.n (.slice la AA.2.list.length lc), .int .i64 0]) (by simp [results, Tryz.results17, go_sem, x2, x3]) rfl ?_
  exact ayEnd HQ.out.1 HQ.out.2.1 HQ.out.2.2.1 HQ.out.2.2.2.1 HQ.out.2.2.2.2 HST4.out HRL4.out.1 HRL4.out.2 HB4.out _ _ _ _ _ _
theorem apply_any (s : Sto) (time : Int) (c : Cmd) : ApplyOk s time c := by
  by_cases h : refS s time c = 0
  · exact apply_done s time c h
  · exact apply_refused s time c h
end Go.Proofs.YtfnephnecighaaaGreat
