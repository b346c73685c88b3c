/- A deed begun: store.begin. -/
import Derived.Test.YtfnephnecighaaaGreatGn
import Derived.Test.YtfnephnecighaaaGreatRf
import Derived.Test.YtfnephnecighaaaGreatMp
namespace Go.Proofs.YtfnephnecighaaaGreat
open Go.RowKit
set_option linter.unusedVariables false
set_option maxRecDepth 100000

/-- A deed in memory: its entries, what lies of their values, and that all that was there ahead of it is as it was. -/
structure Deed (w : World) (now : Int) (c : Cmd) (at' : Int) (found : Bool) (F : List Ent) (D : Nat) (es : Value) (wr : World) : Prop where
  bD : w.heap.size ≤ D
  deed : wr.heap[D]? = some (deedO now es c.k c.key c.fld c.txt c.n at' found)
  own : wr.ownsRow w.heap.size 57 8 es F.length (F.flatMap encE)
  lists : ∀ e ∈ F, OwnVL w.heap.size wr e.ps e.is e.ss e.kv.x
  below : Below w.heap.size w wr
theorem Deed.mid {w wr w2 : World} {now at' : Int} {c : Cmd} {found : Bool} {F : List Ent} {D : Nat} {es : Value} (h : Deed w now c at' found F D es wr) (hb : Below wr.heap.size wr w2) : Deed w now c at' found F D es w2 where
  bD := h.bD
  deed := (hb.block _ (lt_at h.deed)).trans h.deed
  own := ownsRow_kept h.own hb
  lists := fun e he => (h.lists e he).kept hb
  below := bstep h.below hb

theorem Kept.own {D B B' kk kk' n n' : Nat} {t : TypeId} {w W : World} {v v' : Value} {xs xs' : List Value} (hK : Kept D v'.ownBlock w W) (hr : w.ownsRow B t kk v n xs) (hne : v.ownBlock ≠ some D) (ho : w.ownsRow B' 57 kk' v' n' xs') (ht : t ≠ 57) : W.ownsRow B t kk v n xs := by
  refine ⟨hr.1, ?_⟩
  rcases hr.2 with h | ⟨g, cap, cur, rfl, h2, h3, h4⟩
  · exact .inl h
  · refine .inr ⟨g, cap, cur, rfl, h2, (hK.block g (lt_at h3) (fun h => hne (by subst h; rfl)) (fun h => own_ne ho h3 ht h.symm)).trans h3, h4⟩
theorem Kept.ownVL {D B B' kk' n' : Nat} {w W : World} {v' : Value} {xs' : List Value} {ps is ss : Value} {x : Val} {cs : Array Value} (hK : Kept D v'.ownBlock w W) (hr : OwnVL B w ps is ss x) (hD : w.heap[D]? = some (.cells cs 83 (0, 0))) (ho : w.ownsRow B' 57 kk' v' n' xs') : OwnVL B W ps is ss x :=
  ⟨hK.own hr.p (own_ne hr.p hD (by decide)) ho (by decide), hK.own hr.i (own_ne hr.i hD (by decide)) ho (by decide), hK.own hr.s (own_ne hr.s hD (by decide)) ho (by decide)⟩
theorem OwnVL.set {B D o : Nat} {w : World} {ps is ss : Value} {x : Val} {cs : Array Value} (h : OwnVL B w ps is ss x) (hD : w.heap[D]? = some (.cells cs 83 (0, 0))) (u : Value) : OwnVL B (w.setCell ⟨D, o, none⟩ u) ps is ss x :=
  ⟨own_set h.p (own_ne h.p hD (by decide)) u, own_set h.i (own_ne h.i hD (by decide)) u, own_set h.s (own_ne h.s hD (by decide)) u⟩
theorem Deed.put {w wr : World} {now at' at2 : Int} {c : Cmd} {found f2 : Bool} {F : List Ent} {D : Nat} {es : Value} (h : Deed w now c at' found F D es wr) : Deed w now c at2 f2 F D es ((wr.setCell ⟨D, 7, none⟩ (.int .i64 at2)).setCell ⟨D, 8, none⟩ (.bool f2)) := by
  have d1 := setCell_in (.int .i64 at2) (o := 7) h.deed
  have d2 := setCell_in (.bool f2) (o := 8) d1
  have hne := own_ne h.own h.deed (by decide)
  exact ⟨h.bD, d2, own_set (own_set h.own (p := ⟨D, 7, none⟩) hne _) (p := ⟨D, 8, none⟩) hne _, fun e he => ((h.lists e he).set h.deed _).set d1 _, (h.below.setCell h.bD _).setCell h.bD _⟩
theorem Deed.put2 {w wr : World} {now at' at2 : Int} {c : Cmd} {found f2 : Bool} {F : List Ent} {D : Nat} {es : Value} (h : Deed w now c at' found F D es wr) : Deed w now c at2 f2 F D es ((wr.setCell ⟨D, 8, none⟩ (.bool f2)).setCell ⟨D, 7, none⟩ (.int .i64 at2)) := by
  have d1 := setCell_in (.bool f2) (o := 8) h.deed
  have d2 := setCell_in (.int .i64 at2) (o := 7) d1
  have hne := own_ne h.own h.deed (by decide)
  exact ⟨h.bD, d2, own_set (own_set h.own (p := ⟨D, 8, none⟩) hne _) (p := ⟨D, 7, none⟩) hne _, fun e he => ((h.lists e he).set h.deed _).set d1 _, (h.below.setCell h.bD _).setCell h.bD _⟩

set_option maxHeartbeats 8000000 in
theorem begin_core (now time : Int) (ea : Option Addr) (ec : Nat) (E : List Ent) (c : Cmd) (w : World) (hrow : RowAt 8 encE w (.slice ea E.length ec) E) (hls : ∀ e ∈ E, Lists w e.ps e.is e.ss e.kv.x) (hsz : ∀ e ∈ E, e.kv.x.size ≤ 1048576) (hn : E.length ≤ 1048576)
    (hri : E.Pairwise (fun a b => ltK a.kv b.kv = true)) :
    Calls Tryz.prog 39 #[stoV now (.slice ea E.length ec), .int .i64 time, c.v] w fun e w' => ∃ (D : Nat), e = .returned (.pointer (some ⟨D, 0, none⟩)) ∧ ∃ (F : List Ent) (es : Value) (p : Nat),
      Deed w (max now time) c (p : Int) (hitB (fun e : Ent => cmpS e.kv.key c.key) F p) F D es w' ∧ F.map (·.kv) = (E.map (·.kv)).filter (fun e => !goneB (max now time) e) ∧ Parts (fun e : Ent => cmpS e.kv.key c.key) F p := by
  have HFS : Hid (∀ W, Below w.heap.size w W → Calls Tryz.prog 74 #[stoV now (.slice ea E.length ec)] W fun e w' => ∃ (sv : Value) (A : List Ent), e = .returned (stoV now sv) ∧ w'.ownsRow W.heap.size 57 8 sv A.length (A.flatMap encE) ∧ A.map (·.kv) = E.map (·.kv) ∧ (∀ e ∈ A, OwnVL W.heap.size w' e.ps e.is e.ss e.kv.x) ∧ Below W.heap.size W w') := fun W hW =>
    freshStore_core now ea ec E W (hrow.below hW) (fun e he => (hls e he).below hW) hsz hn
  obtain ⟨k, key, fld, txt, n⟩ := c
  obtain ⟨n0, n1, hB0, hs0⟩ := two_newF w (stoO now (.slice ea E.length ec)) (cmdO0 k key fld txt n)
  clear hrow hls hsz
  go_enter Tryz.func39, Tryz.ntmps39
  go_upto_region 1 with fail
  generalize (w.alloc (stoO now (.slice ea E.length ec))).alloc (cmdO0 k key fld txt n) = V at n0 n1 hB0 hs0 ⊢
  obtain ⟨c0, f0⟩ := cellsB n0
  obtain ⟨c1, f1⟩ := cellsB n1
  have l0 := lt_at n0
  have l1 := lt_at n1
  obtain ⟨s0, s1, t0, t1, t2, t3, t4⟩ : V.cell? ⟨w.heap.size, 0, none⟩ = some (.int .i64 now) ∧ V.cell? ⟨w.heap.size, 1, none⟩ = some (.slice ea E.length ec) ∧ V.cell? ⟨w.heap.size + 1, 0, none⟩ = some (.int .i64 k) ∧ V.cell? ⟨w.heap.size + 1, 1, none⟩ = some (.string key) ∧ V.cell? ⟨w.heap.size + 1, 2, none⟩ = some (.string fld) ∧ V.cell? ⟨w.heap.size + 1, 3, none⟩ = some (.string txt) ∧ V.cell? ⟨w.heap.size + 1, 4, none⟩ = some (.int .i64 n) := ⟨c0 0, c0 1, c1 0, c1 1, c1 2, c1 3, c1 4⟩
  have HN1 : Hid (V.heap[w.heap.size + 1]? = some (cmdO0 k key fld txt n)) := n1
  have HB0 : Hid (Below w.heap.size w V) := hB0
  have HC : Hid (∀ W, Below V.heap.size V W → Calls Tryz.prog 74 #[stoV now (.slice ea E.length ec)] W fun e w' => ∃ (sv : Value) (A : List Ent), e = .returned (stoV now sv) ∧ (w'.ownsRow V.heap.size 57 8 sv A.length (A.flatMap encE) ∧ A.map (·.kv) = E.map (·.kv) ∧ (∀ e ∈ A, OwnVL V.heap.size w' e.ps e.is e.ss e.kv.x)) ∧ Below V.heap.size V w') := fun W hW =>
    (HFS W (bstep hB0 hW)).mono fun e w' ⟨sv, A, h1, h2, h3, h4, h5⟩ => ⟨sv, A, h1, ⟨ownsRow_base h2 hW.size, h3, fun x hx => (h4 x hx).base hW.size⟩, bstep hW h5⟩
  clear c0 c1 n0 n1 hB0 HFS
  generalize hb1 : w.heap.size + 1 = b1 at *
  go_cut [7] (fun s7 wx => ∃ (D : Nat) (sv : Value) (A : List Ent), s7 = .pointer (some ⟨D, 0, none⟩) ∧ wx.heap[D]? = some (deedO now sv k key fld txt n 0 false) ∧ wx.heap[b1]? = some (cmdO0 k key fld txt n) ∧ V.heap.size ≤ D ∧
    (wx.ownsRow V.heap.size 57 8 sv A.length (A.flatMap encE) ∧ A.map (·.kv) = E.map (·.kv) ∧ (∀ e ∈ A, OwnVL V.heap.size wx e.ps e.is e.ss e.kv.x)) ∧ Below V.heap.size V wx)
  case first =>
    go_region_held3 (fun w' => w'.cell? ⟨w.heap.size, 0, none⟩ = some (.int .i64 now) ∧ w'.cell? ⟨w.heap.size, 1, none⟩ = some (.slice ea E.length ec) ∧ w'.cell? ⟨b1, 0, none⟩ = some (.int .i64 k) ∧ w'.cell? ⟨b1, 1, none⟩ = some (.string key) ∧ w'.cell? ⟨b1, 2, none⟩ = some (.string fld) ∧ w'.cell? ⟨b1, 3, none⟩ = some (.string txt) ∧ w'.cell? ⟨b1, 4, none⟩ = some (.int .i64 n)) (go_keep)
      (first | (go_at_call 74; refine (HC.out _ (by first | exact Below.refl _ _ | exact (Below.refl _ _).drew)).mono ?_; rintro e w2 ⟨sv, A, rfl, hown, hb2⟩; obtain ⟨y1, y2⟩ := same_block (hb2.block w.heap.size l0); obtain ⟨y3, y4⟩ := same_block (hb2.block b1 l1); have z0 := bsize hb2 l0; have z1 := bsize hb2 l1))
    all_goals
      have HX : Hid _ := hown
      have HB2 : Hid (Below V.heap.size V w2) := hb2
      clear y1 y2 y3 y4
      go_wp2_with fail
      go_meet
      case rel =>
        have hbl := balloc w2 (deedO now sv k key fld txt n 0 false)
        refine ⟨w2.heap.size, sv, A, rfl, alloc_at _ _, (hbl.block b1 z1).trans ((HB2.out.block b1 l1).trans HN1.out), HB2.out.size, ⟨ownsRow_kept HX.out.1 hbl, HX.out.2.1, fun e he => (HX.out.2.2 e he).kept hbl⟩, bstep HB2.out hbl⟩
  case rest =>
    obtain ⟨D, sv, A, rfl, nD, nb1, hDV, ⟨hown, hkv, hl⟩, hbV⟩ := hcut
    obtain ⟨a1, e1, rfl⟩ := ownsRow_shape hown
    have hAl : A.length = E.length := by have := congrArg List.length hkv; simpa using this
    have HG := goOn_any now time (.slice a1 A.length e1) k key fld txt n 0 false D V.heap.size A wc nD hown hbV.size (by omega)
    have hnb := own_ne hown nb1 (by decide)
    obtain ⟨M, hM⟩ : ∃ M, M = max now time := ⟨_, rfl⟩
    rw [← hM] at HG
    have HM : Hid (M = max now time) := hM
    have HGO : Hid (Calls Tryz.prog 75 #[.pointer (some ⟨D, 0, none⟩), .int .i64 time] wc fun e w' => e = .returned (.tuple #[]) ∧ WentOn D V.heap.size M (Value.slice a1 A.length e1).ownBlock k key fld txt n 0 false (A.filter (fun e => !goneB M e.kv)) wc w') := HG
    have HC0 : Hid (wc.heap[D]? = some (deedO now (.slice a1 A.length e1) k key fld txt n 0 false) ∧ wc.heap[b1]? = some (cmdO0 k key fld txt n) ∧ wc.ownsRow V.heap.size 57 8 (.slice a1 A.length e1) A.length (A.flatMap encE) ∧ (∀ e ∈ A, OwnVL V.heap.size wc e.ps e.is e.ss e.kv.x) ∧ Below V.heap.size V wc) := ⟨nD, nb1, hown, hl, hbV⟩
    have HKV : Hid (A.map (·.kv) = E.map (·.kv)) := hkv
    have HNB : Hid ((Value.slice a1 A.length e1).ownBlock ≠ some b1) := hnb
    have hbV2 : w.heap.size + 2 = V.heap.size := hs0.symm
    clear HG hM nD nb1 hown hl hbV hkv hnb s0 s1 t0 t1 t2 t3 t4
    go_wp2_with fail
    refine HGO.out.mono ?_
    rintro e w2 ⟨rfl, a2, e2, nD2, hown2, hob, hK⟩
    have l1c := lt_at HC0.out.2.1
    have nb2 := (hK.block b1 l1c (by omega) (fun h => HNB.out h.symm)).trans HC0.out.2.1
    have hlF : ∀ e ∈ A.filter (fun e => !goneB M e.kv), OwnVL V.heap.size w2 e.ps e.is e.ss e.kv.x := fun e he => Kept.ownVL hK (HC0.out.2.2.2.1 e (List.mem_filter.1 he).1) HC0.out.1 HC0.out.2.2.1
    have hbw : Below w.heap.size w w2 := by
      have h0 := bstep HB0.out (HC0.out.2.2.2.2.mono (Nat.le_refl _))
      refine ⟨hK.os.trans h0.os, hK.tape.trans h0.tape, hK.output.trans h0.output, Nat.le_trans h0.size hK.size, fun b hb => (hK.block b (by have := h0.size; omega) (by omega) (fun h => ?_)).trans (h0.block b hb)⟩
      have := (World.ownsRow.lt HC0.out.2.2.1 b h.symm).1
      omega
    have hFkv : (A.filter (fun e => !goneB M e.kv)).map (·.kv) = (E.map (·.kv)).filter (fun e => !goneB M e) := by
      rw [← HKV.out, List.filter_map]; rfl
    have hpw : (A.filter (fun e => !goneB M e.kv)).Pairwise (fun a b => ltK a.kv b.kv = true) := by
      have h1 : (A.map (·.kv)).Pairwise (fun a b => ltK a b = true) := by rw [HKV.out, List.pairwise_map]; exact hri
      rw [List.pairwise_map] at h1
      exact h1.filter _
    have hFl : (A.filter (fun e => !goneB M e.kv)).length ≤ 1048576 := Nat.le_trans (List.length_filter_le _ _) (by omega)
    generalize hF : A.filter (fun e => !goneB M e.kv) = F at *
    have hpt := parts_of (lt := fun a b : Ent => ltK a.kv b.kv) (fun e : Ent => cmpS e.kv.key key) (fun a b h h' => by
      rw [cmpS_lt] at h' ⊢
      exact ltS_trans h h') F hpw
    generalize posOf (fun e : Ent => cmpS e.kv.key key) F = p at *
    have HD2 : Hid (Deed w M ⟨k, key, fld, txt, n⟩ 0 false F D (.slice a2 F.length e2) w2) := ⟨by omega, nD2, ownsRow_base hown2 (by omega), fun e he => (hlF e he).base (by omega), hbw⟩
    have HBS : Hid (∀ W, Below w2.heap.size w2 W → Calls Tryz.prog 76 #[.slice a2 F.length e2, .string key, .func (.func 77) #[] #[]] W fun e w' => e = .returned (.tuple #[.int .i64 p, .bool (hitB (fun e : Ent => cmpS e.kv.key key) F p)]) ∧ Below w2.heap.size w2 w') := fun W hW =>
      (bsearchE 77 #[] key (fun e : Ent => cmpS e.kv.key key) egB _ F p W ((RowAt.ofOwn lenE hown2 (by omega)).below hW) (fun x W' _ => keyCmp_pred key x W') hpt).mono fun e w' h => ⟨h.1, bstep hW h.2⟩
    have HFIN : Hid (F.map (·.kv) = (E.map (·.kv)).filter (fun e => !goneB M e) ∧ Parts (fun e : Ent => cmpS e.kv.key key) F p) := ⟨hFkv, hpt⟩
    obtain ⟨q0, g0⟩ := cellsB nb2
    obtain ⟨q1, g1⟩ := cellsB nD2
    have m0 := lt_at nb2
    have m1 := lt_at nD2
    obtain ⟨hit, hH⟩ : ∃ h, hitB (fun e : Ent => cmpS e.kv.key key) F p = h := ⟨_, rfl⟩
    rw [hH] at HBS
    have HH : Hid (hitB (fun e : Ent => cmpS e.kv.key key) F p = hit) := hH
    clear hH
    clear HGO HC0 HNB HKV HN1 hob hK nb2 nD2 hlF hbw hFkv hpw hpt hown2 hF
    go_upto_region 3 with fail
    go_region_with (first | (go_at_call 76; refine (HBS.out _ (by first | exact Below.refl _ _ | exact (Below.refl _ _).drew)).mono ?_; rintro e w3 ⟨rfl, hb3⟩; obtain ⟨y1, y2⟩ := same_block (hb3.block D m1); obtain ⟨y3, y4⟩ := same_block (hb3.block b1 m0); have m2 := bsize hb3 m1))
    all_goals
      have hd3 := HD2.out.mid hb3
      clear y1 y2 y3 y4
      go_wp2_with fail
      go_ret
      refine ⟨D, rfl, F, .slice a2 F.length e2, p, ?_, ?_, HFIN.out.2⟩
      · rw [← HM.out, HH.out]
        first | exact hd3.put | exact hd3.put2
      · rw [← HM.out]; exact HFIN.out.1
end Go.Proofs.YtfnephnecighaaaGreat
