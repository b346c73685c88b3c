/- A deed's time goes on, and what has run out goes: (*store.deed).goOn. -/
import Derived.Test.YtfnephnecighaaaGreatDf
import Derived.Test.YtfnephnecighaaaGreatGw
import Derived.Test.YtfnephnecighaaaGreatScJ
import Derived.Test.YtfnephnecighaaaGreatPgJ
namespace Go.Proofs.YtfnephnecighaaaGreat
open Go.RowKit
set_option linter.unusedVariables false
set_option maxRecDepth 100000

theorem deleteFunc_any (B f : Nat) (lb : Array Value) (pr : Ent → Bool) (A : List Ent) (s : Value) (w : World) (eg : ∀ args w, (callFunc f args).run Tryz.prog w = .ok (.enter f args) w)
    (ho : w.ownsRow B 57 8 s A.length (A.flatMap encE)) (hBw : B ≤ w.heap.size) (hsm : A.length ≤ 1048576)
    (hf : ∀ e ∈ A, ∀ W, w.grownBy W s.ownBlock → Calls Tryz.prog f (#[valE e] ++ lb) W fun r w' => r = .returned (.bool (pr e)) ∧ Below W.heap.size W w') :
    Calls Tryz.prog 102 #[s, .func (.func f) #[] lb] w fun e w' =>
      ∃ a c, e = .returned (.slice a (A.filter (fun e => !pr e)).length c) ∧ w'.ownsRow B 57 8 (.slice a (A.filter (fun e => !pr e)).length c) (A.filter (fun e => !pr e)).length ((A.filter (fun e => !pr e)).flatMap encE) ∧ w.grownBy w' s.ownBlock ∧ (Value.slice a (A.filter (fun e => !pr e)).length c).ownBlock = s.ownBlock := by
  rcases ho.2 with ⟨rfl, h0⟩ | ⟨g, cap, cur, rfl, hg, hb, hc, hm, hsz, hx⟩
  · have : A = [] := List.eq_nil_of_length_eq_zero h0
    subst this
    have hI := indexFuncE f lb pr (.slice none 0 0) [] eg w (RowAt.nil _ _ _) (fun e he => by simp at he)
    have HI : Hid (Calls Tryz.prog 86 #[.slice none 0 0, .func (.func f) #[] lb] w fun e w' => e = .returned (.int .i64 (-1)) ∧ Below w.heap.size w w') := hI
    clear hI hf
    go_enter Tryz.func102, Tryz.ntmps102
    go_wp2_with fail
    refine HI.out.mono ?_
    rintro e w1 ⟨rfl, hb1⟩
    go_wp2_with fail
    go_ret
    exact ⟨none, 0, rfl, World.ownsRow_nil _ _ _ _, ⟨hb1.os, hb1.tape, hb1.output, hb1.size, fun b hl _ => hb1.block b hl⟩, rfl⟩
  · have hcur : cur.toList = A.flatMap encE ++ cur.toList.drop (A.length * 8) := by rw [← hx, List.take_append_drop]
    have hb' : w.heap[g]? = some (.cells (A.flatMap encE ++ cur.toList.drop (A.length * 8)).toArray 57 (0, 0)) := by rw [← hcur]; simpa using hb
    refine (deleteFuncE B g cap f lb pr A (cur.toList.drop (A.length * 8)) w eg hg hBw hb' hc hm hsm (by rw [← hcur]; simpa using hsz) (fun e he W hW => hf e he W ⟨hW.below.os, hW.below.tape, hW.below.output, hW.size, fun b hl hne => hW.other b hl (fun h => hne (by subst h; rfl))⟩)).mono ?_
    rintro e w' ⟨rfl, ⟨S', hb2, hs2⟩, hap⟩
    refine ⟨_, cap, rfl, own_mk (S := S') (flat_length lenE _) hg hb2 (Nat.le_trans (List.length_filter_le _ _) hc) hm hs2, ⟨hap.below.os, hap.below.tape, hap.below.output, hap.size, fun b hl hne => hap.other b hl (fun h => hne (by subst h; rfl))⟩, rfl⟩

abbrev deedO (now : Int) (es : Value) (k : Int) (key fld txt : ByteArray) (n at' : Int) (found : Bool) : Obj := .cells #[.int .i64 now, es, .int .i64 k, .string key, .string fld, .string txt, .int .i64 n, .int .i64 at', .bool found] 83
def goneB (now : Int) (e : Kv) : Bool := decide (e.til ≠ 0) && decide (e.til ≤ now)

set_option maxHeartbeats 2000000 in
theorem gone_pred (e : Ent) (now : Int) (es : Value) (k : Int) (key fld txt : ByteArray) (n at' : Int) (found : Bool) (b D : Nat) (t : TypeId) (w : World)
    (hb : w.heap[b]? = some (.cells #[.pointer (some ⟨D, 0, none⟩)] t (0, 0))) (hD : w.heap[D]? = some (deedO now es k key fld txt n at' found)) :
    Calls Tryz.prog 103 #[valE e, .pointer (some ⟨b, 0, none⟩)] w fun r w' => r = .returned (.bool (goneB now e.kv)) ∧ Below w.heap.size w w' := by
  obtain ⟨⟨ekey, ⟨kind, text, count, pairs, items, scores⟩, til⟩, pa, pc, ia, ic, sa, sc⟩ := e
  simp only
  have hbl := balloc w (entO ekey kind text count (.slice pa pairs.length pc) (.slice ia items.length ic) (.slice sa scores.length sc) til)
  have nx := alloc_at w (entO ekey kind text count (.slice pa pairs.length pc) (.slice ia items.length ic) (.slice sa scores.length sc) til)
  have nb := (hbl.block b (lt_at hb)).trans hb
  have nD := (hbl.block D (lt_at hD)).trans hD
  have HG : Hid (goneB now ⟨ekey, ⟨kind, text, count, pairs, items, scores⟩, til⟩ = (decide (til ≠ 0) && decide (til ≤ now))) := rfl
  clear hb hD
  go_enter Tryz.func103, Tryz.ntmps103
  go_upto_region 1 with fail
  generalize w.alloc (entO ekey kind text count (.slice pa pairs.length pc) (.slice ia items.length ic) (.slice sa scores.length sc) til) = V at nx nb nD hbl ⊢
  generalize w.heap.size = b1 at nx ⊢
  have inst := Grown.isThere V
  obtain ⟨r0, r1⟩ := Grown.cells nx
  obtain ⟨r2, r3⟩ := Grown.cells nb
  obtain ⟨r4, r5⟩ := Grown.cells nD
  by_cases ht : til = 0
  · have ht' : (til != 0) = false := by simpa using ht
    have HT : Hid (til = 0) := ht
    clear ht
    refine wp_region_grown (by kernel_rfl) (by kernel_rfl) ?_
    repeat (first | go_big_quiet_skip | (go_big_quiet_want; go_big_quiet_op; first | go_big_quiet_on | (apply Exists.intro; refine ⟨fun _ => ?_, ?_⟩; (· (fail)); go_big_quiet_on)))
    refine wpQuiet_nil ?_
    rintro _ ⟨⟨w1, hb1⟩, rfl⟩
    go_wp2_with fail
    go_ret
    exact ⟨ret_bool (by rw [HG.out, HT.out]; simp), bstep hbl hb1⟩
  · have ht' : (til != 0) = true := by simpa using ht
    have HT : Hid (decide (til ≠ 0) = true) := by show decide (til ≠ 0) = true; simpa using ht
    clear ht
    refine wp_region_grown (by kernel_rfl) (by kernel_rfl) ?_
    repeat (first | go_big_quiet_skip | (go_big_quiet_want; go_big_quiet_op; first | go_big_quiet_on | (apply Exists.intro; refine ⟨fun _ => ?_, ?_⟩; (· (fail)); go_big_quiet_on)))
    refine wpQuiet_nil ?_
    rintro _ ⟨⟨w1, hb1⟩, rfl⟩
    go_wp2_with fail
    go_ret
    exact ⟨ret_bool (by rw [HG.out, HT.out]; simp), bstep hbl hb1⟩
theorem egG : ∀ args w, (callFunc 103 args).run Tryz.prog w = .ok (.enter 103 args) w := enters_of Tryz.func103 (by kernel_rfl) rfl

/-- All is as it was but one block, a row, and what is new. -/
structure Kept (D : Nat) (ob : Option Nat) (w w' : World) : Prop where
  os : w'.os = w.os
  tape : w'.tape = w.tape
  output : w'.output = w.output
  size : w.heap.size ≤ w'.heap.size
  block : ∀ b, b < w.heap.size → b ≠ D → some b ≠ ob → w'.heap[b]? = w.heap[b]?
theorem Kept.refl (D : Nat) (ob : Option Nat) (w : World) : Kept D ob w w := ⟨rfl, rfl, rfl, Nat.le_refl _, fun _ _ _ _ => rfl⟩
theorem Kept.below {D : Nat} {ob : Option Nat} {w W W' : World} (h : Kept D ob w W) (hb : Below W.heap.size W W') : Kept D ob w W' :=
  ⟨hb.os.trans h.os, hb.tape.trans h.tape, hb.output.trans h.output, Nat.le_trans h.size hb.size, fun b hl h1 h2 => (hb.block b (Nat.lt_of_lt_of_le hl h.size)).trans (h.block b hl h1 h2)⟩
theorem Kept.grown {D : Nat} {ob : Option Nat} {w W W' : World} (h : Kept D ob w W) (hb : W.grownBy W' ob) : Kept D ob w W' :=
  ⟨hb.os.trans h.os, hb.tape.trans h.tape, hb.output.trans h.output, Nat.le_trans h.size hb.size, fun b hl h1 h2 => (hb.block b (Nat.lt_of_lt_of_le hl h.size) h2).trans (h.block b hl h1 h2)⟩
theorem Kept.cell {D o : Nat} {ob : Option Nat} {w W : World} (h : Kept D ob w W) (u : Value) : Kept D ob w (W.setCell ⟨D, o, none⟩ u) :=
  ⟨h.os, h.tape, h.output, by simpa [World.setCell] using h.size, fun b hl h1 h2 => (Below.heap_setCell _ _ _ _ h1).trans (h.block b hl h1 h2)⟩

/-- What a deed is behind goOn. -/
def WentOn (D B : Nat) (now : Int) (ob : Option Nat) (k : Int) (key fld txt : ByteArray) (n at' : Int) (found : Bool) (F : List Ent) (w w' : World) : Prop :=
  ∃ a c, w'.heap[D]? = some (deedO now (.slice a F.length c) k key fld txt n at' found) ∧ w'.ownsRow B 57 8 (.slice a F.length c) F.length (F.flatMap encE) ∧ (Value.slice a F.length c).ownBlock = ob ∧ Kept D ob w w'
abbrev ptrO (D : Nat) : Obj := .cells #[.pointer (some ⟨D, 0, none⟩)] 79

set_option maxHeartbeats 8000000 in
theorem goOn_any (now time : Int) (es : Value) (k : Int) (key fld txt : ByteArray) (n at' : Int) (found : Bool) (D B : Nat) (A : List Ent) (w : World) (hD : w.heap[D]? = some (deedO now es k key fld txt n at' found))
    (ho : w.ownsRow B 57 8 es A.length (A.flatMap encE)) (hBw : B ≤ w.heap.size) (hsm : A.length ≤ 1048576) :
    Calls Tryz.prog 75 #[.pointer (some ⟨D, 0, none⟩), .int .i64 time] w fun e w' => e = .returned (.tuple #[]) ∧ WentOn D B (max now time) es.ownBlock k key fld txt n at' found (A.filter (fun e => !goneB (max now time) e.kv)) w w' := by
  obtain ⟨M, hM⟩ : ∃ M, M = max now time := ⟨_, rfl⟩
  rw [← hM]
  have hne := own_ne ho hD (by decide)
  obtain ⟨ea, ec, rfl⟩ := ownsRow_shape ho
  have hbl := balloc w (ptrO D)
  have nb := alloc_at w (ptrO D)
  have nD := (hbl.block D (lt_at hD)).trans hD
  have hDl := lt_at hD
  have ho1 := ownsRow_kept ho hbl
  have hK := (Kept.refl D (Value.slice ea A.length ec).ownBlock w).below hbl
  have hDb : ¬ D = w.heap.size := by omega
  have hzV : B ≤ (w.alloc (ptrO D)).heap.size := by simp; omega
  clear hD ho
  go_enter Tryz.func75, Tryz.ntmps75
  go_upto_region 1 with fail
  generalize w.alloc (ptrO D) = V at nb nD hbl ho1 hK hzV ⊢
  generalize hbx : w.heap.size = bx at nb hDb ⊢
  obtain ⟨c0, f0⟩ := cellsB nb
  obtain ⟨c1, f1⟩ := cellsB nD
  have l0 := lt_at nb
  have l1 := lt_at nD
  have nD1 := setCell_in (.int .i64 M) (o := 0) nD
  have nb1 := (Below.heap_setCell V ⟨D, 0, none⟩ (.int .i64 M) bx (fun h => hDb h.symm)).trans nb
  have ho2 := own_set ho1 (p := ⟨D, 0, none⟩) (by exact hne) (.int .i64 M)
  have hK2 := hK.cell (o := 0) (.int .i64 M)
  have hz2 : B ≤ (V.setCell ⟨D, 0, none⟩ (.int .i64 M)).heap.size := by simpa [World.setCell] using hzV
  have HS : Hid (((V.setCell ⟨D, 0, none⟩ (.int .i64 M)).heap[D]? = some (deedO M (.slice ea A.length ec) k key fld txt n at' found)) ∧ (V.setCell ⟨D, 0, none⟩ (.int .i64 M)).heap[bx]? = some (ptrO D) ∧
    (V.setCell ⟨D, 0, none⟩ (.int .i64 M)).ownsRow B 57 8 (.slice ea A.length ec) A.length (A.flatMap encE) ∧ Kept D (Value.slice ea A.length ec).ownBlock w (V.setCell ⟨D, 0, none⟩ (.int .i64 M)) ∧ B ≤ (V.setCell ⟨D, 0, none⟩ (.int .i64 M)).heap.size) := ⟨nD1, nb1, ho2, hK2, hz2⟩
  have hfin : ∀ W, W = V.setCell ⟨D, 0, none⟩ (.int .i64 M) ∨ W = (V.setCell ⟨D, 0, none⟩ (.int .i64 M)).drew → W.heap = (V.setCell ⟨D, 0, none⟩ (.int .i64 M)).heap := fun W h => by rcases h with rfl | rfl <;> rfl
  clear nD nb ho1 hK hzV hbl nD1 nb1 ho2 hK2 hz2 hbx hBw hfin
  have HMX : Hid (M = max now time) := hM
  clear hM
  go_cut [2] (fun s2 wx => s2 = .pointer (some ⟨bx, 0, none⟩) ∧ wx = (V.setCell ⟨D, 0, none⟩ (.int .i64 M)).drew)
  case first =>
    by_cases hle : now ≤ time
    · have hMt : max now time = M := HMX.out.symm
      have hMt2 : M = time := by rw [HMX.out]; omega
      clear HS
      subst hMt2
      go_region_with fail
      all_goals
        go_wp2_with fail
        go_meet
        case rel => exact ⟨rfl, rfl⟩
    · have hMt : max now time = M := HMX.out.symm
      have hMt2 : M = now := by rw [HMX.out]; omega
      clear HS
      subst hMt2
      go_region_with fail
      all_goals
        go_wp2_with fail
        go_meet
        case rel => exact ⟨rfl, rfl⟩
  case rest =>
    obtain ⟨rfl, rfl⟩ := hcut
    have nD : (V.setCell ⟨D, 0, none⟩ (.int .i64 M)).drew.heap[D]? = some (deedO M (.slice ea A.length ec) k key fld txt n at' found) := HS.out.1
    have nb : (V.setCell ⟨D, 0, none⟩ (.int .i64 M)).drew.heap[bx]? = some (ptrO D) := HS.out.2.1
    have ho : (V.setCell ⟨D, 0, none⟩ (.int .i64 M)).drew.ownsRow B 57 8 (.slice ea A.length ec) A.length (A.flatMap encE) := HS.out.2.2.1
    have hK : Kept D (Value.slice ea A.length ec).ownBlock w (V.setCell ⟨D, 0, none⟩ (.int .i64 M)).drew := HS.out.2.2.2.1.below (Below.refl _ _).drew
    have hz : B ≤ (V.setCell ⟨D, 0, none⟩ (.int .i64 M)).drew.heap.size := HS.out.2.2.2.2
    clear HS c0 f0 c1 f1 l0 l1
    generalize (V.setCell ⟨D, 0, none⟩ (.int .i64 M)).drew = V1 at nD nb ho hK hz ⊢
    obtain ⟨c0, f0⟩ := cellsB nb
    obtain ⟨c1, f1⟩ := cellsB nD
    have l0 := lt_at nb
    have l1 := lt_at nD
    have hnb := own_ne ho nb (by decide)
    have HDF : Hid (∀ W, Below V1.heap.size V1 W → Calls Tryz.prog 102 #[.slice ea A.length ec, .func (.func 103) #[] #[.pointer (some ⟨bx, 0, none⟩)]] W fun e w' =>
        ∃ a c, e = .returned (.slice a (A.filter (fun e => !goneB M e.kv)).length c) ∧ w'.ownsRow B 57 8 (.slice a (A.filter (fun e => !goneB M e.kv)).length c) (A.filter (fun e => !goneB M e.kv)).length ((A.filter (fun e => !goneB M e.kv)).flatMap encE) ∧ W.grownBy w' (Value.slice ea A.length ec).ownBlock ∧ (Value.slice a (A.filter (fun e => !goneB M e.kv)).length c).ownBlock = (Value.slice ea A.length ec).ownBlock) := fun W hW =>
      deleteFunc_any B 103 #[.pointer (some ⟨bx, 0, none⟩)] (fun e => goneB M e.kv) A _ W egG (ownsRow_kept ho hW) (Nat.le_trans hz hW.size) hsm (fun e _ W' hW' => gone_pred e M _ k key fld txt n at' found bx D _ W'
        ((hW'.block bx (bsize hW l0) (fun h => hnb h.symm)).trans ((hW.block bx l0).trans nb)) ((hW'.block D (bsize hW l1) (fun h => hne h.symm)).trans ((hW.block D l1).trans nD)))
    have HV : Hid (V1.heap[D]? = some (deedO M (.slice ea A.length ec) k key fld txt n at' found) ∧ V1.heap[bx]? = some (ptrO D) ∧ Kept D (Value.slice ea A.length ec).ownBlock w V1) := ⟨nD, nb, hK⟩
    generalize hF : A.filter (fun e => !goneB M e.kv) = F at *
    have HFE : Hid (A.filter (fun e => !goneB M e.kv) = F) := hF
    clear hF
    clear ho hK hz nD nb
    go_upto_region 2 with fail
    go_region_with (first | (go_at_call 102; refine (HDF.out _ (by first | exact Below.refl _ _ | exact (Below.refl _ _).drew)).mono ?_; rintro e w2 ⟨a1, e1, rfl, hown, hg, hob⟩; have hg : V1.grownBy w2 (Value.slice ea A.length ec).ownBlock := (by first | exact hg | exact grown_undraw hg); obtain ⟨y1, y2⟩ := same_block (hg.block D l1 (fun h => hne h.symm)); obtain ⟨y3, y4⟩ := same_block (hg.block bx l0 (fun h => hnb h.symm)); have l2 := Nat.lt_of_lt_of_le l1 hg.size; have l3 := Nat.lt_of_lt_of_le l0 hg.size))
    all_goals
      have nD2 := (hg.block D l1 (fun h => hne h.symm)).trans HV.out.1
      have hne2 : (Value.slice a1 F.length e1).ownBlock ≠ some D := by rw [hob]; exact hne
      have hfin : WentOn D B M (Value.slice ea A.length ec).ownBlock k key fld txt n at' found F w (w2.setCell ⟨D, 1, none⟩ (.slice a1 F.length e1)) :=
        ⟨a1, e1, setCell_in (.slice a1 F.length e1) (o := 1) nD2, own_set hown (p := ⟨D, 1, none⟩) hne2 _, hob, (HV.out.2.2.grown hg).cell _⟩
      clear y1 y2 y3 y4 nD2 hne2
      go_wp2_with fail
      exact bodyPost_end (v := .tuple #[]) (by simp [results, Tryz.results75, go_sem]) rfl ⟨rfl, by rw [HFE.out]; exact hfin⟩
end Go.Proofs.YtfnephnecighaaaGreat

/- A deed begun: store.begin. -/
namespace Go.Proofs.YtfnephnecighaaaGreat
open Go.RowKit
set_option linter.unusedVariables false
set_option maxRecDepth 100000

/-- A deed in memory: its entries, what lies of their values, and that all that was there ahead of it is as it was. -/
structure Deed (w : World) (now : Int) (c : Cmd) (at' : Int) (found : Bool) (F : List Ent) (D : Nat) (es : Value) (wr : World) : Prop where
  bD : w.heap.size ≤ D
  deed : wr.heap[D]? = some (deedO now es c.k c.key c.fld c.txt c.n at' found)
  own : wr.ownsRow w.heap.size 57 8 es F.length (F.flatMap encE)
  lists : ∀ e ∈ F, OwnVL w.heap.size wr e.ps e.is e.ss e.kv.x
  below : Below w.heap.size w wr
theorem Deed.mid {w wr w2 : World} {now at' : Int} {c : Cmd} {found : Bool} {F : List Ent} {D : Nat} {es : Value} (h : Deed w now c at' found F D es wr) (hb : Below wr.heap.size wr w2) : Deed w now c at' found F D es w2 where
  bD := h.bD
  deed := (hb.block _ (lt_at h.deed)).trans h.deed
  own := ownsRow_kept h.own hb
  lists := fun e he => (h.lists e he).kept hb
  below := bstep h.below hb

theorem Kept.own {D B B' kk kk' n n' : Nat} {t : TypeId} {w W : World} {v v' : Value} {xs xs' : List Value} (hK : Kept D v'.ownBlock w W) (hr : w.ownsRow B t kk v n xs) (hne : v.ownBlock ≠ some D) (ho : w.ownsRow B' 57 kk' v' n' xs') (ht : t ≠ 57) : W.ownsRow B t kk v n xs := by
  refine ⟨hr.1, ?_⟩
  rcases hr.2 with h | ⟨g, cap, cur, rfl, h2, h3, h4⟩
  · exact .inl h
  · refine .inr ⟨g, cap, cur, rfl, h2, (hK.block g (lt_at h3) (fun h => hne (by subst h; rfl)) (fun h => own_ne ho h3 ht h.symm)).trans h3, h4⟩
theorem Kept.ownVL {D B B' kk' n' : Nat} {w W : World} {v' : Value} {xs' : List Value} {ps is ss : Value} {x : Val} {cs : Array Value} (hK : Kept D v'.ownBlock w W) (hr : OwnVL B w ps is ss x) (hD : w.heap[D]? = some (.cells cs 83 (0, 0))) (ho : w.ownsRow B' 57 kk' v' n' xs') : OwnVL B W ps is ss x :=
  ⟨hK.own hr.p (own_ne hr.p hD (by decide)) ho (by decide), hK.own hr.i (own_ne hr.i hD (by decide)) ho (by decide), hK.own hr.s (own_ne hr.s hD (by decide)) ho (by decide)⟩
theorem OwnVL.set {B D o : Nat} {w : World} {ps is ss : Value} {x : Val} {cs : Array Value} (h : OwnVL B w ps is ss x) (hD : w.heap[D]? = some (.cells cs 83 (0, 0))) (u : Value) : OwnVL B (w.setCell ⟨D, o, none⟩ u) ps is ss x :=
  ⟨own_set h.p (own_ne h.p hD (by decide)) u, own_set h.i (own_ne h.i hD (by decide)) u, own_set h.s (own_ne h.s hD (by decide)) u⟩
theorem Deed.put {w wr : World} {now at' at2 : Int} {c : Cmd} {found f2 : Bool} {F : List Ent} {D : Nat} {es : Value} (h : Deed w now c at' found F D es wr) : Deed w now c at2 f2 F D es ((wr.setCell ⟨D, 7, none⟩ (.int .i64 at2)).setCell ⟨D, 8, none⟩ (.bool f2)) := by
  have d1 := setCell_in (.int .i64 at2) (o := 7) h.deed
  have d2 := setCell_in (.bool f2) (o := 8) d1
  have hne := own_ne h.own h.deed (by decide)
  exact ⟨h.bD, d2, own_set (own_set h.own (p := ⟨D, 7, none⟩) hne _) (p := ⟨D, 8, none⟩) hne _, fun e he => ((h.lists e he).set h.deed _).set d1 _, (h.below.setCell h.bD _).setCell h.bD _⟩
theorem Deed.put2 {w wr : World} {now at' at2 : Int} {c : Cmd} {found f2 : Bool} {F : List Ent} {D : Nat} {es : Value} (h : Deed w now c at' found F D es wr) : Deed w now c at2 f2 F D es ((wr.setCell ⟨D, 8, none⟩ (.bool f2)).setCell ⟨D, 7, none⟩ (.int .i64 at2)) := by
  have d1 := setCell_in (.bool f2) (o := 8) h.deed
  have d2 := setCell_in (.int .i64 at2) (o := 7) d1
  have hne := own_ne h.own h.deed (by decide)
  exact ⟨h.bD, d2, own_set (own_set h.own (p := ⟨D, 8, none⟩) hne _) (p := ⟨D, 7, none⟩) hne _, fun e he => ((h.lists e he).set h.deed _).set d1 _, (h.below.setCell h.bD _).setCell h.bD _⟩

set_option maxHeartbeats 8000000 in
theorem begin_core (now time : Int) (ea : Option Addr) (ec : Nat) (E : List Ent) (c : Cmd) (w : World) (hrow : RowAt 8 encE w (.slice ea E.length ec) E) (hls : ∀ e ∈ E, Lists w e.ps e.is e.ss e.kv.x) (hsz : ∀ e ∈ E, e.kv.x.size ≤ 1048576) (hn : E.length ≤ 1048576)
    (hri : E.Pairwise (fun a b => ltK a.kv b.kv = true)) :
    Calls Tryz.prog 39 #[stoV now (.slice ea E.length ec), .int .i64 time, c.v] w fun e w' => ∃ (D : Nat), e = .returned (.pointer (some ⟨D, 0, none⟩)) ∧ ∃ (F : List Ent) (es : Value) (p : Nat),
      Deed w (max now time) c (p : Int) (hitB (fun e : Ent => cmpS e.kv.key c.key) F p) F D es w' ∧ F.map (·.kv) = (E.map (·.kv)).filter (fun e => !goneB (max now time) e) ∧ Parts (fun e : Ent => cmpS e.kv.key c.key) F p := by
  have HFS : Hid (∀ W, Below w.heap.size w W → Calls Tryz.prog 74 #[stoV now (.slice ea E.length ec)] W fun e w' => ∃ (sv : Value) (A : List Ent), e = .returned (stoV now sv) ∧ w'.ownsRow W.heap.size 57 8 sv A.length (A.flatMap encE) ∧ A.map (·.kv) = E.map (·.kv) ∧ (∀ e ∈ A, OwnVL W.heap.size w' e.ps e.is e.ss e.kv.x) ∧ Below W.heap.size W w') := fun W hW =>
    freshStore_core now ea ec E W (hrow.below hW) (fun e he => (hls e he).below hW) hsz hn
  obtain ⟨k, key, fld, txt, n⟩ := c
  obtain ⟨n0, n1, hB0, hs0⟩ := two_newF w (stoO now (.slice ea E.length ec)) (cmdO0 k key fld txt n)
  clear hrow hls hsz
  go_enter Tryz.func39, Tryz.ntmps39
  go_upto_region 1 with fail
  generalize (w.alloc (stoO now (.slice ea E.length ec))).alloc (cmdO0 k key fld txt n) = V at n0 n1 hB0 hs0 ⊢
  obtain ⟨c0, f0⟩ := cellsB n0
  obtain ⟨c1, f1⟩ := cellsB n1
  have l0 := lt_at n0
  have l1 := lt_at n1
  obtain ⟨s0, s1, t0, t1, t2, t3, t4⟩ : V.cell? ⟨w.heap.size, 0, none⟩ = some (.int .i64 now) ∧ V.cell? ⟨w.heap.size, 1, none⟩ = some (.slice ea E.length ec) ∧ V.cell? ⟨w.heap.size + 1, 0, none⟩ = some (.int .i64 k) ∧ V.cell? ⟨w.heap.size + 1, 1, none⟩ = some (.string key) ∧ V.cell? ⟨w.heap.size + 1, 2, none⟩ = some (.string fld) ∧ V.cell? ⟨w.heap.size + 1, 3, none⟩ = some (.string txt) ∧ V.cell? ⟨w.heap.size + 1, 4, none⟩ = some (.int .i64 n) := ⟨c0 0, c0 1, c1 0, c1 1, c1 2, c1 3, c1 4⟩
  have HN1 : Hid (V.heap[w.heap.size + 1]? = some (cmdO0 k key fld txt n)) := n1
  have HB0 : Hid (Below w.heap.size w V) := hB0
  have HC : Hid (∀ W, Below V.heap.size V W → Calls Tryz.prog 74 #[stoV now (.slice ea E.length ec)] W fun e w' => ∃ (sv : Value) (A : List Ent), e = .returned (stoV now sv) ∧ (w'.ownsRow V.heap.size 57 8 sv A.length (A.flatMap encE) ∧ A.map (·.kv) = E.map (·.kv) ∧ (∀ e ∈ A, OwnVL V.heap.size w' e.ps e.is e.ss e.kv.x)) ∧ Below V.heap.size V w') := fun W hW =>
    (HFS W (bstep hB0 hW)).mono fun e w' ⟨sv, A, h1, h2, h3, h4, h5⟩ => ⟨sv, A, h1, ⟨ownsRow_base h2 hW.size, h3, fun x hx => (h4 x hx).base hW.size⟩, bstep hW h5⟩
  clear c0 c1 n0 n1 hB0 HFS
  generalize hb1 : w.heap.size + 1 = b1 at *
  go_cut [7] (fun s7 wx => ∃ (D : Nat) (sv : Value) (A : List Ent), s7 = .pointer (some ⟨D, 0, none⟩) ∧ wx.heap[D]? = some (deedO now sv k key fld txt n 0 false) ∧ wx.heap[b1]? = some (cmdO0 k key fld txt n) ∧ V.heap.size ≤ D ∧
    (wx.ownsRow V.heap.size 57 8 sv A.length (A.flatMap encE) ∧ A.map (·.kv) = E.map (·.kv) ∧ (∀ e ∈ A, OwnVL V.heap.size wx e.ps e.is e.ss e.kv.x)) ∧ Below V.heap.size V wx)
  case first =>
    go_region_held3 (fun w' => w'.cell? ⟨w.heap.size, 0, none⟩ = some (.int .i64 now) ∧ w'.cell? ⟨w.heap.size, 1, none⟩ = some (.slice ea E.length ec) ∧ w'.cell? ⟨b1, 0, none⟩ = some (.int .i64 k) ∧ w'.cell? ⟨b1, 1, none⟩ = some (.string key) ∧ w'.cell? ⟨b1, 2, none⟩ = some (.string fld) ∧ w'.cell? ⟨b1, 3, none⟩ = some (.string txt) ∧ w'.cell? ⟨b1, 4, none⟩ = some (.int .i64 n)) (go_keep)
      (first | (go_at_call 74; refine (HC.out _ (by first | exact Below.refl _ _ | exact (Below.refl _ _).drew)).mono ?_; rintro e w2 ⟨sv, A, rfl, hown, hb2⟩; obtain ⟨y1, y2⟩ := same_block (hb2.block w.heap.size l0); obtain ⟨y3, y4⟩ := same_block (hb2.block b1 l1); have z0 := bsize hb2 l0; have z1 := bsize hb2 l1))
    all_goals
      have HX : Hid _ := hown
      have HB2 : Hid (Below V.heap.size V w2) := hb2
      clear y1 y2 y3 y4
      go_wp2_with fail
      go_meet
      case rel =>
        have hbl := balloc w2 (deedO now sv k key fld txt n 0 false)
        refine ⟨w2.heap.size, sv, A, rfl, alloc_at _ _, (hbl.block b1 z1).trans ((HB2.out.block b1 l1).trans HN1.out), HB2.out.size, ⟨ownsRow_kept HX.out.1 hbl, HX.out.2.1, fun e he => (HX.out.2.2 e he).kept hbl⟩, bstep HB2.out hbl⟩
  case rest =>
    obtain ⟨D, sv, A, rfl, nD, nb1, hDV, ⟨hown, hkv, hl⟩, hbV⟩ := hcut
    obtain ⟨a1, e1, rfl⟩ := ownsRow_shape hown
    have hAl : A.length = E.length := by have := congrArg List.length hkv; simpa using this
    have HG := goOn_any now time (.slice a1 A.length e1) k key fld txt n 0 false D V.heap.size A wc nD hown hbV.size (by omega)
    have hnb := own_ne hown nb1 (by decide)
    obtain ⟨M, hM⟩ : ∃ M, M = max now time := ⟨_, rfl⟩
    rw [← hM] at HG
    have HM : Hid (M = max now time) := hM
    have HGO : Hid (Calls Tryz.prog 75 #[.pointer (some ⟨D, 0, none⟩), .int .i64 time] wc fun e w' => e = .returned (.tuple #[]) ∧ WentOn D V.heap.size M (Value.slice a1 A.length e1).ownBlock k key fld txt n 0 false (A.filter (fun e => !goneB M e.kv)) wc w') := HG
    have HC0 : Hid (wc.heap[D]? = some (deedO now (.slice a1 A.length e1) k key fld txt n 0 false) ∧ wc.heap[b1]? = some (cmdO0 k key fld txt n) ∧ wc.ownsRow V.heap.size 57 8 (.slice a1 A.length e1) A.length (A.flatMap encE) ∧ (∀ e ∈ A, OwnVL V.heap.size wc e.ps e.is e.ss e.kv.x) ∧ Below V.heap.size V wc) := ⟨nD, nb1, hown, hl, hbV⟩
    have HKV : Hid (A.map (·.kv) = E.map (·.kv)) := hkv
    have HNB : Hid ((Value.slice a1 A.length e1).ownBlock ≠ some b1) := hnb
    have hbV2 : w.heap.size + 2 = V.heap.size := hs0.symm
    clear HG hM nD nb1 hown hl hbV hkv hnb s0 s1 t0 t1 t2 t3 t4
    go_wp2_with fail
    refine HGO.out.mono ?_
    rintro e w2 ⟨rfl, a2, e2, nD2, hown2, hob, hK⟩
    have l1c := lt_at HC0.out.2.1
    have nb2 := (hK.block b1 l1c (by omega) (fun h => HNB.out h.symm)).trans HC0.out.2.1
    have hlF : ∀ e ∈ A.filter (fun e => !goneB M e.kv), OwnVL V.heap.size w2 e.ps e.is e.ss e.kv.x := fun e he => Kept.ownVL hK (HC0.out.2.2.2.1 e (List.mem_filter.1 he).1) HC0.out.1 HC0.out.2.2.1
    have hbw : Below w.heap.size w w2 := by
      have h0 := bstep HB0.out (HC0.out.2.2.2.2.mono (Nat.le_refl _))
      refine ⟨hK.os.trans h0.os, hK.tape.trans h0.tape, hK.output.trans h0.output, Nat.le_trans h0.size hK.size, fun b hb => (hK.block b (by have := h0.size; omega) (by omega) (fun h => ?_)).trans (h0.block b hb)⟩
      have := (World.ownsRow.lt HC0.out.2.2.1 b h.symm).1
      omega
    have hFkv : (A.filter (fun e => !goneB M e.kv)).map (·.kv) = (E.map (·.kv)).filter (fun e => !goneB M e) := by
      rw [← HKV.out, List.filter_map]; rfl
    have hpw : (A.filter (fun e => !goneB M e.kv)).Pairwise (fun a b => ltK a.kv b.kv = true) := by
      have h1 : (A.map (·.kv)).Pairwise (fun a b => ltK a b = true) := by rw [HKV.out, List.pairwise_map]; exact hri
      rw [List.pairwise_map] at h1
      exact h1.filter _
    have hFl : (A.filter (fun e => !goneB M e.kv)).length ≤ 1048576 := Nat.le_trans (List.length_filter_le _ _) (by omega)
    generalize hF : A.filter (fun e => !goneB M e.kv) = F at *
    have hpt := parts_of (lt := fun a b : Ent => ltK a.kv b.kv) (fun e : Ent => cmpS e.kv.key key) (fun a b h h' => by
      rw [cmpS_lt] at h' ⊢
      exact ltS_trans h h') F hpw
    generalize posOf (fun e : Ent => cmpS e.kv.key key) F = p at *
    have HD2 : Hid (Deed w M ⟨k, key, fld, txt, n⟩ 0 false F D (.slice a2 F.length e2) w2) := ⟨by omega, nD2, ownsRow_base hown2 (by omega), fun e he => (hlF e he).base (by omega), hbw⟩
    have HBS : Hid (∀ W, Below w2.heap.size w2 W → Calls Tryz.prog 76 #[.slice a2 F.length e2, .string key, .func (.func 77) #[] #[]] W fun e w' => e = .returned (.tuple #[.int .i64 p, .bool (hitB (fun e : Ent => cmpS e.kv.key key) F p)]) ∧ Below w2.heap.size w2 w') := fun W hW =>
      (bsearchE 77 #[] key (fun e : Ent => cmpS e.kv.key key) egB _ F p W ((RowAt.ofOwn lenE hown2 (by omega)).below hW) (fun x W' _ => keyCmp_pred key x W') hpt).mono fun e w' h => ⟨h.1, bstep hW h.2⟩
    have HFIN : Hid (F.map (·.kv) = (E.map (·.kv)).filter (fun e => !goneB M e) ∧ Parts (fun e : Ent => cmpS e.kv.key key) F p) := ⟨hFkv, hpt⟩
    obtain ⟨q0, g0⟩ := cellsB nb2
    obtain ⟨q1, g1⟩ := cellsB nD2
    have m0 := lt_at nb2
    have m1 := lt_at nD2
    obtain ⟨hit, hH⟩ : ∃ h, hitB (fun e : Ent => cmpS e.kv.key key) F p = h := ⟨_, rfl⟩
    rw [hH] at HBS
    have HH : Hid (hitB (fun e : Ent => cmpS e.kv.key key) F p = hit) := hH
    clear hH
    clear HGO HC0 HNB HKV HN1 hob hK nb2 nD2 hlF hbw hFkv hpw hpt hown2 hF
    go_upto_region 3 with fail
    go_region_with (first | (go_at_call 76; refine (HBS.out _ (by first | exact Below.refl _ _ | exact (Below.refl _ _).drew)).mono ?_; rintro e w3 ⟨rfl, hb3⟩; obtain ⟨y1, y2⟩ := same_block (hb3.block D m1); obtain ⟨y3, y4⟩ := same_block (hb3.block b1 m0); have m2 := bsize hb3 m1))
    all_goals
      have hd3 := HD2.out.mid hb3
      clear y1 y2 y3 y4
      go_wp2_with fail
      go_ret
      refine ⟨D, rfl, F, .slice a2 F.length e2, p, ?_, ?_, HFIN.out.2⟩
      · rw [← HM.out, HH.out]
        first | exact hd3.put | exact hd3.put2
      · rw [← HM.out]; exact HFIN.out.1
end Go.Proofs.YtfnephnecighaaaGreat

/- How long a key is there: (*store.deed).life. -/
namespace Go.Proofs.YtfnephnecighaaaGreat
open Go.RowKit
set_option linter.unusedVariables false
set_option maxRecDepth 100000

theorem Deed.entry {w wr : World} {now at' : Int} {c : Cmd} {found : Bool} {F : List Ent} {D : Nat} {es : Value} (h : Deed w now c at' found F D es wr) (p : Nat) (hp : p < F.length) : ∃ g cap S, es = .slice (some ⟨g, 0, none⟩) F.length cap ∧ w.heap.size ≤ g ∧ g ≠ D ∧ F.length ≤ cap ∧ cap ≤ maxLen ∧
    wr.heap[g]? = some (.cells (F.flatMap encE ++ S).toArray 57 (0, 0)) ∧ (F.flatMap encE ++ S).length = cap * 8 := by
  obtain ⟨g, cap, S, hs, hg, hb, hc, hm, hsz⟩ := own_open h.own (by omega)
  refine ⟨g, cap, S, hs, hg, ?_, hc, hm, hb, hsz⟩
  rintro rfl
  exact own_ne h.own h.deed (by decide) (by rw [hs]; rfl)

def lifeRep (now : Int) (found : Bool) (til : Int) : Rep := if found = false then { code := 5 } else if til = 0 then {} else { n := til - now }

set_option maxHeartbeats 4000000 in
theorem life_none (w wr : World) (now at' : Int) (c : Cmd) (F : List Ent) (D : Nat) (es : Value) (h : Deed w now c at' false F D es wr) :
    Calls Tryz.prog 82 #[.pointer (some ⟨D, 0, none⟩)] wr fun e w' => e = .returned (repV 5 ⟨#[]⟩ 0 (.slice none 0 0)) ∧ Below wr.heap.size wr w' := by
  have hbl := balloc wr (.cells #[.int .i64 0, .string ⟨#[]⟩, .int .i64 0, .slice none 0 0] 32)
  have nx := alloc_at wr (.cells #[.int .i64 0, .string ⟨#[]⟩, .int .i64 0, .slice none 0 0] 32)
  have nD := (hbl.block D (lt_at h.deed)).trans h.deed
  obtain ⟨k, key, fld, txt, n⟩ := c
  clear h
  go_enter Tryz.func82, Tryz.ntmps82
  go_upto_region 1 with fail
  generalize wr.alloc (.cells #[.int .i64 0, .string ⟨#[]⟩, .int .i64 0, .slice none 0 0] 32) = V at nx nD hbl ⊢
  generalize hb : wr.heap.size = b at nx hbl ⊢
  obtain ⟨q0, f0⟩ := cellsB nx
  obtain ⟨q1, f1⟩ := cellsB nD
  have l0 := lt_at nx
  have l1 := lt_at nD
  go_wp2_with fail
  refine bodyPost_ret (v := repV 5 ⟨#[]⟩ 0 (.slice none 0 0)) (by simp [results, Tryz.results82, go_sem, q0]) rfl ⟨rfl, ?_⟩
  exact (((hbl.setCell (Nat.le_refl _) _).setCell (Nat.le_refl _) _).setCell (Nat.le_refl _) _).setCell (Nat.le_refl _) _

set_option maxHeartbeats 4000000 in
theorem life_some (w wr : World) (now : Int) (p : Nat) (c : Cmd) (F : List Ent) (D : Nat) (es : Value) (h : Deed w now c (p : Int) true F D es wr) (hp : p < F.length) (hn0 : 0 ≤ now) (hn1 : now ≤ 1073741824) (ht0 : 0 ≤ F[p].kv.til) (ht1 : F[p].kv.til ≤ 1073741824) :
    Calls Tryz.prog 82 #[.pointer (some ⟨D, 0, none⟩)] wr fun e w' => e = .returned (repV 0 ⟨#[]⟩ (lifeRep now true F[p].kv.til).n (.slice none 0 0)) ∧ Below wr.heap.size wr w' := by
  obtain ⟨g, cap, S, hs, hgw, hgD, hc1, hc2, hrow, hsz⟩ := h.entry p hp
  obtain ⟨y, hy⟩ : ∃ y : Ent, F[p] = y := ⟨_, rfl⟩
  rw [hy] at ht0 ht1 ⊢
  subst hs
  have HR : Hid (∀ t, lifeRep now true t = if t = 0 then {} else { n := t - now }) := fun t => rfl
  have hbl := balloc wr (.cells #[.int .i64 0, .string ⟨#[]⟩, .int .i64 0, .slice none 0 0] 32)
  have nx := alloc_at wr (.cells #[.int .i64 0, .string ⟨#[]⟩, .int .i64 0, .slice none 0 0] 32)
  have nD := (hbl.block D (lt_at h.deed)).trans h.deed
  have nR := (hbl.block g (lt_at hrow)).trans hrow
  obtain ⟨-, -, -, -, -, -, -, r7, -⟩ := row_eight nR hp hy
  obtain ⟨k, key, fld, txt, n⟩ := c
  have hpi : (p : Int) < (F.length : Int) := by omega
  have hpi0 : (0 : Int) ≤ (p : Int) := by omega
  clear h hrow hsz
  go_enter Tryz.func82, Tryz.ntmps82
  go_upto_region 1 with fail
  generalize wr.alloc (.cells #[.int .i64 0, .string ⟨#[]⟩, .int .i64 0, .slice none 0 0] 32) = V at nx nD nR r7 hbl ⊢
  generalize hb : wr.heap.size = b at nx hbl ⊢
  obtain ⟨q0, f0⟩ := cellsB nx
  obtain ⟨q1, f1⟩ := cellsB nD
  go_wp2_with fail
  have inst := Grown.isThere V
  obtain ⟨x0, x1⟩ := Grown.cells nx
  obtain ⟨x2, x3⟩ := Grown.cells nD
  have g7 := fun gr => Grown.cell (lt_at nR) r7 gr
  have HN : Hid (∀ W, Below V.heap.size V W → W.heap[b]? = some (.cells #[.int .i64 0, .string ⟨#[]⟩, .int .i64 0, .slice none 0 0] 32 (0, 0)) ∧ W.heap[D]? = some (deedO now (.slice (some ⟨g, 0, none⟩) F.length cap) k key fld txt n (p : Int) true) ∧ Below b wr W) := fun W hW => ⟨(hW.block _ (lt_at nx)).trans nx, (hW.block _ (lt_at nD)).trans nD, hbl.trans (hW.mono (by have := hbl.size; omega))⟩
  clear nx nD nR r7 q0 f0 q1 f1 hbl
  refine wp_region_grown (by kernel_rfl) (by kernel_rfl) ?_
  repeat (first | go_big_quiet_skip | (go_big_quiet_want; go_big_quiet_op; first | go_big_quiet_on | (apply Exists.intro; refine ⟨fun _ => ?_, ?_⟩; (· (fail)); go_big_quiet_on)))
  refine wpQuiet_nil ?_
  rintro _ ⟨⟨w1, hb1⟩, rfl⟩
  obtain ⟨m0, m1, hB⟩ := HN.out _ hb1
  have HB : Hid _ := hB
  obtain ⟨q0, f0⟩ := cellsB m0
  obtain ⟨q1, f1⟩ := cellsB m1
  have l0 := lt_at m0
  have l1 := lt_at m1
  clear x0 x1 x2 x3 g7 inst m0 m1 hB
  by_cases ht : y.kv.til = 0
  · have HT : Hid (y.kv.til = 0) := ht
    go_wp2_with fail
    refine bodyPost_ret (v := repV 0 ⟨#[]⟩ 0 (.slice none 0 0)) (by simp [results, Tryz.results82, go_sem, q0]) rfl ⟨?_, ?_⟩
    · rw [HR.out, if_pos HT.out]
    · first | rw [hb] | skip
      (iterate 4 (refine Below.setCell ?_ (by simp) _))
      exact HB.out
  · have HT : Hid (¬ y.kv.til = 0) := ht
    have ht' : (y.kv.til == 0) = false := by simpa using ht
    clear ht
    go_wp2_with fail
    refine bodyPost_ret (v := repV 0 ⟨#[]⟩ (y.kv.til - now) (.slice none 0 0)) (by simp [results, Tryz.results82, go_sem, q0]) rfl ⟨?_, ?_⟩
    · rw [HR.out, if_neg HT.out]
    · first | rw [hb] | skip
      (iterate 4 (refine Below.setCell ?_ (by simp) _))
      exact HB.out
end Go.Proofs.YtfnephnecighaaaGreat
