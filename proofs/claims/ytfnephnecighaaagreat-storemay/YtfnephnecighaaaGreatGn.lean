/- A deed's time goes on, and what has run out goes: (*store.deed).goOn. -/
import Derived.Test.YtfnephnecighaaaGreatDf
import Derived.Test.YtfnephnecighaaaGreatGw
namespace Go.Proofs.YtfnephnecighaaaGreat
open Go.RowKit
set_option linter.unusedVariables false
set_option maxRecDepth 100000

theorem deleteFunc_any (B f : Nat) (lb : Array Value) (pr : Ent → Bool) (A : List Ent) (s : Value) (w : World) (eg : ∀ args w, (callFunc f args).run Tryz.prog w = .ok (.enter f args) w)
    (ho : w.ownsRow B 57 8 s A.length (A.flatMap encE)) (hBw : B ≤ w.heap.size) (hsm : A.length ≤ 1048576)
    (hf : ∀ e ∈ A, ∀ W, w.grownBy W s.ownBlock → Calls Tryz.prog f (#[valE e] ++ lb) W fun r w' => r = .returned (.bool (pr e)) ∧ Below W.heap.size W w') :
    Calls Tryz.prog 102 #[s, .func (.func f) #[] lb] w fun e w' =>
      ∃ a c, e = .returned (.slice a (A.filter (fun e => !pr e)).length c) ∧ w'.ownsRow B 57 8 (.slice a (A.filter (fun e => !pr e)).length c) (A.filter (fun e => !pr e)).length ((A.filter (fun e => !pr e)).flatMap encE) ∧ w.grownBy w' s.ownBlock ∧ (Value.slice a (A.filter (fun e => !pr e)).length c).ownBlock = s.ownBlock := by
  rcases ho.2 with ⟨rfl, h0⟩ | ⟨g, cap, cur, rfl, hg, hb, hc, hm, hsz, hx⟩
  · have : A = [] := List.eq_nil_of_length_eq_zero h0
    subst this
    have hI := indexFuncE f lb pr (.slice none 0 0) [] eg w (RowAt.nil _ _ _) (fun e he => by simp at he)
    have HI : Hid (Calls Tryz.prog 86 #[.slice none 0 0, .func (.func f) #[] lb] w fun e w' => e = .returned (.int .i64 (-1)) ∧ Below w.heap.size w w') := hI
    clear hI hf
    go_enter Tryz.func102, Tryz.ntmps102
    go_wp2_with fail
    refine HI.out.mono ?_
    rintro e w1 ⟨rfl, hb1⟩
    go_wp2_with fail
    go_ret
    exact ⟨none, 0, rfl, World.ownsRow_nil _ _ _ _, ⟨hb1.os, hb1.tape, hb1.output, hb1.size, fun b hl _ => hb1.block b hl⟩, rfl⟩
  · have hcur : cur.toList = A.flatMap encE ++ cur.toList.drop (A.length * 8) := by rw [← hx, List.take_append_drop]
    have hb' : w.heap[g]? = some (.cells (A.flatMap encE ++ cur.toList.drop (A.length * 8)).toArray 57 (0, 0)) := by rw [← hcur]; simpa using hb
    refine (deleteFuncE B g cap f lb pr A (cur.toList.drop (A.length * 8)) w eg hg hBw hb' hc hm hsm (by rw [← hcur]; simpa using hsz) (fun e he W hW => hf e he W ⟨hW.below.os, hW.below.tape, hW.below.output, hW.size, fun b hl hne => hW.other b hl (fun h => hne (by subst h; rfl))⟩)).mono ?_
    rintro e w' ⟨rfl, ⟨S', hb2, hs2⟩, hap⟩
    refine ⟨_, cap, rfl, own_mk (S := S') (flat_length lenE _) hg hb2 (Nat.le_trans (List.length_filter_le _ _) hc) hm hs2, ⟨hap.below.os, hap.below.tape, hap.below.output, hap.size, fun b hl hne => hap.other b hl (fun h => hne (by subst h; rfl))⟩, rfl⟩

abbrev deedO (now : Int) (es : Value) (k : Int) (key fld txt : ByteArray) (n at' : Int) (found : Bool) : Obj := .cells #[.int .i64 now, es, .int .i64 k, .string key, .string fld, .string txt, .int .i64 n, .int .i64 at', .bool found] 83
def goneB (now : Int) (e : Kv) : Bool := decide (e.til ≠ 0) && decide (e.til ≤ now)

set_option maxHeartbeats 2000000 in
theorem gone_pred (e : Ent) (now : Int) (es : Value) (k : Int) (key fld txt : ByteArray) (n at' : Int) (found : Bool) (b D : Nat) (t : TypeId) (w : World)
    (hb : w.heap[b]? = some (.cells #[.pointer (some ⟨D, 0, none⟩)] t (0, 0))) (hD : w.heap[D]? = some (deedO now es k key fld txt n at' found)) :
    Calls Tryz.prog 103 #[valE e, .pointer (some ⟨b, 0, none⟩)] w fun r w' => r = .returned (.bool (goneB now e.kv)) ∧ Below w.heap.size w w' := by
  obtain ⟨⟨ekey, ⟨kind, text, count, pairs, items, scores⟩, til⟩, pa, pc, ia, ic, sa, sc⟩ := e
  simp only
  have hbl := balloc w (entO ekey kind text count (.slice pa pairs.length pc) (.slice ia items.length ic) (.slice sa scores.length sc) til)
  have nx := alloc_at w (entO ekey kind text count (.slice pa pairs.length pc) (.slice ia items.length ic) (.slice sa scores.length sc) til)
  have nb := (hbl.block b (lt_at hb)).trans hb
  have nD := (hbl.block D (lt_at hD)).trans hD
  have HG : Hid (goneB now ⟨ekey, ⟨kind, text, count, pairs, items, scores⟩, til⟩ = (decide (til ≠ 0) && decide (til ≤ now))) := rfl
  clear hb hD
  go_enter Tryz.func103, Tryz.ntmps103
  go_upto_region 1 with fail
  generalize w.alloc (entO ekey kind text count (.slice pa pairs.length pc) (.slice ia items.length ic) (.slice sa scores.length sc) til) = V at nx nb nD hbl ⊢
  generalize w.heap.size = b1 at nx ⊢
  have inst := Grown.isThere V
  obtain ⟨r0, r1⟩ := Grown.cells nx
  obtain ⟨r2, r3⟩ := Grown.cells nb
  obtain ⟨r4, r5⟩ := Grown.cells nD
  by_cases ht : til = 0
  · have ht' : (til != 0) = false := by simpa using ht
    have HT : Hid (til = 0) := ht
    clear ht
    refine wp_region_grown (by kernel_rfl) (by kernel_rfl) ?_
    repeat (first | go_big_quiet_skip | (go_big_quiet_want; go_big_quiet_op; first | go_big_quiet_on | (apply Exists.intro; refine ⟨fun _ => ?_, ?_⟩; (· (fail)); go_big_quiet_on)))
    refine wpQuiet_nil ?_
    rintro _ ⟨⟨w1, hb1⟩, rfl⟩
    go_wp2_with fail
    go_ret
    exact ⟨ret_bool (by rw [HG.out, HT.out]; simp), bstep hbl hb1⟩
  · have ht' : (til != 0) = true := by simpa using ht
    have HT : Hid (decide (til ≠ 0) = true) := by show decide (til ≠ 0) = true; simpa using ht
    clear ht
    refine wp_region_grown (by kernel_rfl) (by kernel_rfl) ?_
    repeat (first | go_big_quiet_skip | (go_big_quiet_want; go_big_quiet_op; first | go_big_quiet_on | (apply Exists.intro; refine ⟨fun _ => ?_, ?_⟩; (· (fail)); go_big_quiet_on)))
    refine wpQuiet_nil ?_
    rintro _ ⟨⟨w1, hb1⟩, rfl⟩
    go_wp2_with fail
    go_ret
    exact ⟨ret_bool (by rw [HG.out, HT.out]; simp), bstep hbl hb1⟩
theorem egG : ∀ args w, (callFunc 103 args).run Tryz.prog w = .ok (.enter 103 args) w := enters_of Tryz.func103 (by kernel_rfl) rfl

/-- All is as it was but one block, a row, and what is new. -/
structure Kept (D : Nat) (ob : Option Nat) (w w' : World) : Prop where
  os : w'.os = w.os
  tape : w'.tape = w.tape
  output : w'.output = w.output
  size : w.heap.size ≤ w'.heap.size
  block : ∀ b, b < w.heap.size → b ≠ D → some b ≠ ob → w'.heap[b]? = w.heap[b]?
theorem Kept.refl (D : Nat) (ob : Option Nat) (w : World) : Kept D ob w w := ⟨rfl, rfl, rfl, Nat.le_refl _, fun _ _ _ _ => rfl⟩
theorem Kept.below {D : Nat} {ob : Option Nat} {w W W' : World} (h : Kept D ob w W) (hb : Below W.heap.size W W') : Kept D ob w W' :=
  ⟨hb.os.trans h.os, hb.tape.trans h.tape, hb.output.trans h.output, Nat.le_trans h.size hb.size, fun b hl h1 h2 => (hb.block b (Nat.lt_of_lt_of_le hl h.size)).trans (h.block b hl h1 h2)⟩
theorem Kept.grown {D : Nat} {ob : Option Nat} {w W W' : World} (h : Kept D ob w W) (hb : W.grownBy W' ob) : Kept D ob w W' :=
  ⟨hb.os.trans h.os, hb.tape.trans h.tape, hb.output.trans h.output, Nat.le_trans h.size hb.size, fun b hl h1 h2 => (hb.block b (Nat.lt_of_lt_of_le hl h.size) h2).trans (h.block b hl h1 h2)⟩
theorem Kept.cell {D o : Nat} {ob : Option Nat} {w W : World} (h : Kept D ob w W) (u : Value) : Kept D ob w (W.setCell ⟨D, o, none⟩ u) :=
  ⟨h.os, h.tape, h.output, by simpa [World.setCell] using h.size, fun b hl h1 h2 => (Below.heap_setCell _ _ _ _ h1).trans (h.block b hl h1 h2)⟩

/-- What a deed is behind goOn. -/
def WentOn (D B : Nat) (now : Int) (ob : Option Nat) (k : Int) (key fld txt : ByteArray) (n at' : Int) (found : Bool) (F : List Ent) (w w' : World) : Prop :=
  ∃ a c, w'.heap[D]? = some (deedO now (.slice a F.length c) k key fld txt n at' found) ∧ w'.ownsRow B 57 8 (.slice a F.length c) F.length (F.flatMap encE) ∧ (Value.slice a F.length c).ownBlock = ob ∧ Kept D ob w w'
abbrev ptrO (D : Nat) : Obj := .cells #[.pointer (some ⟨D, 0, none⟩)] 79

set_option maxHeartbeats 8000000 in
theorem goOn_any (now time : Int) (es : Value) (k : Int) (key fld txt : ByteArray) (n at' : Int) (found : Bool) (D B : Nat) (A : List Ent) (w : World) (hD : w.heap[D]? = some (deedO now es k key fld txt n at' found))
    (ho : w.ownsRow B 57 8 es A.length (A.flatMap encE)) (hBw : B ≤ w.heap.size) (hsm : A.length ≤ 1048576) :
    Calls Tryz.prog 75 #[.pointer (some ⟨D, 0, none⟩), .int .i64 time] w fun e w' => e = .returned (.tuple #[]) ∧ WentOn D B (max now time) es.ownBlock k key fld txt n at' found (A.filter (fun e => !goneB (max now time) e.kv)) w w' := by
  obtain ⟨M, hM⟩ : ∃ M, M = max now time := ⟨_, rfl⟩
  rw [← hM]
  have hne := own_ne ho hD (by decide)
  obtain ⟨ea, ec, rfl⟩ := ownsRow_shape ho
  have hbl := balloc w (ptrO D)
  have nb := alloc_at w (ptrO D)
  have nD := (hbl.block D (lt_at hD)).trans hD
  have hDl := lt_at hD
  have ho1 := ownsRow_kept ho hbl
  have hK := (Kept.refl D (Value.slice ea A.length ec).ownBlock w).below hbl
  have hDb : ¬ D = w.heap.size := by omega
  have hzV : B ≤ (w.alloc (ptrO D)).heap.size := by simp; omega
  clear hD ho
  go_enter Tryz.func75, Tryz.ntmps75
  go_upto_region 1 with fail
  generalize w.alloc (ptrO D) = V at nb nD hbl ho1 hK hzV ⊢
  generalize hbx : w.heap.size = bx at nb hDb ⊢
  obtain ⟨c0, f0⟩ := cellsB nb
  obtain ⟨c1, f1⟩ := cellsB nD
  have l0 := lt_at nb
  have l1 := lt_at nD
  have nD1 := setCell_in (.int .i64 M) (o := 0) nD
  have nb1 := (Below.heap_setCell V ⟨D, 0, none⟩ (.int .i64 M) bx (fun h => hDb h.symm)).trans nb
  have ho2 := own_set ho1 (p := ⟨D, 0, none⟩) (by exact hne) (.int .i64 M)
  have hK2 := hK.cell (o := 0) (.int .i64 M)
  have hz2 : B ≤ (V.setCell ⟨D, 0, none⟩ (.int .i64 M)).heap.size := by simpa [World.setCell] using hzV
  have HS : Hid (((V.setCell ⟨D, 0, none⟩ (.int .i64 M)).heap[D]? = some (deedO M (.slice ea A.length ec) k key fld txt n at' found)) ∧ (V.setCell ⟨D, 0, none⟩ (.int .i64 M)).heap[bx]? = some (ptrO D) ∧
    (V.setCell ⟨D, 0, none⟩ (.int .i64 M)).ownsRow B 57 8 (.slice ea A.length ec) A.length (A.flatMap encE) ∧ Kept D (Value.slice ea A.length ec).ownBlock w (V.setCell ⟨D, 0, none⟩ (.int .i64 M)) ∧ B ≤ (V.setCell ⟨D, 0, none⟩ (.int .i64 M)).heap.size) := ⟨nD1, nb1, ho2, hK2, hz2⟩
  have hfin : ∀ W, W = V.setCell ⟨D, 0, none⟩ (.int .i64 M) ∨ W = (V.setCell ⟨D, 0, none⟩ (.int .i64 M)).drew → W.heap = (V.setCell ⟨D, 0, none⟩ (.int .i64 M)).heap := fun W h => by rcases h with rfl | rfl <;> rfl
  clear nD nb ho1 hK hzV hbl nD1 nb1 ho2 hK2 hz2 hbx hBw hfin
  have HMX : Hid (M = max now time) := hM
  clear hM
  go_cut [2] (fun s2 wx => s2 = .pointer (some ⟨bx, 0, none⟩) ∧ wx = (V.setCell ⟨D, 0, none⟩ (.int .i64 M)).drew)
  case first =>
    by_cases hle : now ≤ time
    · have hMt : max now time = M := HMX.out.symm
      have hMt2 : M = time := by rw [HMX.out]; omega
      clear HS
      subst hMt2
      go_region_with fail
      all_goals
        go_wp2_with fail
        go_meet
        case rel => exact ⟨rfl, rfl⟩
    · have hMt : max now time = M := HMX.out.symm
      have hMt2 : M = now := by rw [HMX.out]; omega
      clear HS
      subst hMt2
      go_region_with fail
      all_goals
        go_wp2_with fail
        go_meet
        case rel => exact ⟨rfl, rfl⟩
  case rest =>
    obtain ⟨rfl, rfl⟩ := hcut
    have nD : (V.setCell ⟨D, 0, none⟩ (.int .i64 M)).drew.heap[D]? = some (deedO M (.slice ea A.length ec) k key fld txt n at' found) := HS.out.1
    have nb : (V.setCell ⟨D, 0, none⟩ (.int .i64 M)).drew.heap[bx]? = some (ptrO D) := HS.out.2.1
    have ho : (V.setCell ⟨D, 0, none⟩ (.int .i64 M)).drew.ownsRow B 57 8 (.slice ea A.length ec) A.length (A.flatMap encE) := HS.out.2.2.1
    have hK : Kept D (Value.slice ea A.length ec).ownBlock w (V.setCell ⟨D, 0, none⟩ (.int .i64 M)).drew := HS.out.2.2.2.1.below (Below.refl _ _).drew
    have hz : B ≤ (V.setCell ⟨D, 0, none⟩ (.int .i64 M)).drew.heap.size := HS.out.2.2.2.2
    clear HS c0 f0 c1 f1 l0 l1
    generalize (V.setCell ⟨D, 0, none⟩ (.int .i64 M)).drew = V1 at nD nb ho hK hz ⊢
    obtain ⟨c0, f0⟩ := cellsB nb
    obtain ⟨c1, f1⟩ := cellsB nD
    have l0 := lt_at nb
    have l1 := lt_at nD
    have hnb := own_ne ho nb (by decide)
    have HDF : Hid (∀ W, Below V1.heap.size V1 W → Calls Tryz.prog 102 #[.slice ea A.length ec, .func (.func 103) #[] #[.pointer (some ⟨bx, 0, none⟩)]] W fun e w' =>
        ∃ a c, e = .returned (.slice a (A.filter (fun e => !goneB M e.kv)).length c) ∧ w'.ownsRow B 57 8 (.slice a (A.filter (fun e => !goneB M e.kv)).length c) (A.filter (fun e => !goneB M e.kv)).length ((A.filter (fun e => !goneB M e.kv)).flatMap encE) ∧ W.grownBy w' (Value.slice ea A.length ec).ownBlock ∧ (Value.slice a (A.filter (fun e => !goneB M e.kv)).length c).ownBlock = (Value.slice ea A.length ec).ownBlock) := fun W hW =>
      deleteFunc_any B 103 #[.pointer (some ⟨bx, 0, none⟩)] (fun e => goneB M e.kv) A _ W egG (ownsRow_kept ho hW) (Nat.le_trans hz hW.size) hsm (fun e _ W' hW' => gone_pred e M _ k key fld txt n at' found bx D _ W'
        ((hW'.block bx (bsize hW l0) (fun h => hnb h.symm)).trans ((hW.block bx l0).trans nb)) ((hW'.block D (bsize hW l1) (fun h => hne h.symm)).trans ((hW.block D l1).trans nD)))
    have HV : Hid (V1.heap[D]? = some (deedO M (.slice ea A.length ec) k key fld txt n at' found) ∧ V1.heap[bx]? = some (ptrO D) ∧ Kept D (Value.slice ea A.length ec).ownBlock w V1) := ⟨nD, nb, hK⟩
    generalize hF : A.filter (fun e => !goneB M e.kv) = F at *
    have HFE : Hid (A.filter (fun e => !goneB M e.kv) = F) := hF
    clear hF
    clear ho hK hz nD nb
    go_upto_region 2 with fail
    go_region_with (first | (go_at_call 102; refine (HDF.out _ (by first | exact Below.refl _ _ | exact (Below.refl _ _).drew)).mono ?_; rintro e w2 ⟨a1, e1, rfl, hown, hg, hob⟩; have hg : V1.grownBy w2 (Value.slice ea A.length ec).ownBlock := (by first | exact hg | exact grown_undraw hg); obtain ⟨y1, y2⟩ := same_block (hg.block D l1 (fun h => hne h.symm)); obtain ⟨y3, y4⟩ := same_block (hg.block bx l0 (fun h => hnb h.symm)); have l2 := Nat.lt_of_lt_of_le l1 hg.size; have l3 := Nat.lt_of_lt_of_le l0 hg.size))
    all_goals
      have nD2 := (hg.block D l1 (fun h => hne h.symm)).trans HV.out.1
      have hne2 : (Value.slice a1 F.length e1).ownBlock ≠ some D := by rw [hob]; exact hne
      have hfin : WentOn D B M (Value.slice ea A.length ec).ownBlock k key fld txt n at' found F w (w2.setCell ⟨D, 1, none⟩ (.slice a1 F.length e1)) :=
        ⟨a1, e1, setCell_in (.slice a1 F.length e1) (o := 1) nD2, own_set hown (p := ⟨D, 1, none⟩) hne2 _, hob, (HV.out.2.2.grown hg).cell _⟩
      clear y1 y2 y3 y4 nD2 hne2
      go_wp2_with fail
      exact bodyPost_end (v := .tuple #[]) (by simp [results, Tryz.results75, go_sem]) rfl ⟨rfl, by rw [HFE.out]; exact hfin⟩
end Go.Proofs.YtfnephnecighaaaGreat
