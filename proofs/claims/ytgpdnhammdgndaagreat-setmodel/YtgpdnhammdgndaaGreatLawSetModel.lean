/- A set has what was added and not removed, each once, rising: whatever is added and removed in whatever order, the set has just the keys of a map to which the same is done: for all raw numbers the law returns true. No condition. -/
import Derived.Test.YtgpdnhammdgndaaGreatMm
import Derived.Test.YtgpdnhammdgndaaGreatMxJ
import Derived.Test.YtgpdnhammdgndaaGreatQs
import Derived.Deep.DeepCutAuto
import Derived.Sort.OwnSorted
namespace Go.Proofs.YtgpdnhammdgndaaGreat.setModelDone
open Go.ChangeShapes Go.WideShapes Go.ChangeAt Go.RowKit Go.Maps
open Go.Proofs.YtgpdnhammdgndaaGreat
set_option linter.unusedVariables false
set_option maxRecDepth 100000

def kOf (p : Nat) : Int := match p with | 0 => 11 | 1 => 11 | 2 => 12 | _ => 13
theorem kOf_le (p : Nat) : 11 ≤ kOf p ∧ kOf p ≤ 13 := by unfold kOf; split <;> omega
abbrev litK : Obj := .cells #[.int .i64 11, .int .i64 11, .int .i64 12, .int .i64 13] 3
theorem lit_at (w : World) (p : Nat) (hp : p < 4) : (w.alloc litK).cell? ⟨w.heap.size, p, none⟩ = some (.int .i64 (kOf p)) := by
  rw [(cellsB (alloc_at w litK)).1]
  have : p = 0 ∨ p = 1 ∨ p = 2 ∨ p = 3 := by omega
  rcases this with rfl | rfl | rfl | rfl <;> rfl
theorem letter (n : Int) : rawText n ⟨#[]⟩ ∈ letters := by
  unfold rawText
  split
  · have h := pickedN_lt n (show 0 < 9 by omega)
    have e : someB n = ⟨#[97 + UInt8.ofNat (pickedN n 9)]⟩ := rfl
    rw [e]
    generalize pickedN n 9 = k at h
    have : k = 0 ∨ k = 1 ∨ k = 2 ∨ k = 3 ∨ k = 4 ∨ k = 5 ∨ k = 6 ∨ k = 7 ∨ k = 8 := by omega
    rcases this with rfl | rfl | rfl | rfl | rfl | rfl | rfl | rfl | rfl <;> simp [letters]
  · have : cutB (⟨#[]⟩ : ByteArray) 6 = ⟨#[]⟩ := by decide +kernel
    rw [this]; simp [letters]
/-- A round's end. -/
theorem fin_set {w w3 : World} {x y : Val} {ps is ss ps' is' ss' : Value} (nv : w3.heap[w.heap.size]? = some (valO x.kind x.text x.count ps is ss)) (hB : Below w.heap.size w w3) (hz : w.heap.size + 2 ≤ w3.heap.size)
    (hl : Lists w3 ps' is' ss' y) (hf1 : From (w.heap.size + 2) ps') (hf2 : From (w.heap.size + 2) is') (hf3 : From (w.heap.size + 2) ss') :
    (storedV w3 w.heap.size y.kind y.text y.count ps' is' ss').heap[w.heap.size]? = some (valO y.kind y.text y.count ps' is' ss') ∧ RepsF (w.heap.size + 2) (storedV w3 w.heap.size y.kind y.text y.count ps' is' ss') (valV y.kind y.text y.count ps' is' ss') y ∧
    w.heap.size + 2 ≤ (storedV w3 w.heap.size y.kind y.text y.count ps' is' ss').heap.size ∧ Below w.heap.size w (storedV w3 w.heap.size y.kind y.text y.count ps' is' ss') ∧
    (∀ n L, SetB w3 (w.heap.size + 1) n L → SetB (storedV w3 w.heap.size y.kind y.text y.count ps' is' ss') (w.heap.size + 1) n L) := by
  have hz' := sizeV w3 w.heap.size y.kind y.text y.count ps' is' ss'
  refine ⟨storedV_block nv, storedV_reps (B := w.heap.size + 2) ⟨_, _, _, rfl, hl, hf1, hf2, hf3⟩ (by omega), by rw [hz']; exact hz, storedV_below hB (Nat.le_refl _), fun n L h => ?_⟩
  have hq := storedV_below (kind := y.kind) (text := y.text) (count := y.count) (ps := ps') (is := is') (ss := ss') (Below.refl w.heap.size w3) (Nat.le_refl w.heap.size)
  exact h.kept (row := some w.heap.size) ⟨hq.os, hq.tape, hq.output, Nat.le_of_eq hz'.symm, fun k _ hk => keepV (fun e => hk (by rw [e]))⟩ (by simp)

/-- A round's end where the map is left as it was: the answer's boxes lie above the store. -/
theorem fin_set2 {w w2 : World} {x y : Val} {ps is ss ps' is' ss' : Value} {oR : Obj} {n : Nat} {L : List ByteArray} (nv : w2.heap[w.heap.size]? = some (valO x.kind x.text x.count ps is ss)) (hB : Below w.heap.size w w2) (hz : w.heap.size + 2 ≤ w2.heap.size)
    (hl : Lists w2 ps' is' ss' y) (hf1 : From (w.heap.size + 2) ps') (hf2 : From (w.heap.size + 2) is') (hf3 : From (w.heap.size + 2) ss') (hs : SetB w2 (w.heap.size + 1) n L) :
    (((storedV w2 w.heap.size y.kind y.text y.count ps' is' ss').alloc (valO y.kind y.text y.count ps' is' ss')).alloc oR).heap[w.heap.size]? = some (valO y.kind y.text y.count ps' is' ss') ∧ RepsF (w.heap.size + 2) (((storedV w2 w.heap.size y.kind y.text y.count ps' is' ss').alloc (valO y.kind y.text y.count ps' is' ss')).alloc oR) (valV y.kind y.text y.count ps' is' ss') y ∧
    w.heap.size + 2 ≤ (((storedV w2 w.heap.size y.kind y.text y.count ps' is' ss').alloc (valO y.kind y.text y.count ps' is' ss')).alloc oR).heap.size ∧ Below w.heap.size w (((storedV w2 w.heap.size y.kind y.text y.count ps' is' ss').alloc (valO y.kind y.text y.count ps' is' ss')).alloc oR) ∧
    SetB (((storedV w2 w.heap.size y.kind y.text y.count ps' is' ss').alloc (valO y.kind y.text y.count ps' is' ss')).alloc oR) (w.heap.size + 1) n L := by
  obtain ⟨F1, F2, F3, F4, F5⟩ := fin_set nv hB hz hl hf1 hf2 hf3
  have FS := F5 _ _ hs
  clear F5
  have hl1 := lt_at F1
  generalize storedV w2 w.heap.size y.kind y.text y.count ps' is' ss' = V at *
  have hbx : Below V.heap.size V ((V.alloc (valO y.kind y.text y.count ps' is' ss')).alloc oR) := (balloc _ _).alloc (by simp) _
  exact ⟨(hbx.block _ hl1).trans F1, F2.same (fun b _ hb => hbx.block b hb) hbx.size, Nat.le_trans F3 hbx.size, bstep F4 hbx, FS.below hbx⟩

set_option maxHeartbeats 16000000 in
theorem walk0 (s : Value) (l : List Raw) (w : World) (hl : RawsAt w s l) :
    Calls Tryz.prog 6 #[s] w fun e w' => e = .returned (.bool true) ∧ Below w.heap.size w w' := by
  obtain ⟨hwf, a, cap, rfl, k1, k2, k3⟩ := hl
  have hmm := @run_makeMap Tryz.prog
  go_enter Tryz.func6, Tryz.ntmps6
  obtain ⟨n0, -⟩ := two_new w (valO 0 ⟨#[]⟩ 0 (.slice none 0 0) (.slice none 0 0) (.slice none 0 0)) (.map #[] 0)
  have hB0 : Below w.heap.size w ((w.alloc (valO 0 ⟨#[]⟩ 0 (.slice none 0 0) (.slice none 0 0) (.slice none 0 0))).alloc (.map #[] 0)) := (balloc _ _).alloc (by simp) _
  have hz0 : w.heap.size + 2 ≤ ((w.alloc (valO 0 ⟨#[]⟩ 0 (.slice none 0 0) (.slice none 0 0) (.slice none 0 0))).alloc (.map #[] 0)).heap.size := by simp
  have hs0 := SetB.made (w.alloc (valO 0 ⟨#[]⟩ 0 (.slice none 0 0) (.slice none 0 0) (.slice none 0 0)))
  rw [show (w.alloc (valO 0 ⟨#[]⟩ 0 (.slice none 0 0) (.slice none 0 0) (.slice none 0 0))).heap.size = w.heap.size + 1 by simp] at hs0
  go_wp2_with fail
  generalize (w.alloc (valO 0 ⟨#[]⟩ 0 (.slice none 0 0) (.slice none 0 0) (.slice none 0 0))).alloc (.map #[] 0) = V at n0 hB0 hz0 hs0 ⊢
  go_loopw [5] (fun c wr => ∃ (m : Nat) (L : List ByteArray) (x : Val) (ps is ss : Value), c = .int .i64 (m : Int) ∧ m ≤ l.length ∧ m ≤ 30 ∧ x = keptV (setX L) ∧ SetL L ∧ (∀ t ∈ L, t ∈ letters) ∧ SetB wr (w.heap.size + 1) m L ∧ wr.heap[w.heap.size]? = some (valO x.kind x.text x.count ps is ss) ∧ RepsF (w.heap.size + 2) wr (valV x.kind x.text x.count ps is ss) x ∧ w.heap.size + 2 ≤ wr.heap.size ∧ Below w.heap.size w wr)
    (fun c _ => 30 - (intOf c).toNat)
  case atStart => exact ⟨0, [], emptyVal 0, _, _, _, rfl, by omega, by omega, kept_nilS.symm, by simp [SetL], by simp, hs0, n0, ⟨_, _, _, rfl, Lists.empty _ 0, From.nil _, From.nil _, From.nil _⟩, hz0, hB0⟩
  case round =>
    clear n0 hB0 hz0 hs0 hmm
    obtain ⟨m, L, x, ps, is, ss, rfl, hm, hm30, hx, hL, hlet, hset, hv, hrep, hsz, hb⟩ := hrel
    by_cases hlt : m < l.length ∧ m < 30
    · obtain ⟨hl1, hl2⟩ := hlt
      rcases k3 with rfl | ⟨b, off, rfl, hbk, hc⟩
      · simp at hl1
      · have hcw : ∀ i (h : i < l.length) (c : Nat), c < 5 → wr.cell? ⟨b, off + i * 5 + c, none⟩ = (encRw l[i])[c]? := fun i hi c hk => (hb.cell (p := ⟨b, off + i * 5 + c, none⟩) hbk).trans (hc i hi c hk)
        obtain ⟨c0, c1, c2, c3, c4⟩ := fiveR hcw m hl1
        have hbw : b < wr.heap.size := Nat.lt_of_lt_of_le hbk hb.size
        have hdw := hwf l[m] (List.getElem_mem hl1)
        clear hcw hc hwf
        generalize l[m] = d at *
        obtain ⟨dk, dkey, dfld, dn, dtxt⟩ := d
        obtain ⟨w1, w2, w3, w4, w5⟩ := hdw
        simp only [i64s] at *
        have p4 := fun W => picked_any dk 4 W w1.1 w1.2 (by omega) (by omega)
        have hp := pickedN_lt dk (show 0 < 4 by omega)
        generalize pickedN dk 4 = p at *
        have hK := kOf_le p
        have hwN : -9223372036854775808 ≤ IntKind.i64.wrap (3 * dfld) ∧ IntKind.i64.wrap (3 * dfld) ≤ 9223372036854775807 := by rw [IntKind.wrap_i64]; omega
        obtain ⟨N, hN⟩ : ∃ N, IntKind.i64.wrap (3 * dfld) = N := ⟨_, rfl⟩
        rw [hN] at hwN
        have hC := fun W => command_any (kOf p - 1) 0 0 N ⟨#[]⟩ W (by omega) (by omega) (by omega) hwN (by decide +kernel)
        have h22 : 1 + pickedN (kOf p - 1) 22 = (kOf p).toNat := by
          unfold pickedN; rw [if_neg (by omega)]; omega
        rw [h22] at hC
        have hcf := cmdFor_fault (kOf p).toNat 0 0 N ⟨#[]⟩ (by omega) (by omega)
        have hck : (cmdFor (kOf p).toNat 0 0 N ⟨#[]⟩).k = kOf p := by show (((kOf p).toNat : Nat) : Int) = kOf p; omega
        have hct : (cmdFor (kOf p).toNat 0 0 N ⟨#[]⟩).txt = rawText N ⟨#[]⟩ := by
          unfold cmdFor
          simp only
          rw [if_pos (by omega)]
        have hlet1 := letter N
        rw [← hct] at hlet1
        have hlit := lit_at wr p hp
        generalize cmdFor (kOf p).toNat 0 0 N ⟨#[]⟩ = c at *
        have h10 := few (nodup_of hL.2.2) hlet
        have hst := sstep hL hcf (by rw [hck]; exact hK) (by omega)
        rw [← hx] at hst
        have HX : Hid (x = keptV (setX L)) := hx
        clear hx
        have hD := do_any x c
        obtain ⟨hr0, hcases⟩ := hst
        rw [hr0] at hD
        rw [hck] at hcases
        clear hr0 hcf h22 hct
        generalize doV x c = y at *
        generalize doR x c = rp at *
        obtain ⟨ck, ckey, cfld, ctxt, cn⟩ := c
        simp only at hck hcases hlet1
        subst hck
        have hwk : IntKind.i64.wrap (kOf p - 1) = kOf p - 1 := by rw [IntKind.wrap_i64]; omega
        generalize kOf p = K at *
        have hcs : ctxt.size ≤ 9223372036854775807 := by
          have : ctxt.size ≤ 1 := by
            simp only [letters, List.mem_cons, List.mem_nil_iff, or_false] at hlet1
            rcases hlet1 with rfl | rfl | rfl | rfl | rfl | rfl | rfl | rfl | rfl | rfl <;> decide
          omega
        have HD : Hid (DoOk x ⟨K, ckey, cfld, ctxt, cn⟩ y rp 0) := hD
        have HC : Hid (∀ W, Calls Tryz.prog 16 #[rawV (K - 1) 0 0 N ⟨#[]⟩] W fun e w' => e = .returned (cmdV K ckey cfld ctxt cn) ∧ Below W.heap.size W w') := hC
        have P4 : Hid (∀ W, Calls Tryz.prog 15 #[.int .i64 dk, .int .i64 4] W fun e w' => e = .returned (.int .i64 (p : Nat)) ∧ W = w') := p4
        have HS : Hid (SetB wr (w.heap.size + 1) m L) := hset
        have HV : Hid (wr.heap[w.heap.size]? = some (valO x.kind x.text x.count ps is ss)) := hv
        have HR : Hid (RepsF (w.heap.size + 2) wr (valV x.kind x.text x.count ps is ss) x) := hrep
        have HCS : Hid _ := hcases
        have HLT : Hid (∀ t ∈ L, t ∈ letters) := hlet
        have HL1 : Hid (ctxt ∈ letters) := hlet1
        clear hD hC p4 hset hv hrep hcases hlet hlet1
        have hi0 : (m : Int) < (l.length : Int) := by omega
        have hi1 : (m : Int) < 30 := by omega
        have hip : (p : Int) < 4 := by omega
        go_wp2_with fail
        refine (P4.out _).mono ?_
        rintro e w0 ⟨rfl, rfl⟩
        clear P4
        have e2 : (wr.alloc litK).cell? ⟨b, off + m * 5 + 2, none⟩ = some (.int .i64 dfld) := ((balloc wr litK).cell (p := ⟨b, off + m * 5 + 2, none⟩) hbw).trans c2
        clear c0 c1 c2 c3 c4
        go_wp2_with fail
        refine (HC.out _).mono ?_
        rintro e w1 ⟨rfl, hb1⟩
        have hbx := bstep (balloc wr litK) hb1
        have hbc := bstep hbx (balloc w1 (.cells #[.int .i64 K, .string ckey, .string cfld, .string ctxt, .int .i64 cn] 28))
        have hgc := alloc_at w1 (.cells #[.int .i64 K, .string ckey, .string cfld, .string ctxt, .int .i64 cn] 28)
        have hB := bstep hb hbc
        have nv := (hbc.block _ (lt_at HV.out)).trans HV.out
        have hr1 := HR.out.reps.below hbc
        have hset := HS.out.below hbc
        have hlk := hset.look 50 Tryz.underlying50 ctxt hcs
        have hz1 := hbx.size
        have HZW : Hid (w.heap.size + 2 ≤ (w1.alloc (.cells #[.int .i64 K, .string ckey, .string cfld, .string ctxt, .int .i64 cn] 28)).heap.size) := by have := hbc.size; show _ ≤ _; omega
        have HNV : Hid ((w1.alloc (.cells #[.int .i64 K, .string ckey, .string cfld, .string ctxt, .int .i64 cn] 28)).heap[w.heap.size]? = some (valO x.kind x.text x.count ps is ss)) := nv
        have HGC : Hid ((w1.alloc (.cells #[.int .i64 K, .string ckey, .string cfld, .string ctxt, .int .i64 cn] 28)).heap[w1.heap.size]? = some (.cells #[.int .i64 K, .string ckey, .string cfld, .string ctxt, .int .i64 cn] 28)) := hgc
        have HSE : Hid (SetB (w1.alloc (.cells #[.int .i64 K, .string ckey, .string cfld, .string ctxt, .int .i64 cn] 28)) (w.heap.size + 1) m L) := hset
        have HB : Hid (Below w.heap.size w (w1.alloc (.cells #[.int .i64 K, .string ckey, .string cfld, .string ctxt, .int .i64 cn] 28))) := hB
        clear hb1 hbx hbc HC HV HR HS e2 hbw hb hset hB nv hgc
        obtain ⟨pz, iz, sz, he, hls⟩ := hr1
        have he' : ps = pz ∧ is = iz ∧ ss = sz := by simpa [valV] using he
        obtain ⟨rfl, rfl, rfl⟩ := he'
        clear he
        obtain ⟨pa, pc, ia, ic, sa, sc, rfl, rfl, rfl, -⟩ := hls.lens
        obtain ⟨v0, v1⟩ := cellsB HNV.out
        go_wp2_with fail
        clear v0 v1 hlk
        generalize w1.alloc (.cells #[.int .i64 K, .string ckey, .string cfld, .string ctxt, .int .i64 cn] 28) = V2 at *
        generalize w1.heap.size = bc at *
        refine (HD.out _ _ ⟨_, _, _, rfl, hls⟩).mono ?_
        rintro e w2 ⟨v', u, rfl, hv', hu', hb2⟩
        clear HD hls
        have hzw := HZW.out
        have hz2 : V2.heap.size ≤ w2.heap.size := hb2.size
        have nv := (hb2.block _ (lt_at HNV.out)).trans HNV.out
        have hgc := (hb2.block _ (lt_at HGC.out)).trans HGC.out
        have hset := HSE.out.below hb2
        have hB := bstep HB.out hb2
        clear HNV HGC HSE HB hb2
        obtain ⟨ps', is', ss', rfl, hl', hf1, hf2, hf3⟩ := hv'
        obtain ⟨pa', pc', ia', ic', sa', sc', rfl, rfl, rfl, -⟩ := hl'.lens
        obtain ⟨la, lc, rfl⟩ := hu'.rep.shapes
        obtain ⟨qc, qt, qn, ql⟩ := rp
        clear hu'
        rcases HCS.out with ⟨f1, f2, f3, f4⟩ | ⟨f1, f2, L', f3, f4, f5, f6, f7⟩ | ⟨f1, f2, f3, f4⟩ | ⟨f1, f2, L', f3, f4, f5, f6, f7⟩ | ⟨f1, f0, f2, f3, f4⟩ | ⟨f1, f2, f3, f4⟩ | ⟨f1, f0, f2, f3, f4⟩
        · simp only [Rep.mk.injEq] at f4
          obtain ⟨rfl, rfl, rfl, rfl⟩ := f4
          subst f1
          have hme : memB ctxt L = true := (memB_iff _ _).2 f2
          have HXY : Hid (y = x) := f3
          have hbT : Below w2.heap.size w2 ((w2.alloc (valO y.kind y.text y.count (.slice pa' y.pairs.length pc') (.slice ia' y.items.length ic') (.slice sa' y.scores.length sc'))).alloc (repO 0 ⟨#[]⟩ 0 (.slice la 0 lc))) := (balloc _ _).alloc (by simp) _
          obtain ⟨nN, nR⟩ := two_new w2 (valO y.kind y.text y.count (.slice pa' y.pairs.length pc') (.slice ia' y.items.length ic') (.slice sa' y.scores.length sc')) (repO 0 ⟨#[]⟩ 0 (.slice la 0 lc))
          have HT : Hid (SetB ((w2.alloc (valO y.kind y.text y.count (.slice pa' y.pairs.length pc') (.slice ia' y.items.length ic') (.slice sa' y.scores.length sc'))).alloc (repO 0 ⟨#[]⟩ 0 (.slice la 0 lc))) (w.heap.size + 1) m L) := hset.below hbT
          have HNN : Hid (((w2.alloc (valO y.kind y.text y.count (.slice pa' y.pairs.length pc') (.slice ia' y.items.length ic') (.slice sa' y.scores.length sc'))).alloc (repO 0 ⟨#[]⟩ 0 (.slice la 0 lc))).heap[w2.heap.size]? = some (valO y.kind y.text y.count (.slice pa' y.pairs.length pc') (.slice ia' y.items.length ic') (.slice sa' y.scores.length sc'))) := nN
          have HNV : Hid (((w2.alloc (valO y.kind y.text y.count (.slice pa' y.pairs.length pc') (.slice ia' y.items.length ic') (.slice sa' y.scores.length sc'))).alloc (repO 0 ⟨#[]⟩ 0 (.slice la 0 lc))).heap[w.heap.size]? = some (valO x.kind x.text x.count (.slice pa x.pairs.length pc) (.slice ia x.items.length ic) (.slice sa x.scores.length sc))) := (hbT.block _ (lt_at nv)).trans nv
          have HBT : Hid (Below w.heap.size w ((w2.alloc (valO y.kind y.text y.count (.slice pa' y.pairs.length pc') (.slice ia' y.items.length ic') (.slice sa' y.scores.length sc'))).alloc (repO 0 ⟨#[]⟩ 0 (.slice la 0 lc)))) := bstep hB hbT
          have HLT2 : Hid (Lists ((w2.alloc (valO y.kind y.text y.count (.slice pa' y.pairs.length pc') (.slice ia' y.items.length ic') (.slice sa' y.scores.length sc'))).alloc (repO 0 ⟨#[]⟩ 0 (.slice la 0 lc))) (.slice pa' y.pairs.length pc') (.slice ia' y.items.length ic') (.slice sa' y.scores.length sc') y) := hl'.below hbT
          have HZT : Hid (w.heap.size + 2 ≤ ((w2.alloc (valO y.kind y.text y.count (.slice pa' y.pairs.length pc') (.slice ia' y.items.length ic') (.slice sa' y.scores.length sc'))).alloc (repO 0 ⟨#[]⟩ 0 (.slice la 0 lc))).heap.size) := Nat.le_trans (Nat.le_trans hzw hz2) hbT.size
          obtain ⟨t0, t1⟩ := cellsB ((hbT.block _ (lt_at hgc)).trans hgc)
          rw [hme]
          clear nN nR hbT hl' hset nv hB hgc hme HCS f3
          have HMEM : Hid (∀ u, u ∈ L ↔ u = ctxt ∨ u ∈ L) := by show ∀ u, _; intro u; exact ⟨.inr, fun h => by rcases h with rfl | h; exact f2; exact h⟩
          have HLEN : Hid (L.length = if memB ctxt L = true then L.length else L.length + 1) := by show _ = _; rw [if_pos ((memB_iff _ _).2 f2)]
          go_wp2_with (at_mapUpdate; refine wpList_set_store rfl _ _ _ 50 rfl Tryz.underlying50 (w.heap.size + 1) m L L ?_ HT.out ?_ ctxt ?_ ?_ hcs HMEM.out HLEN.out ?_)
          · rfl
          · omega
          · rfl
          · rfl
          intro w3 hset3 hg3
          have nv3 := (hg3.block _ (lt_at HNV.out) (by simp)).trans HNV.out
          have nN3 := (hg3.block _ (lt_at HNN.out) (by simp only [ne_eq, Option.some.injEq]; omega)).trans HNN.out
          have hB3 : Below w.heap.size w w3 := HBT.out.trans ((Below.refl _ _).grown hg3 HBT.out.size (fun k hk => by simp only [Option.some.injEq] at hk; omega))
          have hz3 : w.heap.size + 2 ≤ w3.heap.size := Nat.le_trans HZT.out hg3.size
          have HL3 : Hid (Lists w3 (.slice pa' y.pairs.length pc') (.slice ia' y.items.length ic') (.slice sa' y.scores.length sc') y) := by
            obtain ⟨q1, q2, q3, he, h, -⟩ := RepsF.same (B := V2.heap.size) (w := ((w2.alloc (valO y.kind y.text y.count (.slice pa' y.pairs.length pc') (.slice ia' y.items.length ic') (.slice sa' y.scores.length sc'))).alloc (repO 0 ⟨#[]⟩ 0 (.slice la 0 lc)))) (w' := w3) (v := valV y.kind y.text y.count (.slice pa' y.pairs.length pc') (.slice ia' y.items.length ic') (.slice sa' y.scores.length sc')) ⟨_, _, _, rfl, HLT2.out, hf1, hf2, hf3⟩ (fun k h1 h2 => hg3.block k h2 (by simp only [ne_eq, Option.some.injEq]; omega)) hg3.size
            have he' : Value.slice pa' y.pairs.length pc' = q1 ∧ Value.slice ia' y.items.length ic' = q2 ∧ Value.slice sa' y.scores.length sc' = q3 := by simpa [valV] using he
            obtain ⟨rfl, rfl, rfl⟩ := he'
            exact h
          clear hg3 HT HNN HNV HBT HZT HLT2 t0 t1
          have hl3 : Lists w3 (.slice pa' y.pairs.length pc') (.slice ia' y.items.length ic') (.slice sa' y.scores.length sc') y := HL3.out
          obtain ⟨F1, F2, F3, F4, F5⟩ := fin_set nv3 hB3 hz3 hl3 (hf1.mono hzw) (hf2.mono hzw) (hf3.mono hzw)
          have FO := F5 _ _ hset3
          clear F5
          obtain ⟨d0, d1⟩ := cellsB nv3
          obtain ⟨d2, d3⟩ := cellsB nN3
          have hlv3 := lt_at nv3
          have hlN3 := lt_at nN3
          go_wp2_with fail
          exact ⟨⟨m + 1, L, y, _, _, _, by go_num, by omega, by omega, HXY.out.trans HX.out, hL, HLT.out, FO, F1, F2, F3, F4⟩, by simp [intOf]; omega⟩
        · simp only [Rep.mk.injEq] at f4
          obtain ⟨rfl, rfl, rfl, rfl⟩ := f4
          subst f1
          have hme : memB ctxt L = false := by
            cases hq : memB ctxt L with
            | false => rfl
            | true => exact absurd ((memB_iff _ _).1 hq) f2
          have HXY : Hid (y = keptV (setX L')) := f3
          have hbT : Below w2.heap.size w2 ((w2.alloc (valO y.kind y.text y.count (.slice pa' y.pairs.length pc') (.slice ia' y.items.length ic') (.slice sa' y.scores.length sc'))).alloc (repO 0 ⟨#[]⟩ 1 (.slice la 0 lc))) := (balloc _ _).alloc (by simp) _
          obtain ⟨nN, nR⟩ := two_new w2 (valO y.kind y.text y.count (.slice pa' y.pairs.length pc') (.slice ia' y.items.length ic') (.slice sa' y.scores.length sc')) (repO 0 ⟨#[]⟩ 1 (.slice la 0 lc))
          have HT : Hid (SetB ((w2.alloc (valO y.kind y.text y.count (.slice pa' y.pairs.length pc') (.slice ia' y.items.length ic') (.slice sa' y.scores.length sc'))).alloc (repO 0 ⟨#[]⟩ 1 (.slice la 0 lc))) (w.heap.size + 1) m L) := hset.below hbT
          have HNN : Hid (((w2.alloc (valO y.kind y.text y.count (.slice pa' y.pairs.length pc') (.slice ia' y.items.length ic') (.slice sa' y.scores.length sc'))).alloc (repO 0 ⟨#[]⟩ 1 (.slice la 0 lc))).heap[w2.heap.size]? = some (valO y.kind y.text y.count (.slice pa' y.pairs.length pc') (.slice ia' y.items.length ic') (.slice sa' y.scores.length sc'))) := nN
          have HNV : Hid (((w2.alloc (valO y.kind y.text y.count (.slice pa' y.pairs.length pc') (.slice ia' y.items.length ic') (.slice sa' y.scores.length sc'))).alloc (repO 0 ⟨#[]⟩ 1 (.slice la 0 lc))).heap[w.heap.size]? = some (valO x.kind x.text x.count (.slice pa x.pairs.length pc) (.slice ia x.items.length ic) (.slice sa x.scores.length sc))) := (hbT.block _ (lt_at nv)).trans nv
          have HBT : Hid (Below w.heap.size w ((w2.alloc (valO y.kind y.text y.count (.slice pa' y.pairs.length pc') (.slice ia' y.items.length ic') (.slice sa' y.scores.length sc'))).alloc (repO 0 ⟨#[]⟩ 1 (.slice la 0 lc)))) := bstep hB hbT
          have HLT2 : Hid (Lists ((w2.alloc (valO y.kind y.text y.count (.slice pa' y.pairs.length pc') (.slice ia' y.items.length ic') (.slice sa' y.scores.length sc'))).alloc (repO 0 ⟨#[]⟩ 1 (.slice la 0 lc))) (.slice pa' y.pairs.length pc') (.slice ia' y.items.length ic') (.slice sa' y.scores.length sc') y) := hl'.below hbT
          have HZT : Hid (w.heap.size + 2 ≤ ((w2.alloc (valO y.kind y.text y.count (.slice pa' y.pairs.length pc') (.slice ia' y.items.length ic') (.slice sa' y.scores.length sc'))).alloc (repO 0 ⟨#[]⟩ 1 (.slice la 0 lc))).heap.size) := Nat.le_trans (Nat.le_trans hzw hz2) hbT.size
          obtain ⟨t0, t1⟩ := cellsB ((hbT.block _ (lt_at hgc)).trans hgc)
          rw [hme]
          clear nN nR hbT hl' hset nv hB hgc hme HCS f3
          have HMEM : Hid (∀ u, u ∈ L' ↔ u = ctxt ∨ u ∈ L) := by show ∀ u, _; exact f6
          have HLEN : Hid (L'.length = if memB ctxt L = true then L.length else L.length + 1) := by show _ = _; rw [if_neg (fun h => f2 ((memB_iff _ _).1 h))]; exact f7
          go_wp2_with (at_mapUpdate; refine wpList_set_store rfl _ _ _ 50 rfl Tryz.underlying50 (w.heap.size + 1) m L L' ?_ HT.out ?_ ctxt ?_ ?_ hcs HMEM.out HLEN.out ?_)
          · rfl
          · omega
          · rfl
          · rfl
          intro w3 hset3 hg3
          have nv3 := (hg3.block _ (lt_at HNV.out) (by simp)).trans HNV.out
          have nN3 := (hg3.block _ (lt_at HNN.out) (by simp only [ne_eq, Option.some.injEq]; omega)).trans HNN.out
          have hB3 : Below w.heap.size w w3 := HBT.out.trans ((Below.refl _ _).grown hg3 HBT.out.size (fun k hk => by simp only [Option.some.injEq] at hk; omega))
          have hz3 : w.heap.size + 2 ≤ w3.heap.size := Nat.le_trans HZT.out hg3.size
          have HL3 : Hid (Lists w3 (.slice pa' y.pairs.length pc') (.slice ia' y.items.length ic') (.slice sa' y.scores.length sc') y) := by
            obtain ⟨q1, q2, q3, he, h, -⟩ := RepsF.same (B := V2.heap.size) (w := ((w2.alloc (valO y.kind y.text y.count (.slice pa' y.pairs.length pc') (.slice ia' y.items.length ic') (.slice sa' y.scores.length sc'))).alloc (repO 0 ⟨#[]⟩ 1 (.slice la 0 lc)))) (w' := w3) (v := valV y.kind y.text y.count (.slice pa' y.pairs.length pc') (.slice ia' y.items.length ic') (.slice sa' y.scores.length sc')) ⟨_, _, _, rfl, HLT2.out, hf1, hf2, hf3⟩ (fun k h1 h2 => hg3.block k h2 (by simp only [ne_eq, Option.some.injEq]; omega)) hg3.size
            have he' : Value.slice pa' y.pairs.length pc' = q1 ∧ Value.slice ia' y.items.length ic' = q2 ∧ Value.slice sa' y.scores.length sc' = q3 := by simpa [valV] using he
            obtain ⟨rfl, rfl, rfl⟩ := he'
            exact h
          clear hg3 HT HNN HNV HBT HZT HLT2 t0 t1
          have hl3 : Lists w3 (.slice pa' y.pairs.length pc') (.slice ia' y.items.length ic') (.slice sa' y.scores.length sc') y := HL3.out
          obtain ⟨F1, F2, F3, F4, F5⟩ := fin_set nv3 hB3 hz3 hl3 (hf1.mono hzw) (hf2.mono hzw) (hf3.mono hzw)
          have FO := F5 _ _ hset3
          clear F5
          obtain ⟨d0, d1⟩ := cellsB nv3
          obtain ⟨d2, d3⟩ := cellsB nN3
          have hlv3 := lt_at nv3
          have hlN3 := lt_at nN3
          go_wp2_with fail
          exact ⟨⟨m + 1, L', y, _, _, _, by go_num, by omega, by omega, HXY.out, f5, fun u hu => by
            rcases (f6 u).1 hu with rfl | h
            · exact HL1.out
            · exact HLT.out u h, FO, F1, F2, F3, F4⟩, by simp [intOf]; omega⟩
        · simp only [Rep.mk.injEq] at f4
          obtain ⟨rfl, rfl, rfl, rfl⟩ := f4
          have g1 : (K == 11) = false := by rw [beq_eq_false_iff_ne]; omega
          have g2 : ((L.length : Int) == 0) = true := by rw [beq_iff_eq, f2]; rfl
          have hme : memB ctxt L = false := by rw [f2]; rfl
          have HXY : Hid (y = x) := f3
          have hbT : Below w2.heap.size w2 ((w2.alloc (valO y.kind y.text y.count (.slice pa' y.pairs.length pc') (.slice ia' y.items.length ic') (.slice sa' y.scores.length sc'))).alloc (repO 5 ⟨#[]⟩ 0 (.slice la 0 lc))) := (balloc _ _).alloc (by simp) _
          have HT : Hid (SetB ((w2.alloc (valO y.kind y.text y.count (.slice pa' y.pairs.length pc') (.slice ia' y.items.length ic') (.slice sa' y.scores.length sc'))).alloc (repO 5 ⟨#[]⟩ 0 (.slice la 0 lc))) (w.heap.size + 1) m L) := hset.below hbT
          obtain ⟨F1, F2, F3, F4, FO⟩ := fin_set2 (oR := (repO 5 ⟨#[]⟩ 0 (.slice la 0 lc))) nv hB (Nat.le_trans hzw hz2) hl' (hf1.mono hzw) (hf2.mono hzw) (hf3.mono hzw) hset
          obtain ⟨d0, d1⟩ := cellsB nv
          have hlv3 := lt_at nv
          have hne1 : ¬ w.heap.size = w2.heap.size := by omega
          have hne2 : ¬ w2.heap.size = w.heap.size := by omega
          have hne3 : ¬ w.heap.size = w2.heap.size + 1 := by omega
          have hne4 : ¬ w2.heap.size + 1 = w.heap.size := by omega
          rw [hme]
          clear hbT hl' hset nv hB hgc hme HCS f3 f2
          go_wp2_with (at_len; refine wpList_set_len rfl _ 50 rfl Tryz.underlying50 (w.heap.size + 1) m L rfl HT.out ?_)
          exact ⟨⟨m + 1, L, y, _, _, _, by go_num, by omega, by omega, HXY.out.trans HX.out, hL, HLT.out, FO.mono (Nat.le_succ _), F1, F2, F3, F4⟩, by simp [intOf]; omega⟩
        · simp only [Rep.mk.injEq] at f4
          obtain ⟨rfl, rfl, rfl, rfl⟩ := f4
          subst f1
          have hp1 : 0 < L.length := List.length_pos_iff.2 (by rintro e; rw [e] at f2; simp at f2)
          have g2 : ((L.length : Int) == 0) = false := by rw [beq_eq_false_iff_ne]; omega
          have hme : memB ctxt L = true := (memB_iff _ _).2 f2
          have HXY : Hid (y = keptV (setX L')) := f3
          have hbT : Below w2.heap.size w2 ((w2.alloc (valO y.kind y.text y.count (.slice pa' y.pairs.length pc') (.slice ia' y.items.length ic') (.slice sa' y.scores.length sc'))).alloc (repO 0 ⟨#[]⟩ 1 (.slice la 0 lc))) := (balloc _ _).alloc (by simp) _
          obtain ⟨nN, nR⟩ := two_new w2 (valO y.kind y.text y.count (.slice pa' y.pairs.length pc') (.slice ia' y.items.length ic') (.slice sa' y.scores.length sc')) (repO 0 ⟨#[]⟩ 1 (.slice la 0 lc))
          have HT : Hid (SetB ((w2.alloc (valO y.kind y.text y.count (.slice pa' y.pairs.length pc') (.slice ia' y.items.length ic') (.slice sa' y.scores.length sc'))).alloc (repO 0 ⟨#[]⟩ 1 (.slice la 0 lc))) (w.heap.size + 1) m L) := hset.below hbT
          have HNN : Hid (((w2.alloc (valO y.kind y.text y.count (.slice pa' y.pairs.length pc') (.slice ia' y.items.length ic') (.slice sa' y.scores.length sc'))).alloc (repO 0 ⟨#[]⟩ 1 (.slice la 0 lc))).heap[w2.heap.size]? = some (valO y.kind y.text y.count (.slice pa' y.pairs.length pc') (.slice ia' y.items.length ic') (.slice sa' y.scores.length sc'))) := nN
          have HNV : Hid (((w2.alloc (valO y.kind y.text y.count (.slice pa' y.pairs.length pc') (.slice ia' y.items.length ic') (.slice sa' y.scores.length sc'))).alloc (repO 0 ⟨#[]⟩ 1 (.slice la 0 lc))).heap[w.heap.size]? = some (valO x.kind x.text x.count (.slice pa x.pairs.length pc) (.slice ia x.items.length ic) (.slice sa x.scores.length sc))) := (hbT.block _ (lt_at nv)).trans nv
          have HBT : Hid (Below w.heap.size w ((w2.alloc (valO y.kind y.text y.count (.slice pa' y.pairs.length pc') (.slice ia' y.items.length ic') (.slice sa' y.scores.length sc'))).alloc (repO 0 ⟨#[]⟩ 1 (.slice la 0 lc)))) := bstep hB hbT
          have HLT2 : Hid (Lists ((w2.alloc (valO y.kind y.text y.count (.slice pa' y.pairs.length pc') (.slice ia' y.items.length ic') (.slice sa' y.scores.length sc'))).alloc (repO 0 ⟨#[]⟩ 1 (.slice la 0 lc))) (.slice pa' y.pairs.length pc') (.slice ia' y.items.length ic') (.slice sa' y.scores.length sc') y) := hl'.below hbT
          have HZT : Hid (w.heap.size + 2 ≤ ((w2.alloc (valO y.kind y.text y.count (.slice pa' y.pairs.length pc') (.slice ia' y.items.length ic') (.slice sa' y.scores.length sc'))).alloc (repO 0 ⟨#[]⟩ 1 (.slice la 0 lc))).heap.size) := Nat.le_trans (Nat.le_trans hzw hz2) hbT.size
          obtain ⟨t0, t1⟩ := cellsB ((hbT.block _ (lt_at hgc)).trans hgc)
          rw [hme]
          clear nN nR hbT hl' hset nv hB hgc hme HCS f3
          have HMEM : Hid (∀ u, u ∈ L' ↔ u ≠ ctxt ∧ u ∈ L) := by show ∀ u, _; exact f6
          have HLEN : Hid (L'.length + (if memB ctxt L = true then 1 else 0) = L.length) := by show _ = _; rw [if_pos ((memB_iff _ _).2 f2)]; exact f7
          go_wp2_with (first | (at_len; refine wpList_set_len rfl _ 50 rfl Tryz.underlying50 (w.heap.size + 1) m L rfl HT.out ?_) | (at_delete; refine wpList_set_delete rfl _ _ 50 rfl Tryz.underlying50 (w.heap.size + 1) m L L' ?_ HT.out ctxt ?_ hcs HMEM.out HLEN.out ?_))
          · rfl
          · rfl
          intro w3 hset3 hg3
          have nv3 := (hg3.block _ (lt_at HNV.out) (by simp)).trans HNV.out
          have nN3 := (hg3.block _ (lt_at HNN.out) (by simp only [ne_eq, Option.some.injEq]; omega)).trans HNN.out
          have hB3 : Below w.heap.size w w3 := HBT.out.trans ((Below.refl _ _).grown hg3 HBT.out.size (fun k hk => by simp only [Option.some.injEq] at hk; omega))
          have hz3 : w.heap.size + 2 ≤ w3.heap.size := Nat.le_trans HZT.out hg3.size
          have HL3 : Hid (Lists w3 (.slice pa' y.pairs.length pc') (.slice ia' y.items.length ic') (.slice sa' y.scores.length sc') y) := by
            obtain ⟨q1, q2, q3, he, h, -⟩ := RepsF.same (B := V2.heap.size) (w := ((w2.alloc (valO y.kind y.text y.count (.slice pa' y.pairs.length pc') (.slice ia' y.items.length ic') (.slice sa' y.scores.length sc'))).alloc (repO 0 ⟨#[]⟩ 1 (.slice la 0 lc)))) (w' := w3) (v := valV y.kind y.text y.count (.slice pa' y.pairs.length pc') (.slice ia' y.items.length ic') (.slice sa' y.scores.length sc')) ⟨_, _, _, rfl, HLT2.out, hf1, hf2, hf3⟩ (fun k h1 h2 => hg3.block k h2 (by simp only [ne_eq, Option.some.injEq]; omega)) hg3.size
            have he' : Value.slice pa' y.pairs.length pc' = q1 ∧ Value.slice ia' y.items.length ic' = q2 ∧ Value.slice sa' y.scores.length sc' = q3 := by simpa [valV] using he
            obtain ⟨rfl, rfl, rfl⟩ := he'
            exact h
          clear hg3 HT HNN HNV HBT HZT HLT2 t0 t1
          have hl3 : Lists w3 (.slice pa' y.pairs.length pc') (.slice ia' y.items.length ic') (.slice sa' y.scores.length sc') y := HL3.out
          obtain ⟨F1, F2, F3, F4, F5⟩ := fin_set nv3 hB3 hz3 hl3 (hf1.mono hzw) (hf2.mono hzw) (hf3.mono hzw)
          have FO := F5 _ _ hset3
          clear F5
          obtain ⟨d0, d1⟩ := cellsB nv3
          obtain ⟨d2, d3⟩ := cellsB nN3
          have hlv3 := lt_at nv3
          have hlN3 := lt_at nN3
          go_wp2_with fail
          exact ⟨⟨m + 1, L', y, _, _, _, by go_num, by omega, by omega, HXY.out, f5, fun u hu => HLT.out u ((f6 u).1 hu).2, FO.mono (Nat.le_succ _), F1, F2, F3, F4⟩, by simp [intOf]; omega⟩
        · simp only [Rep.mk.injEq] at f4
          obtain ⟨rfl, rfl, rfl, rfl⟩ := f4
          subst f1
          have hp1 : 0 < L.length := List.length_pos_iff.2 (f0)
          have g2 : ((L.length : Int) == 0) = false := by rw [beq_eq_false_iff_ne]; omega
          have hme : memB ctxt L = false := by
            cases hq : memB ctxt L with
            | false => rfl
            | true => exact absurd ((memB_iff _ _).1 hq) f2
          have HXY : Hid (y = x) := f3
          have hbT : Below w2.heap.size w2 ((w2.alloc (valO y.kind y.text y.count (.slice pa' y.pairs.length pc') (.slice ia' y.items.length ic') (.slice sa' y.scores.length sc'))).alloc (repO 0 ⟨#[]⟩ 0 (.slice la 0 lc))) := (balloc _ _).alloc (by simp) _
          obtain ⟨nN, nR⟩ := two_new w2 (valO y.kind y.text y.count (.slice pa' y.pairs.length pc') (.slice ia' y.items.length ic') (.slice sa' y.scores.length sc')) (repO 0 ⟨#[]⟩ 0 (.slice la 0 lc))
          have HT : Hid (SetB ((w2.alloc (valO y.kind y.text y.count (.slice pa' y.pairs.length pc') (.slice ia' y.items.length ic') (.slice sa' y.scores.length sc'))).alloc (repO 0 ⟨#[]⟩ 0 (.slice la 0 lc))) (w.heap.size + 1) m L) := hset.below hbT
          have HNN : Hid (((w2.alloc (valO y.kind y.text y.count (.slice pa' y.pairs.length pc') (.slice ia' y.items.length ic') (.slice sa' y.scores.length sc'))).alloc (repO 0 ⟨#[]⟩ 0 (.slice la 0 lc))).heap[w2.heap.size]? = some (valO y.kind y.text y.count (.slice pa' y.pairs.length pc') (.slice ia' y.items.length ic') (.slice sa' y.scores.length sc'))) := nN
          have HNV : Hid (((w2.alloc (valO y.kind y.text y.count (.slice pa' y.pairs.length pc') (.slice ia' y.items.length ic') (.slice sa' y.scores.length sc'))).alloc (repO 0 ⟨#[]⟩ 0 (.slice la 0 lc))).heap[w.heap.size]? = some (valO x.kind x.text x.count (.slice pa x.pairs.length pc) (.slice ia x.items.length ic) (.slice sa x.scores.length sc))) := (hbT.block _ (lt_at nv)).trans nv
          have HBT : Hid (Below w.heap.size w ((w2.alloc (valO y.kind y.text y.count (.slice pa' y.pairs.length pc') (.slice ia' y.items.length ic') (.slice sa' y.scores.length sc'))).alloc (repO 0 ⟨#[]⟩ 0 (.slice la 0 lc)))) := bstep hB hbT
          have HLT2 : Hid (Lists ((w2.alloc (valO y.kind y.text y.count (.slice pa' y.pairs.length pc') (.slice ia' y.items.length ic') (.slice sa' y.scores.length sc'))).alloc (repO 0 ⟨#[]⟩ 0 (.slice la 0 lc))) (.slice pa' y.pairs.length pc') (.slice ia' y.items.length ic') (.slice sa' y.scores.length sc') y) := hl'.below hbT
          have HZT : Hid (w.heap.size + 2 ≤ ((w2.alloc (valO y.kind y.text y.count (.slice pa' y.pairs.length pc') (.slice ia' y.items.length ic') (.slice sa' y.scores.length sc'))).alloc (repO 0 ⟨#[]⟩ 0 (.slice la 0 lc))).heap.size) := Nat.le_trans (Nat.le_trans hzw hz2) hbT.size
          obtain ⟨t0, t1⟩ := cellsB ((hbT.block _ (lt_at hgc)).trans hgc)
          rw [hme]
          clear nN nR hbT hl' hset nv hB hgc hme HCS f3
          have HMEM : Hid (∀ u, u ∈ L ↔ u ≠ ctxt ∧ u ∈ L) := by show ∀ u, _; intro u; exact ⟨fun h => ⟨fun e => f2 (e ▸ h), h⟩, fun h => h.2⟩
          have HLEN : Hid (L.length + (if memB ctxt L = true then 1 else 0) = L.length) := by show _ = _; rw [if_neg (fun h => f2 ((memB_iff _ _).1 h))]; rfl
          go_wp2_with (first | (at_len; refine wpList_set_len rfl _ 50 rfl Tryz.underlying50 (w.heap.size + 1) m L rfl HT.out ?_) | (at_delete; refine wpList_set_delete rfl _ _ 50 rfl Tryz.underlying50 (w.heap.size + 1) m L L ?_ HT.out ctxt ?_ hcs HMEM.out HLEN.out ?_))
          · rfl
          · rfl
          intro w3 hset3 hg3
          have nv3 := (hg3.block _ (lt_at HNV.out) (by simp)).trans HNV.out
          have nN3 := (hg3.block _ (lt_at HNN.out) (by simp only [ne_eq, Option.some.injEq]; omega)).trans HNN.out
          have hB3 : Below w.heap.size w w3 := HBT.out.trans ((Below.refl _ _).grown hg3 HBT.out.size (fun k hk => by simp only [Option.some.injEq] at hk; omega))
          have hz3 : w.heap.size + 2 ≤ w3.heap.size := Nat.le_trans HZT.out hg3.size
          have HL3 : Hid (Lists w3 (.slice pa' y.pairs.length pc') (.slice ia' y.items.length ic') (.slice sa' y.scores.length sc') y) := by
            obtain ⟨q1, q2, q3, he, h, -⟩ := RepsF.same (B := V2.heap.size) (w := ((w2.alloc (valO y.kind y.text y.count (.slice pa' y.pairs.length pc') (.slice ia' y.items.length ic') (.slice sa' y.scores.length sc'))).alloc (repO 0 ⟨#[]⟩ 0 (.slice la 0 lc)))) (w' := w3) (v := valV y.kind y.text y.count (.slice pa' y.pairs.length pc') (.slice ia' y.items.length ic') (.slice sa' y.scores.length sc')) ⟨_, _, _, rfl, HLT2.out, hf1, hf2, hf3⟩ (fun k h1 h2 => hg3.block k h2 (by simp only [ne_eq, Option.some.injEq]; omega)) hg3.size
            have he' : Value.slice pa' y.pairs.length pc' = q1 ∧ Value.slice ia' y.items.length ic' = q2 ∧ Value.slice sa' y.scores.length sc' = q3 := by simpa [valV] using he
            obtain ⟨rfl, rfl, rfl⟩ := he'
            exact h
          clear hg3 HT HNN HNV HBT HZT HLT2 t0 t1
          have hl3 : Lists w3 (.slice pa' y.pairs.length pc') (.slice ia' y.items.length ic') (.slice sa' y.scores.length sc') y := HL3.out
          obtain ⟨F1, F2, F3, F4, F5⟩ := fin_set nv3 hB3 hz3 hl3 (hf1.mono hzw) (hf2.mono hzw) (hf3.mono hzw)
          have FO := F5 _ _ hset3
          clear F5
          obtain ⟨d0, d1⟩ := cellsB nv3
          obtain ⟨d2, d3⟩ := cellsB nN3
          have hlv3 := lt_at nv3
          have hlN3 := lt_at nN3
          go_wp2_with fail
          exact ⟨⟨m + 1, L, y, _, _, _, by go_num, by omega, by omega, HXY.out.trans HX.out, hL, HLT.out, FO.mono (Nat.le_succ _), F1, F2, F3, F4⟩, by simp [intOf]; omega⟩
        · simp only [Rep.mk.injEq] at f4
          obtain ⟨rfl, rfl, rfl, rfl⟩ := f4
          have g1 : (K == 11) = false := by rw [beq_eq_false_iff_ne]; omega
          have g3 : (K == 12) = false := by rw [beq_eq_false_iff_ne]; omega
          have hp1 : 0 < L.length := List.length_pos_iff.2 (by rintro e; rw [e] at f2; simp at f2)
          have g2 : ((L.length : Int) == 0) = false := by rw [beq_eq_false_iff_ne]; omega
          have hme : memB ctxt L = true := (memB_iff _ _).2 f2
          have HXY : Hid (y = x) := f3
          have hbT : Below w2.heap.size w2 ((w2.alloc (valO y.kind y.text y.count (.slice pa' y.pairs.length pc') (.slice ia' y.items.length ic') (.slice sa' y.scores.length sc'))).alloc (repO 0 ⟨#[]⟩ 1 (.slice la 0 lc))) := (balloc _ _).alloc (by simp) _
          have HT : Hid (SetB ((w2.alloc (valO y.kind y.text y.count (.slice pa' y.pairs.length pc') (.slice ia' y.items.length ic') (.slice sa' y.scores.length sc'))).alloc (repO 0 ⟨#[]⟩ 1 (.slice la 0 lc))) (w.heap.size + 1) m L) := hset.below hbT
          obtain ⟨F1, F2, F3, F4, FO⟩ := fin_set2 (oR := (repO 0 ⟨#[]⟩ 1 (.slice la 0 lc))) nv hB (Nat.le_trans hzw hz2) hl' (hf1.mono hzw) (hf2.mono hzw) (hf3.mono hzw) hset
          obtain ⟨d0, d1⟩ := cellsB nv
          have hlv3 := lt_at nv
          have hne1 : ¬ w.heap.size = w2.heap.size := by omega
          have hne2 : ¬ w2.heap.size = w.heap.size := by omega
          have hne3 : ¬ w.heap.size = w2.heap.size + 1 := by omega
          have hne4 : ¬ w2.heap.size + 1 = w.heap.size := by omega
          rw [hme]
          clear hbT hl' hset nv hB hgc hme HCS f3 f2
          go_wp2_with (at_len; refine wpList_set_len rfl _ 50 rfl Tryz.underlying50 (w.heap.size + 1) m L rfl HT.out ?_)
          exact ⟨⟨m + 1, L, y, _, _, _, by go_num, by omega, by omega, HXY.out.trans HX.out, hL, HLT.out, FO.mono (Nat.le_succ _), F1, F2, F3, F4⟩, by simp [intOf]; omega⟩
        · simp only [Rep.mk.injEq] at f4
          obtain ⟨rfl, rfl, rfl, rfl⟩ := f4
          have g1 : (K == 11) = false := by rw [beq_eq_false_iff_ne]; omega
          have g3 : (K == 12) = false := by rw [beq_eq_false_iff_ne]; omega
          have hp1 : 0 < L.length := List.length_pos_iff.2 (f0)
          have g2 : ((L.length : Int) == 0) = false := by rw [beq_eq_false_iff_ne]; omega
          have hme : memB ctxt L = false := by
            cases hq : memB ctxt L with
            | false => rfl
            | true => exact absurd ((memB_iff _ _).1 hq) f2
          have HXY : Hid (y = x) := f3
          have hbT : Below w2.heap.size w2 ((w2.alloc (valO y.kind y.text y.count (.slice pa' y.pairs.length pc') (.slice ia' y.items.length ic') (.slice sa' y.scores.length sc'))).alloc (repO 0 ⟨#[]⟩ 0 (.slice la 0 lc))) := (balloc _ _).alloc (by simp) _
          have HT : Hid (SetB ((w2.alloc (valO y.kind y.text y.count (.slice pa' y.pairs.length pc') (.slice ia' y.items.length ic') (.slice sa' y.scores.length sc'))).alloc (repO 0 ⟨#[]⟩ 0 (.slice la 0 lc))) (w.heap.size + 1) m L) := hset.below hbT
          obtain ⟨F1, F2, F3, F4, FO⟩ := fin_set2 (oR := (repO 0 ⟨#[]⟩ 0 (.slice la 0 lc))) nv hB (Nat.le_trans hzw hz2) hl' (hf1.mono hzw) (hf2.mono hzw) (hf3.mono hzw) hset
          obtain ⟨d0, d1⟩ := cellsB nv
          have hlv3 := lt_at nv
          have hne1 : ¬ w.heap.size = w2.heap.size := by omega
          have hne2 : ¬ w2.heap.size = w.heap.size := by omega
          have hne3 : ¬ w.heap.size = w2.heap.size + 1 := by omega
          have hne4 : ¬ w2.heap.size + 1 = w.heap.size := by omega
          rw [hme]
          clear hbT hl' hset nv hB hgc hme HCS f3 f2
          go_wp2_with (at_len; refine wpList_set_len rfl _ 50 rfl Tryz.underlying50 (w.heap.size + 1) m L rfl HT.out ?_)
          exact ⟨⟨m + 1, L, y, _, _, _, by go_num, by omega, by omega, HXY.out.trans HX.out, hL, HLT.out, FO.mono (Nat.le_succ _), F1, F2, F3, F4⟩, by simp [intOf]; omega⟩
    · have hx' : (¬ (m : Int) < (l.length : Int)) ∨ ((m : Int) < (l.length : Int) ∧ ¬ (m : Int) < 30) := by omega
      have hxi : x.items = L := by
        rw [hx]
        by_cases h0 : 1 ≤ L.length
        · rw [kept_someS h0]
        · have : L = [] := List.eq_nil_of_length_eq_zero (by omega)
          subst this; rw [kept_nilS]; rfl
      have hord : ∀ j (hj : j + 1 < x.items.length), ltS (x.items[j]'(by omega)) x.items[j + 1] = true := by
        have hpw : x.items.Pairwise (fun a b => ltS a b = true) := by rw [hxi]; exact hL.2.2
        exact fun j hj => List.pairwise_iff_getElem.1 hpw j (j + 1) (by omega) hj (by omega)
      have HOR : Hid (∀ j (hj : j + 1 < x.items.length), ltS (x.items[j]'(by omega)) x.items[j + 1] = true) := hord
      clear hord
      have hmem : ∀ j (hj : j < x.items.length), memB x.items[j] L = true ∧ x.items[j].size ≤ 9223372036854775807 := by
        intro j hj
        have h1 : x.items[j] ∈ L := by rw [← hxi]; exact List.getElem_mem hj
        refine ⟨(memB_iff _ _).2 h1, ?_⟩
        have := hlet _ h1
        generalize x.items[j] = t at *
        simp only [letters, List.mem_cons, List.mem_nil_iff, or_false] at this
        rcases this with rfl | rfl | rfl | rfl | rfl | rfl | rfl | rfl | rfl | rfl <;> decide
      have hlen : x.items.length = L.length := by rw [hxi]
      have hle20 : x.items.length ≤ 20 := by rw [hxi]; exact hL.1
      obtain ⟨pz, iz, sz, he, hls, -⟩ := hrep
      have he' : ps = pz ∧ is = iz ∧ ss = sz := by simpa [valV] using he
      obtain ⟨rfl, rfl, rfl⟩ := he'
      clear he hx k3 hwf hlt hxi hlet hL
      obtain ⟨pa, pc, ia, ic, sa, sc, rfl, rfl, rfl, -⟩ := hls.lens
      have A1 : Hid (Acts (emptyVal 0) ⟨11, ⟨#[107]⟩, ⟨#[]⟩, ⟨#[]⟩, 0⟩ (setX [⟨#[]⟩]) { n := 1 } 0) := by
        have hf : (⟨11, ⟨#[107]⟩, ⟨#[]⟩, ⟨#[]⟩, 0⟩ : Cmd).fault = 0 := by decide +kernel
        have ha : answerV (keptV (setX [])) ⟨11, ⟨#[107]⟩, ⟨#[]⟩, ⟨#[]⟩, 0⟩ = (setX [⟨#[]⟩], { n := 1 }) := by
          rw [ans_set (by simp [SetL]) (.inl rfl)]; rfl
        rw [kept_nilS] at ha
        have := acts_code (Well.ref (.inl rfl) hf rfl) ha rfl
        rwa [kept_someS (by simp)] at this
      have HME : Hid (∀ j (hj : j < x.items.length), memB x.items[j] L = true ∧ x.items[j].size ≤ 9223372036854775807) := hmem
      have HLE : Hid (x.items.length = L.length) := hlen
      have HV0 : Hid (wr.heap[w.heap.size]? = some (valO x.kind x.text x.count (.slice pa x.pairs.length pc) (.slice ia x.items.length ic) (.slice sa x.scores.length sc))) := hv
      have HLS : Hid (Lists wr (.slice pa x.pairs.length pc) (.slice ia x.items.length ic) (.slice sa x.scores.length sc) x) := hls
      have HSE : Hid (SetB wr (w.heap.size + 1) m L) := hset
      have HB0 : Hid (Below w.heap.size w wr) := hb
      clear hmem hlen hv hls hset hb
      rcases hx' with hx1 | ⟨hx1, hx2⟩
      all_goals
        go_wp2_with fail
        generalize wr = W0 at *
        go_loopw [12] (fun c wr => ∃ j : Nat, c = .int .i64 (j : Int) ∧ j ≤ x.items.length ∧ Below W0.heap.size W0 wr) (fun c _ => x.items.length - (intOf c).toNat)
        case atStart => exact ⟨0, rfl, by omega, Below.refl _ _⟩
        case round =>
          obtain ⟨j, rfl, hj, hb⟩ := hrel
          have nv := (hb.block _ (lt_at HV0.out)).trans HV0.out
          have hset := HSE.out.below hb
          by_cases hlt : j < x.items.length
          · have hi0 : (j : Int) < (x.items.length : Int) := by omega
            obtain ⟨-, a', c', he, -, -, q3⟩ := (HLS.out.below hb).i
            simp only [Value.slice.injEq, true_and] at he
            obtain ⟨rfl, rfl⟩ := he
            obtain ⟨ib, io, rfl, hib, hcc⟩ : ∃ ib io, ia = some ⟨ib, io, none⟩ ∧ ib < wr.heap.size ∧ ∀ k (hk : k < x.items.length) (c : Nat), c < 1 → wr.cell? ⟨ib, io + k * 1 + c, none⟩ = (encI x.items[k])[c]? := by
              rcases q3 with ⟨-, h, -⟩ | ⟨ib, io, h1, h2, h3⟩
              · rw [h] at hlt; simp at hlt
              · exact ⟨ib, io, h1, h2, h3⟩
            have hc1 : wr.cell? ⟨ib, io + j, none⟩ = some (.string x.items[j]) := by have := hcc j hlt 0 (by omega); simpa [encI] using this
            have hprev : j = 0 ∨ (0 < j ∧ ∃ t, wr.cell? ⟨ib, io + (j - 1), none⟩ = some (.string t) ∧ ltS t x.items[j] = true) := by
              by_cases h0 : j = 0
              · exact .inl h0
              · refine .inr ⟨by omega, x.items[j - 1], by have := hcc (j - 1) (by omega) 0 (by omega); simpa [encI] using this, ?_⟩
                have := HOR.out (j - 1) (by omega)
                simpa [show j - 1 + 1 = j by omega] using this
            obtain ⟨hm1, hm2⟩ := HME.out j hlt
            have inst := Grown.isThere wr
            obtain ⟨u1, u2⟩ := Grown.cells nv
            obtain ⟨c1, f1⟩ := cellsB nv
            generalize x.items[j] = t at *
            have u3 : ∀ g : Grown wr, g.w.cell? ⟨ib, io + j, none⟩ = some (.string t) := fun g => Grown.cell hib hc1 g
            have u4 : ∀ g : Grown wr, (Instr.lookup 50 (.map (some (w.heap.size + 1))) (.string t) false).run Tryz.prog g.w = .ok (.bool true) g.w := fun g => by
              have := (hset.below g.h).look 50 Tryz.underlying50 t hm2
              rwa [hm1] at this
            have hx5 : IntKind.i64.wrap ((j : Int) - 1) = (j : Int) - 1 := by rw [IntKind.wrap_i64]; omega
            have hmm : 0 < j → (j : Int) - 1 = ((j - 1 : Nat) : Int) := by omega
            clear hcc hc1 hset q3 hm1 hm2
            rcases hprev with h00 | ⟨h0, t', e3, hbl⟩
            · subst h00
              clear hmm hx5
              simp only [Nat.add_zero, Int.natCast_zero] at u3 hi0 ⊢
              go_wp2_with fail
              clear c1 f1
              refine wp_region_grown (by kernel_rfl) (by kernel_rfl) ?_
              repeat (first | go_big_quiet_skip | (go_big_quiet_want; go_big_quiet_op; first | go_big_quiet_on | (apply Exists.intro; refine ⟨fun _ => ?_, ?_⟩; (· (fail)); go_big_quiet_on)))
              refine wpQuiet_nil ?_
              rintro _ ⟨⟨w1, hb1⟩, rfl⟩
              go_wp2_with fail
              exact ⟨⟨1, by go_num, by omega, bstep hb hb1⟩, by simp [intOf]; omega⟩
            · have u5 : ∀ g : Grown wr, g.w.cell? ⟨ib, io + (j - 1), none⟩ = some (.string t') := fun g => Grown.cell hib e3 g
              have hbl' : Op.bytesLess t'.toList t.toList = true := hbl
              have hm1 := hmm h0
              clear hmm e3 hbl
              go_wp2_with fail
              clear c1 f1
              refine wp_region_grown (by kernel_rfl) (by kernel_rfl) ?_
              repeat (first | go_big_quiet_skip | (go_big_quiet_want; go_big_quiet_op; first | go_big_quiet_on | (apply Exists.intro; refine ⟨fun _ => ?_, ?_⟩; (· (fail)); go_big_quiet_on)))
              refine wpQuiet_nil ?_
              rintro _ ⟨⟨w1, hb1⟩, rfl⟩
              go_wp2_with fail
              exact ⟨⟨j + 1, by go_num, by omega, bstep hb hb1⟩, by simp [intOf]; omega⟩
          · have hge : ¬ (j : Int) < (x.items.length : Int) := by omega
            have hemp : Lists wr (.slice none 0 0) (.slice none 0 0) (.slice none 0 0) (emptyVal 0) := Lists.empty _ 0
            have hB := bstep HB0.out hb
            obtain ⟨c1, f1⟩ := cellsB nv
            clear hb hlt
            go_wp2_with fail
            refine (A1.out _ _ _ _ hemp).mono ?_
            rintro e w2 ⟨pa2, pc2, ia2, ic2, sa2, sc2, la2, lc2, rfl, -, -, hb2⟩
            clear c1 f1 hemp A1
            replace nv := (hb2.block _ (lt_at nv)).trans nv
            replace hset := hset.below hb2
            replace hB := bstep hB hb2
            have hbx : Below w2.heap.size w2 ((w2.alloc (valO 5 ⟨#[]⟩ 0 (.slice pa2 0 pc2) (.slice ia2 1 ic2) (.slice sa2 0 sc2))).alloc (repO 0 ⟨#[]⟩ 1 (.slice la2 0 lc2))) := (balloc _ _).alloc (by simp) _
            have hln := (hset.below hbx).len 50 Tryz.underlying50 3
            have hle := HLE.out
            have hli : (x.items.length : Int) = ((L.length : Nat) : Int) := by omega
            obtain ⟨t0, t1⟩ := cellsB ((hbx.block _ (lt_at nv)).trans nv)
            obtain ⟨c1, f1⟩ := cellsB nv
            have hlv := lt_at nv
            clear hle hbx hset
            simp only [List.length_nil, List.length_singleton]
            rw [HLE.out] at t0 c1
            clear hli
            go_wp2_with fail
            go_ret
            exact ⟨rfl, (hB.alloc hB.size _).alloc (by have := hB.size; simp; omega) _⟩

theorem walk (v0 : Value) (w : World) (h0 : IsRaws w v0) :
    Calls Tryz.prog 6 #[v0] w fun e w' => e = .returned (.bool true) ∧ Below w.heap.size w w' := by
  obtain ⟨l, hl, -⟩ := h0
  exact walk0 v0 l w hl

theorem own : ownKnob Tryz.prog.godebug = none := by kernel_rfl
theorem laidOut : laidOutB Tryz.prog = true := by kernel_rfl

set_option maxRecDepth 100000 in
theorem lifted (os : Os) (started : os.Started) (H : Type) (enc : TypeId × Value → H) :
    ReturnsInHanded {} Tryz.checked os 6 .any (Rows.setModelSpec.pre6 enc Tryz.prog Tryz.f6 Rows.setModelRow.domain false) (Rows.setModelSpec.post enc Tryz.prog Tryz.f6 false true false false) := by
  refine returnsInHanded_of_change_sized (C := Tryz.checked) own started (by kernel_rfl) Tryz.func6
    (ChangeSpec.witness6 (enc := enc) (C := Tryz.checked) false ⟨#[], #[.slice none 0 0], []⟩ 8 (by kernel_rfl) (by kernel_rfl) (by kernel_rfl) (by kernel_rfl)) ?_
  intro W base args ds gs before hval0 hW hcnd hsz _
  have hval : ∀ (j : Nat) t v, Tryz.f6.params[j]? = some t → args[j]? = some v → Value.okWide Tryz.prog W .any base t v := hval0
  have hW' := hW
  obtain ⟨p, q, hA0, hV, rfl, hfz, hnd⟩ := hW
  have hA : DataW.TrodAll enc Tryz.prog W 0 (fun _ => true) true Tryz.f6.params.toList args.toList ds p := hA0
  rw [Tryz.params6] at hA hval
  obtain ⟨v0, vs0, d0, ds0, p0, q0, hargs, rfl, rfl, h0, r0⟩ := trodAll_cons hA
  obtain ⟨rfl, rfl, rfl⟩ := trodAll_nil r0
  obtain rfl : args = #[v0] := by cases args; simp_all
  obtain ⟨rfl, rfl⟩ := trodVars_none hV
  have lt0 : ∀ x ∈ p0, x.block < W.heap.size := by obtain ⟨m, hm⟩ := h0; exact DataW.trod_lt m _ _ _ hm
  have g0 := shape_raws (hval 0 38 v0 rfl rfl) h0 (fun n hn => of_decide_eq_true (List.all_eq_true.1 hsz n (DataW.weights_mem_each (j := 0) rfl rfl n hn)))
  clear hA0 hval0
  refine (walk v0 W g0).mono fun e W' ⟨he, bel⟩ => ?_
  subst he
  exact ⟨_, rfl, _, _, _, [], _, [], hW', trodAll_mk1 (shut_bool Tryz.underlying4 _), (trodAll_cons_mk (Below.trod laidOut (by kernel_rfl) (of_decide_eq_true (by kernel_rfl)) h0 bel lt0) trodAll_mk0), rfl, bel.frame _, fun h => by cases h⟩

theorem over : Rows.setModelRow.holds Tryz.pinned (OpenSpec.ofChange Rows.setModelSpec) :=
  OpenClaim.holds_of_wide 6 Tryz.f6 rfl rfl rfl rfl rfl rfl rfl ⟨rfl, rfl, rfl, rfl, rfl⟩ rfl rfl rfl rfl rfl (by kernel_rfl) Tryz.func6 (by kernel_rfl)
    (of_decide_eq_true (by kernel_rfl)) (by unfold Func.isWrapper; first | (rw [if_pos (by decide +kernel)]; kernel_rfl) | (rw [if_neg (by decide +kernel)]; exact ⟨rfl, rfl⟩))
    (fun os started H enc _ => lifted os started H enc)

end Go.Proofs.YtgpdnhammdgndaaGreat.setModelDone
namespace Go.Proofs.YtgpdnhammdgndaaGreat
theorem SetModel_holds : Rows.SetModelSaid := setModelDone.over
end Go.Proofs.YtgpdnhammdgndaaGreat
