/- A hash has for each field what was set last, and its fields in their order: whatever is set and deleted in whatever order, the hash bears just what a map to which the same is done bears: for all raw numbers the law returns true. No condition. -/
import Derived.Test.YtgpdnhammdgndaaGreatMmJ
import Derived.Test.YtgpdnhammdgndaaGreatHs
import Derived.Deep.RegionHeld3
import Derived.Test.YtgpdnhammdgndaaGreatQs
import Derived.Deep.DeepCutAuto
import Derived.Sort.OwnSorted
namespace Go.Proofs.YtgpdnhammdgndaaGreat.hashModelDone
open Go.ChangeShapes Go.WideShapes Go.ChangeAt Go.RowKit Go.Maps
open Go.Proofs.YtgpdnhammdgndaaGreat
set_option linter.unusedVariables false
set_option linter.unusedSimpArgs false
set_option maxRecDepth 100000

def kOf (p : Nat) : Int := match p with | 0 => 4 | 1 => 4 | 2 => 5 | _ => 6
theorem kOf_le (p : Nat) : 4 ≤ kOf p ∧ kOf p ≤ 6 := by unfold kOf; split <;> omega
abbrev litK : Obj := .cells #[.int .i64 4, .int .i64 4, .int .i64 5, .int .i64 6] 3
theorem lit_at (w : World) (p : Nat) (hp : p < 4) : (w.alloc litK).cell? ⟨w.heap.size, p, none⟩ = some (.int .i64 (kOf p)) := by
  rw [(cellsB (alloc_at w litK)).1]
  have : p = 0 ∨ p = 1 ∨ p = 2 ∨ p = 3 := by omega
  rcases this with rfl | rfl | rfl | rfl <;> rfl
theorem letter (n : Int) : someB n ∈ letters := by
  have h := pickedN_lt n (show 0 < 9 by omega)
  have e : someB n = ⟨#[97 + UInt8.ofNat (pickedN n 9)]⟩ := rfl
  rw [e]
  generalize pickedN n 9 = k at h
  have : k = 0 ∨ k = 1 ∨ k = 2 ∨ k = 3 ∨ k = 4 ∨ k = 5 ∨ k = 6 ∨ k = 7 ∨ k = 8 := by omega
  rcases this with rfl | rfl | rfl | rfl | rfl | rfl | rfl | rfl | rfl <;> simp [letters]
theorem setC_at {w1 : World} {g : Nat} {k n k' n' : Int} {key fld txt key' fld' txt' : ByteArray} (h : w1.heap[g]? = some (.cells #[.int .i64 k', .string key', .string fld', .string txt', .int .i64 n'] 28 (0, 0))) :
    (((((w1.setCell ⟨g, 0, none⟩ (.int .i64 k)).setCell ⟨g, 1, none⟩ (.string key)).setCell ⟨g, 2, none⟩ (.string fld)).setCell ⟨g, 3, none⟩ (.string txt)).setCell ⟨g, 4, none⟩ (.int .i64 n)).heap[g]? = some (.cells #[.int .i64 k, .string key, .string fld, .string txt, .int .i64 n] 28 (0, 0)) :=
  setCell_sameV (o := 4) (.int .i64 n) (setCell_sameV (o := 3) (.string txt) (setCell_sameV (o := 2) (.string fld) (setCell_sameV (o := 1) (.string key) (setCell_sameV (o := 0) (.int .i64 k) h))))
theorem let_put {L L' : List (ByteArray × ByteArray)} (h : HashL L) (h' : HashL L') {f : ByteArray} {o : Option ByteArray} (hm : ∀ u, bears L' u = if u = f then o else bears L u) (hf : f ∈ letters) (hl : ∀ t ∈ L, t.1 ∈ letters) : ∀ t ∈ L', t.1 ∈ letters := by
  intro t ht
  by_cases e : t.1 = f
  · rw [e]; exact hf
  · have h1 := (bears_iff (fst_nodup h') t.1 t.2).2 ht
    rw [hm, if_neg e] at h1
    exact hl _ ((bears_iff (fst_nodup h) t.1 t.2).1 h1)
/-- A round's end. -/
theorem fin_hash {w w3 : World} {x y : Val} {ps is ss ps' is' ss' : Value} (nv : w3.heap[w.heap.size]? = some (valO x.kind x.text x.count ps is ss)) (hB : Below w.heap.size w w3) (hz : w.heap.size + 2 ≤ w3.heap.size)
    (hl : Lists w3 ps' is' ss' y) (hf1 : From (w.heap.size + 2) ps') (hf2 : From (w.heap.size + 2) is') (hf3 : From (w.heap.size + 2) ss') :
    (storedV w3 w.heap.size y.kind y.text y.count ps' is' ss').heap[w.heap.size]? = some (valO y.kind y.text y.count ps' is' ss') ∧ RepsF (w.heap.size + 2) (storedV w3 w.heap.size y.kind y.text y.count ps' is' ss') (valV y.kind y.text y.count ps' is' ss') y ∧
    w.heap.size + 2 ≤ (storedV w3 w.heap.size y.kind y.text y.count ps' is' ss').heap.size ∧ Below w.heap.size w (storedV w3 w.heap.size y.kind y.text y.count ps' is' ss') ∧
    (∀ n M c, HashB w3 (w.heap.size + 1) n M c → HashB (storedV w3 w.heap.size y.kind y.text y.count ps' is' ss') (w.heap.size + 1) n M c) := by
  have hz' := sizeV w3 w.heap.size y.kind y.text y.count ps' is' ss'
  refine ⟨storedV_block nv, storedV_reps (B := w.heap.size + 2) ⟨_, _, _, rfl, hl, hf1, hf2, hf3⟩ (by omega), by rw [hz']; exact hz, storedV_below hB (Nat.le_refl _), fun n M c h => ?_⟩
  have hq := storedV_below (kind := y.kind) (text := y.text) (count := y.count) (ps := ps') (is := is') (ss := ss') (Below.refl w.heap.size w3) (Nat.le_refl w.heap.size)
  exact h.kept (row := some w.heap.size) ⟨hq.os, hq.tape, hq.output, Nat.le_of_eq hz'.symm, fun k _ hk => keepV (fun e => hk (by rw [e]))⟩ (by simp)

/-- A round's end where the map is left as it was: the answer's boxes lie above the store. -/
theorem fin_hash2 {w w2 : World} {x y : Val} {ps is ss ps' is' ss' : Value} {oR : Obj} {n : Nat} {M : ByteArray → Option ByteArray} {c : Nat} (nv : w2.heap[w.heap.size]? = some (valO x.kind x.text x.count ps is ss)) (hB : Below w.heap.size w w2) (hz : w.heap.size + 2 ≤ w2.heap.size)
    (hl : Lists w2 ps' is' ss' y) (hf1 : From (w.heap.size + 2) ps') (hf2 : From (w.heap.size + 2) is') (hf3 : From (w.heap.size + 2) ss') (hs : HashB w2 (w.heap.size + 1) n M c) :
    (((storedV w2 w.heap.size y.kind y.text y.count ps' is' ss').alloc (valO y.kind y.text y.count ps' is' ss')).alloc oR).heap[w.heap.size]? = some (valO y.kind y.text y.count ps' is' ss') ∧ RepsF (w.heap.size + 2) (((storedV w2 w.heap.size y.kind y.text y.count ps' is' ss').alloc (valO y.kind y.text y.count ps' is' ss')).alloc oR) (valV y.kind y.text y.count ps' is' ss') y ∧
    w.heap.size + 2 ≤ (((storedV w2 w.heap.size y.kind y.text y.count ps' is' ss').alloc (valO y.kind y.text y.count ps' is' ss')).alloc oR).heap.size ∧ Below w.heap.size w (((storedV w2 w.heap.size y.kind y.text y.count ps' is' ss').alloc (valO y.kind y.text y.count ps' is' ss')).alloc oR) ∧
    HashB (((storedV w2 w.heap.size y.kind y.text y.count ps' is' ss').alloc (valO y.kind y.text y.count ps' is' ss')).alloc oR) (w.heap.size + 1) n M c := by
  obtain ⟨F1, F2, F3, F4, F5⟩ := fin_hash nv hB hz hl hf1 hf2 hf3
  have FS := F5 _ _ _ hs
  clear F5
  have hl1 := lt_at F1
  generalize storedV w2 w.heap.size y.kind y.text y.count ps' is' ss' = V at *
  have hbx : Below V.heap.size V ((V.alloc (valO y.kind y.text y.count ps' is' ss')).alloc oR) := (balloc _ _).alloc (by simp) _
  exact ⟨(hbx.block _ hl1).trans F1, F2.same (fun b _ hb => hbx.block b hb) hbx.size, Nat.le_trans F3 hbx.size, bstep F4 hbx, FS.below hbx⟩

set_option maxHeartbeats 16000000 in
theorem walk0 (s : Value) (l : List Raw) (w : World) (hl : RawsAt w s l) :
    Calls Tryz.prog 4 #[s] w fun e w' => e = .returned (.bool true) ∧ Below w.heap.size w w' := by
  obtain ⟨hwf, a, cap, rfl, k1, k2, k3⟩ := hl
  have hmm := @run_makeMap Tryz.prog
  go_enter Tryz.func4, Tryz.ntmps4
  obtain ⟨n0, -⟩ := two_new w (valO 0 ⟨#[]⟩ 0 (.slice none 0 0) (.slice none 0 0) (.slice none 0 0)) (.map #[] 0)
  have hB0 : Below w.heap.size w ((w.alloc (valO 0 ⟨#[]⟩ 0 (.slice none 0 0) (.slice none 0 0) (.slice none 0 0))).alloc (.map #[] 0)) := (balloc _ _).alloc (by simp) _
  have hz0 : w.heap.size + 2 ≤ ((w.alloc (valO 0 ⟨#[]⟩ 0 (.slice none 0 0) (.slice none 0 0) (.slice none 0 0))).alloc (.map #[] 0)).heap.size := by simp
  have hs0 := HashB.made (w.alloc (valO 0 ⟨#[]⟩ 0 (.slice none 0 0) (.slice none 0 0) (.slice none 0 0)))
  rw [show (w.alloc (valO 0 ⟨#[]⟩ 0 (.slice none 0 0) (.slice none 0 0) (.slice none 0 0))).heap.size = w.heap.size + 1 by simp] at hs0
  go_wp2_with fail
  generalize (w.alloc (valO 0 ⟨#[]⟩ 0 (.slice none 0 0) (.slice none 0 0) (.slice none 0 0))).alloc (.map #[] 0) = V at n0 hB0 hz0 hs0 ⊢
  go_loopw [5] (fun c wr => ∃ (m : Nat) (L : List (ByteArray × ByteArray)) (x : Val) (ps is ss : Value), c = .int .i64 (m : Int) ∧ m ≤ l.length ∧ m ≤ 30 ∧ x = keptV (hashX L) ∧ HashL L ∧ (∀ t ∈ L, t.1 ∈ letters) ∧ HashB wr (w.heap.size + 1) m (bears L) L.length ∧ wr.heap[w.heap.size]? = some (valO x.kind x.text x.count ps is ss) ∧ RepsF (w.heap.size + 2) wr (valV x.kind x.text x.count ps is ss) x ∧ w.heap.size + 2 ≤ wr.heap.size ∧ Below w.heap.size w wr)
    (fun c _ => 30 - (intOf c).toNat)
  case atStart => exact ⟨0, [], emptyVal 0, _, _, _, rfl, by omega, by omega, kept_nilH.symm, by simp [HashL], by simp, hs0, n0, ⟨_, _, _, rfl, Lists.empty _ 0, From.nil _, From.nil _, From.nil _⟩, hz0, hB0⟩
  case round =>
    clear n0 hB0 hz0 hs0 hmm
    obtain ⟨m, L, x, ps, is, ss, rfl, hm, hm30, hx, hL, hlet, hset, hv, hrep, hsz, hb⟩ := hrel
    by_cases hlt : m < l.length ∧ m < 30
    · obtain ⟨hl1, hl2⟩ := hlt
      rcases k3 with rfl | ⟨b, off, rfl, hbk, hc⟩
      · simp at hl1
      · have hcw : ∀ i (h : i < l.length) (c : Nat), c < 5 → wr.cell? ⟨b, off + i * 5 + c, none⟩ = (encRw l[i])[c]? := fun i hi c hk => (hb.cell (p := ⟨b, off + i * 5 + c, none⟩) hbk).trans (hc i hi c hk)
        obtain ⟨c0, c1, c2, c3, c4⟩ := fiveR hcw m hl1
        have hbw : b < wr.heap.size := Nat.lt_of_lt_of_le hbk hb.size
        have hdw := hwf l[m] (List.getElem_mem hl1)
        clear hcw hc hwf
        generalize l[m] = d at *
        obtain ⟨dk, dkey, dfld, dn, dtxt⟩ := d
        obtain ⟨w1, w2, w3, w4, w5⟩ := hdw
        simp only [i64s] at *
        have p4 := fun W => picked_any dk 4 W w1.1 w1.2 (by omega) (by omega)
        have hp := pickedN_lt dk (show 0 < 4 by omega)
        generalize pickedN dk 4 = p at *
        have hK := kOf_le p
        have hC := fun W => command_any (kOf p - 1) 0 dfld dn dtxt W (by omega) (by omega) w3 w4 w5
        have h22 : 1 + pickedN (kOf p - 1) 22 = (kOf p).toNat := by
          unfold pickedN; rw [if_neg (by omega)]; omega
        rw [h22] at hC
        have hcf := cmdFor_fault (kOf p).toNat 0 dfld dn dtxt (by omega) (by omega)
        have hck : (cmdFor (kOf p).toNat 0 dfld dn dtxt).k = kOf p := by show (((kOf p).toNat : Nat) : Int) = kOf p; omega
        have hct : (cmdFor (kOf p).toNat 0 dfld dn dtxt).fld = someB dfld := by
          unfold cmdFor
          simp only
          rw [if_pos (by omega)]
        have htx := (cmd_parts hcf).1
        have hlet1 := letter dfld
        rw [← hct] at hlet1
        have hlit := lit_at wr p hp
        generalize cmdFor (kOf p).toNat 0 dfld dn dtxt = c at *
        have h10 := few (fst_nodup hL) (fun t ht => by obtain ⟨q, hq, rfl⟩ := List.mem_map.1 ht; exact hlet q hq)
        rw [List.length_map] at h10
        have hst := hstep hL hcf (by rw [hck]; exact hK) (by omega)
        rw [← hx] at hst
        have HX : Hid (x = keptV (hashX L)) := hx
        clear hx
        have hD := do_any x c
        obtain ⟨hr0, hcases⟩ := hst
        rw [hr0] at hD
        rw [hck] at hcases
        clear hr0 hcf h22 hct
        generalize doV x c = y at *
        generalize doR x c = rp at *
        obtain ⟨ck, ckey, cfld, ctxt, cn⟩ := c
        simp only at hck hcases hlet1 htx
        subst hck
        have hwk : IntKind.i64.wrap (kOf p - 1) = kOf p - 1 := by rw [IntKind.wrap_i64]; omega
        generalize kOf p = K at *
        have htz : ctxt.size ≤ 9223372036854775807 := (by simp only [isTextB, decide_eq_true_eq] at htx; omega)
        clear htx
        have hcs : cfld.size ≤ 9223372036854775807 := by
          have : cfld.size ≤ 1 := by
            simp only [letters, List.mem_cons, List.mem_nil_iff, or_false] at hlet1
            rcases hlet1 with rfl | rfl | rfl | rfl | rfl | rfl | rfl | rfl | rfl | rfl <;> decide
          omega
        have HD : Hid (DoOk x ⟨K, ckey, cfld, ctxt, cn⟩ y rp 0) := hD
        have HC : Hid (∀ W, Calls Tryz.prog 16 #[rawV (K - 1) 0 dfld dn dtxt] W fun e w' => e = .returned (cmdV K ckey cfld ctxt cn) ∧ Below W.heap.size W w') := hC
        have P4 : Hid (∀ W, Calls Tryz.prog 15 #[.int .i64 dk, .int .i64 4] W fun e w' => e = .returned (.int .i64 (p : Nat)) ∧ W = w') := p4
        have HS : Hid (HashB wr (w.heap.size + 1) m (bears L) L.length) := hset
        have HV : Hid (wr.heap[w.heap.size]? = some (valO x.kind x.text x.count ps is ss)) := hv
        have HR : Hid (RepsF (w.heap.size + 2) wr (valV x.kind x.text x.count ps is ss) x) := hrep
        have HCS : Hid _ := hcases
        have HLT : Hid (∀ t ∈ L, t.1 ∈ letters) := hlet
        have HL1 : Hid (cfld ∈ letters) := hlet1
        clear hD hC p4 hset hv hrep hcases hlet hlet1
        have hi0 : (m : Int) < (l.length : Int) := by omega
        have hi1 : (m : Int) < 30 := by omega
        have hip : (p : Int) < 4 := by omega
        go_wp2_with fail
        refine (P4.out _).mono ?_
        rintro e w0 ⟨rfl, rfl⟩
        clear P4
        go_wp2_with fail
        have hb1 := balloc wr litK
        have e2 : (wr.alloc litK).cell? ⟨b, off + m * 5 + 2, none⟩ = some (.int .i64 dfld) := (hb1.cell (p := ⟨b, off + m * 5 + 2, none⟩) hbw).trans c2
        have e3 : (wr.alloc litK).cell? ⟨b, off + m * 5 + 3, none⟩ = some (.int .i64 dn) := (hb1.cell (p := ⟨b, off + m * 5 + 3, none⟩) hbw).trans c3
        have e4 : (wr.alloc litK).cell? ⟨b, off + m * 5 + 4, none⟩ = some (.string dtxt) := (hb1.cell (p := ⟨b, off + m * 5 + 4, none⟩) hbw).trans c4
        have hbz : b < (wr.alloc litK).heap.size := by have := hb1.size; omega
        have HW1 : Hid (Below wr.heap.size wr (wr.alloc litK)) := hb1
        clear hlit c0 c1 c2 c3 c4 hb1
        generalize wr.alloc litK = V1 at *
        go_cut [7] from 18 to 127 (fun s7 wx => ∃ g, s7 = .pointer (some ⟨g, 0, none⟩) ∧ wx.heap[g]? = some (.cells #[.int .i64 K, .string ckey, .string cfld, .string ctxt, .int .i64 cn] 28 (0, 0)) ∧ wr.heap.size ≤ g ∧ Below wr.heap.size wr wx)
        case first =>
          go_region_held3 (fun w' => w'.cell? ⟨b, off + m * 5 + 2, none⟩ = some (.int .i64 dfld) ∧ w'.cell? ⟨b, off + m * 5 + 3, none⟩ = some (.int .i64 dn) ∧ w'.cell? ⟨b, off + m * 5 + 4, none⟩ = some (.string dtxt)) (go_keep) (first
            | (go_at_call 16; (first
              | ((with_reducible refine (HC.out _).mono ?_); rintro e w2 ⟨rfl, hb2⟩; (first
                | (have u2 : Below V1.heap.size V1 w2 := (by with_reducible exact bstep (Below.refl _ _).drew hb2); have z2 := u2.size; have y3 : ¬ b = w2.heap.size := (by omega); have x3 : ¬ w2.heap.size = b := (by omega))
                | (have u2 : Below V1.heap.size V1 w2 := (by with_reducible exact bstep (balloc _ _).drew hb2); have m7 := boxD1 hb2; have sz2 := sizeD1 hb2; obtain ⟨p1, p2⟩ := block_cells m7; have z2 := u2.size; have y3 : ¬ b = V1.heap.size := (by omega); have x3 : ¬ V1.heap.size = b := (by omega))))); obtain ⟨e5, e6⟩ := same_block (u2.block b hbz)))
          all_goals
            have HBX := bstep HW1.out u2
            go_wp2_with fail
            go_meet
            first
              | with_reducible exact ⟨_, rfl, alloc_at _ _, HBX.size, HBX.alloc HBX.size _⟩
              | with_reducible exact ⟨_, rfl, setC_at m7, HW1.out.size, ((((HBX.setCell HW1.out.size _).setCell HW1.out.size _).setCell HW1.out.size _).setCell HW1.out.size _).setCell HW1.out.size _⟩
        case rest =>
          obtain ⟨gc, rfl, hgc, hgl, hbx⟩ := hcut
          have hB := bstep hb hbx
          have nv := (hbx.block _ (lt_at HV.out)).trans HV.out
          have hr1 := HR.out.reps.below hbx
          have hset := HS.out.below hbx
          have hlk := hset.look_ok 39 Tryz.underlying39 cfld hcs
          have hzw0 := hbx.size
          have HZW : Hid (w.heap.size + 2 ≤ wc.heap.size) := by show _ ≤ _; omega
          have HNV : Hid (wc.heap[w.heap.size]? = some (valO x.kind x.text x.count ps is ss)) := nv
          have HGC : Hid (wc.heap[gc]? = some (.cells #[.int .i64 K, .string ckey, .string cfld, .string ctxt, .int .i64 cn] 28)) := hgc
          have HSE : Hid (HashB wc (w.heap.size + 1) m (bears L) L.length) := hset
          have HB : Hid (Below w.heap.size w wc) := hB
          clear e2 e3 e4 hbz HW1 HC HV HR HS hbx hbw hb hset hB nv hzw0
          obtain ⟨pz, iz, sz, he, hls⟩ := hr1
          have he' : ps = pz ∧ is = iz ∧ ss = sz := by simpa [valV] using he
          obtain ⟨rfl, rfl, rfl⟩ := he'
          clear he
          obtain ⟨pa, pc, ia, ic, sa, sc, rfl, rfl, rfl, -⟩ := hls.lens
          obtain ⟨v0, v1⟩ := cellsB HNV.out
          obtain ⟨v2, v3⟩ := cellsB hgc
          have hlv := lt_at HNV.out
          have hlc := lt_at hgc
          clear hgc
          go_wp2_with fail
          clear v0 v1 v2 v3 hlk
          refine (HD.out _ _ ⟨_, _, _, rfl, hls⟩).mono ?_
          rintro e w2 ⟨v', u, rfl, hv', hu', hb2⟩
          clear HD hls
          have hzw := HZW.out
          have hz2 : wc.heap.size ≤ w2.heap.size := hb2.size
          have nv := (hb2.block _ (lt_at HNV.out)).trans HNV.out
          have hgc := (hb2.block _ (lt_at HGC.out)).trans HGC.out
          have hset := HSE.out.below hb2
          have hB := bstep HB.out hb2
          clear HNV HGC HSE HB hb2
          obtain ⟨ps', is', ss', rfl, hl', hf1, hf2, hf3⟩ := hv'
          obtain ⟨pa', pc', ia', ic', sa', sc', rfl, rfl, rfl, -⟩ := hl'.lens
          obtain ⟨la, lc, rfl⟩ := hu'.rep.shapes
          obtain ⟨qc, qt, qn, ql⟩ := rp
          clear hu'
          rcases HCS.out with ⟨f1, L', f3, f4, f5, f6, f7⟩ | ⟨f1, f2, f3, f4⟩ | ⟨f1, f0, f2, f3, f4⟩ | ⟨f1, f0, f2, f3, f4⟩ | ⟨f1, f2, L', f3, f4, f5, f6, f7⟩ | ⟨f1, f0, f2, f3, f4⟩
          · subst f1
            have hcase : (bears L cfld).isSome = true ∨ (bears L cfld).isSome = false := by cases (bears L cfld).isSome <;> simp
            rcases hcase with f2 | f2
            · rw [f2] at f4
              simp only [Rep.mk.injEq, if_true, Bool.false_eq_true, if_false] at f4
              obtain ⟨rfl, rfl, rfl, rfl⟩ := f4
              have hme := f2
              have HXY : Hid (y = keptV (hashX L')) := f3
              have hbT : Below w2.heap.size w2 ((w2.alloc (valO y.kind y.text y.count (.slice pa' y.pairs.length pc') (.slice ia' y.items.length ic') (.slice sa' y.scores.length sc'))).alloc (repO 0 ⟨#[]⟩ 0 (.slice la 0 lc))) := (balloc _ _).alloc (by simp) _
              obtain ⟨nN, nR⟩ := two_new w2 (valO y.kind y.text y.count (.slice pa' y.pairs.length pc') (.slice ia' y.items.length ic') (.slice sa' y.scores.length sc')) (repO 0 ⟨#[]⟩ 0 (.slice la 0 lc))
              have HT : Hid (HashB ((w2.alloc (valO y.kind y.text y.count (.slice pa' y.pairs.length pc') (.slice ia' y.items.length ic') (.slice sa' y.scores.length sc'))).alloc (repO 0 ⟨#[]⟩ 0 (.slice la 0 lc))) (w.heap.size + 1) m (bears L) L.length) := hset.below hbT
              have HNN : Hid (((w2.alloc (valO y.kind y.text y.count (.slice pa' y.pairs.length pc') (.slice ia' y.items.length ic') (.slice sa' y.scores.length sc'))).alloc (repO 0 ⟨#[]⟩ 0 (.slice la 0 lc))).heap[w2.heap.size]? = some (valO y.kind y.text y.count (.slice pa' y.pairs.length pc') (.slice ia' y.items.length ic') (.slice sa' y.scores.length sc'))) := nN
              have HNV : Hid (((w2.alloc (valO y.kind y.text y.count (.slice pa' y.pairs.length pc') (.slice ia' y.items.length ic') (.slice sa' y.scores.length sc'))).alloc (repO 0 ⟨#[]⟩ 0 (.slice la 0 lc))).heap[w.heap.size]? = some (valO x.kind x.text x.count (.slice pa x.pairs.length pc) (.slice ia x.items.length ic) (.slice sa x.scores.length sc))) := (hbT.block _ (lt_at nv)).trans nv
              have HBT : Hid (Below w.heap.size w ((w2.alloc (valO y.kind y.text y.count (.slice pa' y.pairs.length pc') (.slice ia' y.items.length ic') (.slice sa' y.scores.length sc'))).alloc (repO 0 ⟨#[]⟩ 0 (.slice la 0 lc)))) := bstep hB hbT
              have HLT2 : Hid (Lists ((w2.alloc (valO y.kind y.text y.count (.slice pa' y.pairs.length pc') (.slice ia' y.items.length ic') (.slice sa' y.scores.length sc'))).alloc (repO 0 ⟨#[]⟩ 0 (.slice la 0 lc))) (.slice pa' y.pairs.length pc') (.slice ia' y.items.length ic') (.slice sa' y.scores.length sc') y) := hl'.below hbT
              have HZT : Hid (w.heap.size + 2 ≤ ((w2.alloc (valO y.kind y.text y.count (.slice pa' y.pairs.length pc') (.slice ia' y.items.length ic') (.slice sa' y.scores.length sc'))).alloc (repO 0 ⟨#[]⟩ 0 (.slice la 0 lc))).heap.size) := Nat.le_trans (Nat.le_trans hzw hz2) hbT.size
              obtain ⟨t0, t1⟩ := cellsB ((hbT.block _ (lt_at hgc)).trans hgc)
              rw [hme]
              clear nN nR hbT hl' hset nv hB hgc hme HCS f3
              have HMEM : Hid (∀ u, bears L' u = if u = cfld then some ctxt else bears L u) := f6
              have HLEN : Hid (L'.length = if (bears L cfld).isSome = true then L.length else L.length + 1) := f7
              go_wp2_with (at_mapUpdate; refine wpList_hash_store rfl _ _ _ 39 rfl Tryz.underlying39 (w.heap.size + 1) m (bears L) (bears L') L.length L'.length ?_ HT.out ?_ cfld ctxt ?_ ?_ hcs htz HMEM.out HLEN.out ?_)
              · rfl
              · omega
              · rfl
              · rfl
              intro w3 hset3 hg3
              have nv3 := (hg3.block _ (lt_at HNV.out) (by simp)).trans HNV.out
              have nN3 := (hg3.block _ (lt_at HNN.out) (by simp only [ne_eq, Option.some.injEq]; omega)).trans HNN.out
              have hB3 : Below w.heap.size w w3 := HBT.out.trans ((Below.refl _ _).grown hg3 HBT.out.size (fun k hk => by simp only [Option.some.injEq] at hk; omega))
              have hz3 : w.heap.size + 2 ≤ w3.heap.size := Nat.le_trans HZT.out hg3.size
              have HL3 : Hid (Lists w3 (.slice pa' y.pairs.length pc') (.slice ia' y.items.length ic') (.slice sa' y.scores.length sc') y) := by
                obtain ⟨q1, q2, q3, he, h, -⟩ := RepsF.same (B := wc.heap.size) (w := ((w2.alloc (valO y.kind y.text y.count (.slice pa' y.pairs.length pc') (.slice ia' y.items.length ic') (.slice sa' y.scores.length sc'))).alloc (repO 0 ⟨#[]⟩ 0 (.slice la 0 lc)))) (w' := w3) (v := valV y.kind y.text y.count (.slice pa' y.pairs.length pc') (.slice ia' y.items.length ic') (.slice sa' y.scores.length sc')) ⟨_, _, _, rfl, HLT2.out, hf1, hf2, hf3⟩ (fun k h1 h2 => hg3.block k h2 (by simp only [ne_eq, Option.some.injEq]; omega)) hg3.size
                have he' : Value.slice pa' y.pairs.length pc' = q1 ∧ Value.slice ia' y.items.length ic' = q2 ∧ Value.slice sa' y.scores.length sc' = q3 := by simpa [valV] using he
                obtain ⟨rfl, rfl, rfl⟩ := he'
                exact h
              clear hg3 HT HNN HNV HBT HZT HLT2 t0 t1
              have hl3 : Lists w3 (.slice pa' y.pairs.length pc') (.slice ia' y.items.length ic') (.slice sa' y.scores.length sc') y := HL3.out
              obtain ⟨F1, F2, F3, F4, F5⟩ := fin_hash nv3 hB3 hz3 hl3 (hf1.mono hzw) (hf2.mono hzw) (hf3.mono hzw)
              have FO := F5 _ _ _ hset3
              clear F5
              obtain ⟨d0, d1⟩ := cellsB nv3
              obtain ⟨d2, d3⟩ := cellsB nN3
              have hlv3 := lt_at nv3
              have hlN3 := lt_at nN3
              go_wp2_with fail
              exact ⟨⟨m + 1, L', y, _, _, _, by go_num, by omega, by omega, HXY.out, f5, let_put hL f5 f6 HL1.out HLT.out, FO.eqs (fun _ => rfl) (by have h9 := HLEN.out; simp only [f2, if_true, Bool.false_eq_true, if_false] at h9; exact h9), F1, F2, F3, F4⟩, by simp [intOf]; omega⟩
            · rw [f2] at f4
              simp only [Rep.mk.injEq, if_true, Bool.false_eq_true, if_false] at f4
              obtain ⟨rfl, rfl, rfl, rfl⟩ := f4
              have hme := f2
              have HXY : Hid (y = keptV (hashX L')) := f3
              have hbT : Below w2.heap.size w2 ((w2.alloc (valO y.kind y.text y.count (.slice pa' y.pairs.length pc') (.slice ia' y.items.length ic') (.slice sa' y.scores.length sc'))).alloc (repO 0 ⟨#[]⟩ 1 (.slice la 0 lc))) := (balloc _ _).alloc (by simp) _
              obtain ⟨nN, nR⟩ := two_new w2 (valO y.kind y.text y.count (.slice pa' y.pairs.length pc') (.slice ia' y.items.length ic') (.slice sa' y.scores.length sc')) (repO 0 ⟨#[]⟩ 1 (.slice la 0 lc))
              have HT : Hid (HashB ((w2.alloc (valO y.kind y.text y.count (.slice pa' y.pairs.length pc') (.slice ia' y.items.length ic') (.slice sa' y.scores.length sc'))).alloc (repO 0 ⟨#[]⟩ 1 (.slice la 0 lc))) (w.heap.size + 1) m (bears L) L.length) := hset.below hbT
              have HNN : Hid (((w2.alloc (valO y.kind y.text y.count (.slice pa' y.pairs.length pc') (.slice ia' y.items.length ic') (.slice sa' y.scores.length sc'))).alloc (repO 0 ⟨#[]⟩ 1 (.slice la 0 lc))).heap[w2.heap.size]? = some (valO y.kind y.text y.count (.slice pa' y.pairs.length pc') (.slice ia' y.items.length ic') (.slice sa' y.scores.length sc'))) := nN
              have HNV : Hid (((w2.alloc (valO y.kind y.text y.count (.slice pa' y.pairs.length pc') (.slice ia' y.items.length ic') (.slice sa' y.scores.length sc'))).alloc (repO 0 ⟨#[]⟩ 1 (.slice la 0 lc))).heap[w.heap.size]? = some (valO x.kind x.text x.count (.slice pa x.pairs.length pc) (.slice ia x.items.length ic) (.slice sa x.scores.length sc))) := (hbT.block _ (lt_at nv)).trans nv
              have HBT : Hid (Below w.heap.size w ((w2.alloc (valO y.kind y.text y.count (.slice pa' y.pairs.length pc') (.slice ia' y.items.length ic') (.slice sa' y.scores.length sc'))).alloc (repO 0 ⟨#[]⟩ 1 (.slice la 0 lc)))) := bstep hB hbT
              have HLT2 : Hid (Lists ((w2.alloc (valO y.kind y.text y.count (.slice pa' y.pairs.length pc') (.slice ia' y.items.length ic') (.slice sa' y.scores.length sc'))).alloc (repO 0 ⟨#[]⟩ 1 (.slice la 0 lc))) (.slice pa' y.pairs.length pc') (.slice ia' y.items.length ic') (.slice sa' y.scores.length sc') y) := hl'.below hbT
              have HZT : Hid (w.heap.size + 2 ≤ ((w2.alloc (valO y.kind y.text y.count (.slice pa' y.pairs.length pc') (.slice ia' y.items.length ic') (.slice sa' y.scores.length sc'))).alloc (repO 0 ⟨#[]⟩ 1 (.slice la 0 lc))).heap.size) := Nat.le_trans (Nat.le_trans hzw hz2) hbT.size
              obtain ⟨t0, t1⟩ := cellsB ((hbT.block _ (lt_at hgc)).trans hgc)
              rw [hme]
              clear nN nR hbT hl' hset nv hB hgc hme HCS f3
              have HMEM : Hid (∀ u, bears L' u = if u = cfld then some ctxt else bears L u) := f6
              have HLEN : Hid (L'.length = if (bears L cfld).isSome = true then L.length else L.length + 1) := f7
              go_wp2_with (at_mapUpdate; refine wpList_hash_store rfl _ _ _ 39 rfl Tryz.underlying39 (w.heap.size + 1) m (bears L) (bears L') L.length L'.length ?_ HT.out ?_ cfld ctxt ?_ ?_ hcs htz HMEM.out HLEN.out ?_)
              · rfl
              · omega
              · rfl
              · rfl
              intro w3 hset3 hg3
              have nv3 := (hg3.block _ (lt_at HNV.out) (by simp)).trans HNV.out
              have nN3 := (hg3.block _ (lt_at HNN.out) (by simp only [ne_eq, Option.some.injEq]; omega)).trans HNN.out
              have hB3 : Below w.heap.size w w3 := HBT.out.trans ((Below.refl _ _).grown hg3 HBT.out.size (fun k hk => by simp only [Option.some.injEq] at hk; omega))
              have hz3 : w.heap.size + 2 ≤ w3.heap.size := Nat.le_trans HZT.out hg3.size
              have HL3 : Hid (Lists w3 (.slice pa' y.pairs.length pc') (.slice ia' y.items.length ic') (.slice sa' y.scores.length sc') y) := by
                obtain ⟨q1, q2, q3, he, h, -⟩ := RepsF.same (B := wc.heap.size) (w := ((w2.alloc (valO y.kind y.text y.count (.slice pa' y.pairs.length pc') (.slice ia' y.items.length ic') (.slice sa' y.scores.length sc'))).alloc (repO 0 ⟨#[]⟩ 1 (.slice la 0 lc)))) (w' := w3) (v := valV y.kind y.text y.count (.slice pa' y.pairs.length pc') (.slice ia' y.items.length ic') (.slice sa' y.scores.length sc')) ⟨_, _, _, rfl, HLT2.out, hf1, hf2, hf3⟩ (fun k h1 h2 => hg3.block k h2 (by simp only [ne_eq, Option.some.injEq]; omega)) hg3.size
                have he' : Value.slice pa' y.pairs.length pc' = q1 ∧ Value.slice ia' y.items.length ic' = q2 ∧ Value.slice sa' y.scores.length sc' = q3 := by simpa [valV] using he
                obtain ⟨rfl, rfl, rfl⟩ := he'
                exact h
              clear hg3 HT HNN HNV HBT HZT HLT2 t0 t1
              have hl3 : Lists w3 (.slice pa' y.pairs.length pc') (.slice ia' y.items.length ic') (.slice sa' y.scores.length sc') y := HL3.out
              obtain ⟨F1, F2, F3, F4, F5⟩ := fin_hash nv3 hB3 hz3 hl3 (hf1.mono hzw) (hf2.mono hzw) (hf3.mono hzw)
              have FO := F5 _ _ _ hset3
              clear F5
              obtain ⟨d0, d1⟩ := cellsB nv3
              obtain ⟨d2, d3⟩ := cellsB nN3
              have hlv3 := lt_at nv3
              have hlN3 := lt_at nN3
              go_wp2_with fail
              exact ⟨⟨m + 1, L', y, _, _, _, by go_num, by omega, by omega, HXY.out, f5, let_put hL f5 f6 HL1.out HLT.out, FO.eqs (fun _ => rfl) (by have h9 := HLEN.out; simp only [f2, if_true, Bool.false_eq_true, if_false] at h9; exact h9), F1, F2, F3, F4⟩, by simp [intOf]; omega⟩
          · simp only [Rep.mk.injEq] at f4
            obtain ⟨rfl, rfl, rfl, rfl⟩ := f4
            have g1 : (K == 4) = false := by rw [beq_eq_false_iff_ne]; omega
            have g2 : ((L.length : Int) == 0) = true := by rw [beq_iff_eq, f2]; rfl
            have hme : (bears L cfld).isSome = false := by rw [f2]; rfl
            have HXY : Hid (y = x) := f3
            have hbT : Below w2.heap.size w2 ((w2.alloc (valO y.kind y.text y.count (.slice pa' y.pairs.length pc') (.slice ia' y.items.length ic') (.slice sa' y.scores.length sc'))).alloc (repO 5 ⟨#[]⟩ 0 (.slice la 0 lc))) := (balloc _ _).alloc (by simp) _
            have HT : Hid (HashB ((w2.alloc (valO y.kind y.text y.count (.slice pa' y.pairs.length pc') (.slice ia' y.items.length ic') (.slice sa' y.scores.length sc'))).alloc (repO 5 ⟨#[]⟩ 0 (.slice la 0 lc))) (w.heap.size + 1) m (bears L) L.length) := hset.below hbT
            obtain ⟨F1, F2, F3, F4, FO⟩ := fin_hash2 (oR := (repO 5 ⟨#[]⟩ 0 (.slice la 0 lc))) nv hB (Nat.le_trans hzw hz2) hl' (hf1.mono hzw) (hf2.mono hzw) (hf3.mono hzw) hset
            obtain ⟨d0, d1⟩ := cellsB nv
            have hlv3 := lt_at nv
            have hne1 : ¬ w.heap.size = w2.heap.size := by omega
            have hne2 : ¬ w2.heap.size = w.heap.size := by omega
            have hne3 : ¬ w.heap.size = w2.heap.size + 1 := by omega
            have hne4 : ¬ w2.heap.size + 1 = w.heap.size := by omega
            rw [hme]
            clear hbT hl' hset nv hB hgc hme HCS f3 f2
            go_wp2_with (at_len; refine wpList_hash_len rfl _ 39 rfl Tryz.underlying39 (w.heap.size + 1) m (bears L) L.length rfl HT.out ?_)
            exact ⟨⟨m + 1, L, y, _, _, _, by go_num, by omega, by omega, HXY.out.trans HX.out, hL, HLT.out, FO.mono (Nat.le_succ _), F1, F2, F3, F4⟩, by simp [intOf]; omega⟩
          · simp only [Rep.mk.injEq] at f4
            obtain ⟨g5, g6, g7, g8⟩ := f4
            subst g5 g7 g8
            have g9 : qt = txtAt (bears L) cfld := g6
            subst g9
            clear g6
            subst f1
            have hp1 : 0 < L.length := List.length_pos_iff.2 f0
            have g2 : ((L.length : Int) == 0) = false := by rw [beq_eq_false_iff_ne]; omega
            have hme := f2
            have HXY : Hid (y = x) := f3
            have hbT : Below w2.heap.size w2 ((w2.alloc (valO y.kind y.text y.count (.slice pa' y.pairs.length pc') (.slice ia' y.items.length ic') (.slice sa' y.scores.length sc'))).alloc (repO 0 (txtAt (bears L) cfld) 0 (.slice la 0 lc))) := (balloc _ _).alloc (by simp) _
            have HT : Hid (HashB ((w2.alloc (valO y.kind y.text y.count (.slice pa' y.pairs.length pc') (.slice ia' y.items.length ic') (.slice sa' y.scores.length sc'))).alloc (repO 0 (txtAt (bears L) cfld) 0 (.slice la 0 lc))) (w.heap.size + 1) m (bears L) L.length) := hset.below hbT
            obtain ⟨F1, F2, F3, F4, FO⟩ := fin_hash2 (oR := (repO 0 (txtAt (bears L) cfld) 0 (.slice la 0 lc))) nv hB (Nat.le_trans hzw hz2) hl' (hf1.mono hzw) (hf2.mono hzw) (hf3.mono hzw) hset
            obtain ⟨d0, d1⟩ := cellsB nv
            have hlv3 := lt_at nv
            have hne1 : ¬ w.heap.size = w2.heap.size := by omega
            have hne2 : ¬ w2.heap.size = w.heap.size := by omega
            have hne3 : ¬ w.heap.size = w2.heap.size + 1 := by omega
            have hne4 : ¬ w2.heap.size + 1 = w.heap.size := by omega
            rw [hme]
            clear hbT hl' hset nv hB hgc hme HCS f3 f2
            go_wp2_with (at_len; refine wpList_hash_len rfl _ 39 rfl Tryz.underlying39 (w.heap.size + 1) m (bears L) L.length rfl HT.out ?_)
            exact ⟨⟨m + 1, L, y, _, _, _, by go_num, by omega, by omega, HXY.out.trans HX.out, hL, HLT.out, FO.mono (Nat.le_succ _), F1, F2, F3, F4⟩, by simp [intOf]; omega⟩
          · simp only [Rep.mk.injEq] at f4
            obtain ⟨rfl, rfl, rfl, rfl⟩ := f4
            subst f1
            have hp1 : 0 < L.length := List.length_pos_iff.2 (f0)
            have g2 : ((L.length : Int) == 0) = false := by rw [beq_eq_false_iff_ne]; omega
            have hme := f2
            have HXY : Hid (y = x) := f3
            have hbT : Below w2.heap.size w2 ((w2.alloc (valO y.kind y.text y.count (.slice pa' y.pairs.length pc') (.slice ia' y.items.length ic') (.slice sa' y.scores.length sc'))).alloc (repO 5 ⟨#[]⟩ 0 (.slice la 0 lc))) := (balloc _ _).alloc (by simp) _
            have HT : Hid (HashB ((w2.alloc (valO y.kind y.text y.count (.slice pa' y.pairs.length pc') (.slice ia' y.items.length ic') (.slice sa' y.scores.length sc'))).alloc (repO 5 ⟨#[]⟩ 0 (.slice la 0 lc))) (w.heap.size + 1) m (bears L) L.length) := hset.below hbT
            obtain ⟨F1, F2, F3, F4, FO⟩ := fin_hash2 (oR := (repO 5 ⟨#[]⟩ 0 (.slice la 0 lc))) nv hB (Nat.le_trans hzw hz2) hl' (hf1.mono hzw) (hf2.mono hzw) (hf3.mono hzw) hset
            obtain ⟨d0, d1⟩ := cellsB nv
            have hlv3 := lt_at nv
            have hne1 : ¬ w.heap.size = w2.heap.size := by omega
            have hne2 : ¬ w2.heap.size = w.heap.size := by omega
            have hne3 : ¬ w.heap.size = w2.heap.size + 1 := by omega
            have hne4 : ¬ w2.heap.size + 1 = w.heap.size := by omega
            rw [hme]
            clear hbT hl' hset nv hB hgc hme HCS f3 f2
            go_wp2_with (at_len; refine wpList_hash_len rfl _ 39 rfl Tryz.underlying39 (w.heap.size + 1) m (bears L) L.length rfl HT.out ?_)
            exact ⟨⟨m + 1, L, y, _, _, _, by go_num, by omega, by omega, HXY.out.trans HX.out, hL, HLT.out, FO.mono (Nat.le_succ _), F1, F2, F3, F4⟩, by simp [intOf]; omega⟩
          · simp only [Rep.mk.injEq] at f4
            obtain ⟨rfl, rfl, rfl, rfl⟩ := f4
            subst f1
            have hp1 : 0 < L.length := List.length_pos_iff.2 (by rintro e; rw [e] at f2; simp [bears] at f2)
            have g2 : ((L.length : Int) == 0) = false := by rw [beq_eq_false_iff_ne]; omega
            have hme := f2
            have HXY : Hid (y = keptV (hashX L')) := f3
            have hbT : Below w2.heap.size w2 ((w2.alloc (valO y.kind y.text y.count (.slice pa' y.pairs.length pc') (.slice ia' y.items.length ic') (.slice sa' y.scores.length sc'))).alloc (repO 0 ⟨#[]⟩ 1 (.slice la 0 lc))) := (balloc _ _).alloc (by simp) _
            obtain ⟨nN, nR⟩ := two_new w2 (valO y.kind y.text y.count (.slice pa' y.pairs.length pc') (.slice ia' y.items.length ic') (.slice sa' y.scores.length sc')) (repO 0 ⟨#[]⟩ 1 (.slice la 0 lc))
            have HT : Hid (HashB ((w2.alloc (valO y.kind y.text y.count (.slice pa' y.pairs.length pc') (.slice ia' y.items.length ic') (.slice sa' y.scores.length sc'))).alloc (repO 0 ⟨#[]⟩ 1 (.slice la 0 lc))) (w.heap.size + 1) m (bears L) L.length) := hset.below hbT
            have HNN : Hid (((w2.alloc (valO y.kind y.text y.count (.slice pa' y.pairs.length pc') (.slice ia' y.items.length ic') (.slice sa' y.scores.length sc'))).alloc (repO 0 ⟨#[]⟩ 1 (.slice la 0 lc))).heap[w2.heap.size]? = some (valO y.kind y.text y.count (.slice pa' y.pairs.length pc') (.slice ia' y.items.length ic') (.slice sa' y.scores.length sc'))) := nN
            have HNV : Hid (((w2.alloc (valO y.kind y.text y.count (.slice pa' y.pairs.length pc') (.slice ia' y.items.length ic') (.slice sa' y.scores.length sc'))).alloc (repO 0 ⟨#[]⟩ 1 (.slice la 0 lc))).heap[w.heap.size]? = some (valO x.kind x.text x.count (.slice pa x.pairs.length pc) (.slice ia x.items.length ic) (.slice sa x.scores.length sc))) := (hbT.block _ (lt_at nv)).trans nv
            have HBT : Hid (Below w.heap.size w ((w2.alloc (valO y.kind y.text y.count (.slice pa' y.pairs.length pc') (.slice ia' y.items.length ic') (.slice sa' y.scores.length sc'))).alloc (repO 0 ⟨#[]⟩ 1 (.slice la 0 lc)))) := bstep hB hbT
            have HLT2 : Hid (Lists ((w2.alloc (valO y.kind y.text y.count (.slice pa' y.pairs.length pc') (.slice ia' y.items.length ic') (.slice sa' y.scores.length sc'))).alloc (repO 0 ⟨#[]⟩ 1 (.slice la 0 lc))) (.slice pa' y.pairs.length pc') (.slice ia' y.items.length ic') (.slice sa' y.scores.length sc') y) := hl'.below hbT
            have HZT : Hid (w.heap.size + 2 ≤ ((w2.alloc (valO y.kind y.text y.count (.slice pa' y.pairs.length pc') (.slice ia' y.items.length ic') (.slice sa' y.scores.length sc'))).alloc (repO 0 ⟨#[]⟩ 1 (.slice la 0 lc))).heap.size) := Nat.le_trans (Nat.le_trans hzw hz2) hbT.size
            obtain ⟨t0, t1⟩ := cellsB ((hbT.block _ (lt_at hgc)).trans hgc)
            rw [hme]
            clear nN nR hbT hl' hset nv hB hgc hme HCS f3
            have HMEM : Hid (∀ u, bears L' u = if u = cfld then none else bears L u) := f6
            have HLEN : Hid (L'.length + (if (bears L cfld).isSome = true then 1 else 0) = L.length) := by show _ = _; rw [if_pos f2]; exact f7
            go_wp2_with (first | (at_len; refine wpList_hash_len rfl _ 39 rfl Tryz.underlying39 (w.heap.size + 1) m (bears L) L.length rfl HT.out ?_) | (at_delete; refine wpList_hash_delete rfl _ _ 39 rfl Tryz.underlying39 (w.heap.size + 1) m (bears L) (bears L') L.length L'.length ?_ HT.out cfld ?_ hcs HMEM.out HLEN.out ?_))
            · rfl
            · rfl
            intro w3 hset3 hg3
            have nv3 := (hg3.block _ (lt_at HNV.out) (by simp)).trans HNV.out
            have nN3 := (hg3.block _ (lt_at HNN.out) (by simp only [ne_eq, Option.some.injEq]; omega)).trans HNN.out
            have hB3 : Below w.heap.size w w3 := HBT.out.trans ((Below.refl _ _).grown hg3 HBT.out.size (fun k hk => by simp only [Option.some.injEq] at hk; omega))
            have hz3 : w.heap.size + 2 ≤ w3.heap.size := Nat.le_trans HZT.out hg3.size
            have HL3 : Hid (Lists w3 (.slice pa' y.pairs.length pc') (.slice ia' y.items.length ic') (.slice sa' y.scores.length sc') y) := by
              obtain ⟨q1, q2, q3, he, h, -⟩ := RepsF.same (B := wc.heap.size) (w := ((w2.alloc (valO y.kind y.text y.count (.slice pa' y.pairs.length pc') (.slice ia' y.items.length ic') (.slice sa' y.scores.length sc'))).alloc (repO 0 ⟨#[]⟩ 1 (.slice la 0 lc)))) (w' := w3) (v := valV y.kind y.text y.count (.slice pa' y.pairs.length pc') (.slice ia' y.items.length ic') (.slice sa' y.scores.length sc')) ⟨_, _, _, rfl, HLT2.out, hf1, hf2, hf3⟩ (fun k h1 h2 => hg3.block k h2 (by simp only [ne_eq, Option.some.injEq]; omega)) hg3.size
              have he' : Value.slice pa' y.pairs.length pc' = q1 ∧ Value.slice ia' y.items.length ic' = q2 ∧ Value.slice sa' y.scores.length sc' = q3 := by simpa [valV] using he
              obtain ⟨rfl, rfl, rfl⟩ := he'
              exact h
            clear hg3 HT HNN HNV HBT HZT HLT2 t0 t1
            have hl3 : Lists w3 (.slice pa' y.pairs.length pc') (.slice ia' y.items.length ic') (.slice sa' y.scores.length sc') y := HL3.out
            obtain ⟨F1, F2, F3, F4, F5⟩ := fin_hash nv3 hB3 hz3 hl3 (hf1.mono hzw) (hf2.mono hzw) (hf3.mono hzw)
            have FO := F5 _ _ _ hset3
            clear F5
            obtain ⟨d0, d1⟩ := cellsB nv3
            obtain ⟨d2, d3⟩ := cellsB nN3
            have hlv3 := lt_at nv3
            have hlN3 := lt_at nN3
            go_wp2_with fail
            exact ⟨⟨m + 1, L', y, _, _, _, by go_num, by omega, by omega, HXY.out, f5, let_put hL f5 f6 HL1.out HLT.out, FO.mono (Nat.le_succ _), F1, F2, F3, F4⟩, by simp [intOf]; omega⟩
          · simp only [Rep.mk.injEq] at f4
            obtain ⟨rfl, rfl, rfl, rfl⟩ := f4
            subst f1
            have hp1 : 0 < L.length := List.length_pos_iff.2 (f0)
            have g2 : ((L.length : Int) == 0) = false := by rw [beq_eq_false_iff_ne]; omega
            have hme := f2
            have HXY : Hid (y = x) := f3
            have hbT : Below w2.heap.size w2 ((w2.alloc (valO y.kind y.text y.count (.slice pa' y.pairs.length pc') (.slice ia' y.items.length ic') (.slice sa' y.scores.length sc'))).alloc (repO 0 ⟨#[]⟩ 0 (.slice la 0 lc))) := (balloc _ _).alloc (by simp) _
            obtain ⟨nN, nR⟩ := two_new w2 (valO y.kind y.text y.count (.slice pa' y.pairs.length pc') (.slice ia' y.items.length ic') (.slice sa' y.scores.length sc')) (repO 0 ⟨#[]⟩ 0 (.slice la 0 lc))
            have HT : Hid (HashB ((w2.alloc (valO y.kind y.text y.count (.slice pa' y.pairs.length pc') (.slice ia' y.items.length ic') (.slice sa' y.scores.length sc'))).alloc (repO 0 ⟨#[]⟩ 0 (.slice la 0 lc))) (w.heap.size + 1) m (bears L) L.length) := hset.below hbT
            have HNN : Hid (((w2.alloc (valO y.kind y.text y.count (.slice pa' y.pairs.length pc') (.slice ia' y.items.length ic') (.slice sa' y.scores.length sc'))).alloc (repO 0 ⟨#[]⟩ 0 (.slice la 0 lc))).heap[w2.heap.size]? = some (valO y.kind y.text y.count (.slice pa' y.pairs.length pc') (.slice ia' y.items.length ic') (.slice sa' y.scores.length sc'))) := nN
            have HNV : Hid (((w2.alloc (valO y.kind y.text y.count (.slice pa' y.pairs.length pc') (.slice ia' y.items.length ic') (.slice sa' y.scores.length sc'))).alloc (repO 0 ⟨#[]⟩ 0 (.slice la 0 lc))).heap[w.heap.size]? = some (valO x.kind x.text x.count (.slice pa x.pairs.length pc) (.slice ia x.items.length ic) (.slice sa x.scores.length sc))) := (hbT.block _ (lt_at nv)).trans nv
            have HBT : Hid (Below w.heap.size w ((w2.alloc (valO y.kind y.text y.count (.slice pa' y.pairs.length pc') (.slice ia' y.items.length ic') (.slice sa' y.scores.length sc'))).alloc (repO 0 ⟨#[]⟩ 0 (.slice la 0 lc)))) := bstep hB hbT
            have HLT2 : Hid (Lists ((w2.alloc (valO y.kind y.text y.count (.slice pa' y.pairs.length pc') (.slice ia' y.items.length ic') (.slice sa' y.scores.length sc'))).alloc (repO 0 ⟨#[]⟩ 0 (.slice la 0 lc))) (.slice pa' y.pairs.length pc') (.slice ia' y.items.length ic') (.slice sa' y.scores.length sc') y) := hl'.below hbT
            have HZT : Hid (w.heap.size + 2 ≤ ((w2.alloc (valO y.kind y.text y.count (.slice pa' y.pairs.length pc') (.slice ia' y.items.length ic') (.slice sa' y.scores.length sc'))).alloc (repO 0 ⟨#[]⟩ 0 (.slice la 0 lc))).heap.size) := Nat.le_trans (Nat.le_trans hzw hz2) hbT.size
            obtain ⟨t0, t1⟩ := cellsB ((hbT.block _ (lt_at hgc)).trans hgc)
            rw [hme]
            clear nN nR hbT hl' hset nv hB hgc hme HCS f3
            have HMEM : Hid (∀ u, bears L u = if u = cfld then none else bears L u) := by
              show ∀ u, _
              intro u
              by_cases hu : u = cfld
              · rw [if_pos hu, hu]; exact Option.isSome_eq_false_iff.1 f2 |> Option.isNone_iff_eq_none.1
              · rw [if_neg hu]
            have HLEN : Hid (L.length + (if (bears L cfld).isSome = true then 1 else 0) = L.length) := by show _ = _; rw [if_neg (by rw [f2]; simp)]; rfl
            go_wp2_with (first | (at_len; refine wpList_hash_len rfl _ 39 rfl Tryz.underlying39 (w.heap.size + 1) m (bears L) L.length rfl HT.out ?_) | (at_delete; refine wpList_hash_delete rfl _ _ 39 rfl Tryz.underlying39 (w.heap.size + 1) m (bears L) (bears L) L.length L.length ?_ HT.out cfld ?_ hcs HMEM.out HLEN.out ?_))
            · rfl
            · rfl
            intro w3 hset3 hg3
            have nv3 := (hg3.block _ (lt_at HNV.out) (by simp)).trans HNV.out
            have nN3 := (hg3.block _ (lt_at HNN.out) (by simp only [ne_eq, Option.some.injEq]; omega)).trans HNN.out
            have hB3 : Below w.heap.size w w3 := HBT.out.trans ((Below.refl _ _).grown hg3 HBT.out.size (fun k hk => by simp only [Option.some.injEq] at hk; omega))
            have hz3 : w.heap.size + 2 ≤ w3.heap.size := Nat.le_trans HZT.out hg3.size
            have HL3 : Hid (Lists w3 (.slice pa' y.pairs.length pc') (.slice ia' y.items.length ic') (.slice sa' y.scores.length sc') y) := by
              obtain ⟨q1, q2, q3, he, h, -⟩ := RepsF.same (B := wc.heap.size) (w := ((w2.alloc (valO y.kind y.text y.count (.slice pa' y.pairs.length pc') (.slice ia' y.items.length ic') (.slice sa' y.scores.length sc'))).alloc (repO 0 ⟨#[]⟩ 0 (.slice la 0 lc)))) (w' := w3) (v := valV y.kind y.text y.count (.slice pa' y.pairs.length pc') (.slice ia' y.items.length ic') (.slice sa' y.scores.length sc')) ⟨_, _, _, rfl, HLT2.out, hf1, hf2, hf3⟩ (fun k h1 h2 => hg3.block k h2 (by simp only [ne_eq, Option.some.injEq]; omega)) hg3.size
              have he' : Value.slice pa' y.pairs.length pc' = q1 ∧ Value.slice ia' y.items.length ic' = q2 ∧ Value.slice sa' y.scores.length sc' = q3 := by simpa [valV] using he
              obtain ⟨rfl, rfl, rfl⟩ := he'
              exact h
            clear hg3 HT HNN HNV HBT HZT HLT2 t0 t1
            have hl3 : Lists w3 (.slice pa' y.pairs.length pc') (.slice ia' y.items.length ic') (.slice sa' y.scores.length sc') y := HL3.out
            obtain ⟨F1, F2, F3, F4, F5⟩ := fin_hash nv3 hB3 hz3 hl3 (hf1.mono hzw) (hf2.mono hzw) (hf3.mono hzw)
            have FO := F5 _ _ _ hset3
            clear F5
            obtain ⟨d0, d1⟩ := cellsB nv3
            obtain ⟨d2, d3⟩ := cellsB nN3
            have hlv3 := lt_at nv3
            have hlN3 := lt_at nN3
            go_wp2_with fail
            exact ⟨⟨m + 1, L, y, _, _, _, by go_num, by omega, by omega, HXY.out.trans HX.out, hL, HLT.out, FO.mono (Nat.le_succ _), F1, F2, F3, F4⟩, by simp [intOf]; omega⟩
    · have hx' : (¬ (m : Int) < (l.length : Int)) ∨ ((m : Int) < (l.length : Int) ∧ ¬ (m : Int) < 30) := by omega
      have hxi : x.pairs = L := by
        rw [hx]
        by_cases h0 : 1 ≤ L.length
        · rw [kept_someH h0]
        · have : L = [] := List.eq_nil_of_length_eq_zero (by omega)
          subst this; rw [kept_nilH]; rfl
      have hord : ∀ j (hj : j + 1 < x.pairs.length), ltP (x.pairs[j]'(by omega)) x.pairs[j + 1] = true := by
        have hpw : x.pairs.Pairwise (fun a b => ltP a b = true) := by rw [hxi]; exact hL.2.2
        exact fun j hj => List.pairwise_iff_getElem.1 hpw j (j + 1) (by omega) hj (by omega)
      have HOR : Hid (∀ j (hj : j + 1 < x.pairs.length), ltP (x.pairs[j]'(by omega)) x.pairs[j + 1] = true) := hord
      clear hord
      have hmem : ∀ j (hj : j < x.pairs.length), txtAt (bears L) x.pairs[j].1 = x.pairs[j].2 ∧ x.pairs[j].1.size ≤ 9223372036854775807 := by
        intro j hj
        have h1 : x.pairs[j] ∈ L := by rw [← hxi]; exact List.getElem_mem hj
        have h2 := (bears_iff (fst_nodup hL) x.pairs[j].1 x.pairs[j].2).2 h1
        refine ⟨by show (bears L _).getD _ = _; rw [h2]; rfl, ?_⟩
        have := hlet _ h1
        generalize x.pairs[j].1 = t at *
        simp only [letters, List.mem_cons, List.mem_nil_iff, or_false] at this
        rcases this with rfl | rfl | rfl | rfl | rfl | rfl | rfl | rfl | rfl | rfl <;> decide
      have hlen : x.pairs.length = L.length := by rw [hxi]
      have hle20 : x.pairs.length ≤ 20 := by rw [hxi]; exact hL.1
      obtain ⟨pz, iz, sz, he, hls, -⟩ := hrep
      have he' : ps = pz ∧ is = iz ∧ ss = sz := by simpa [valV] using he
      obtain ⟨rfl, rfl, rfl⟩ := he'
      clear he hx k3 hwf hlt hxi hlet hL
      obtain ⟨pa, pc, ia, ic, sa, sc, rfl, rfl, rfl, -⟩ := hls.lens
      have A1 : Hid (Acts (emptyVal 0) ⟨4, ⟨#[107]⟩, ⟨#[102]⟩, ⟨#[]⟩, 0⟩ (hashX [(⟨#[102]⟩, ⟨#[]⟩)]) { n := 1 } 0) := by
        have hf : (⟨4, ⟨#[107]⟩, ⟨#[102]⟩, ⟨#[]⟩, 0⟩ : Cmd).fault = 0 := by decide +kernel
        have ha : answerV (keptV (hashX [])) ⟨4, ⟨#[107]⟩, ⟨#[102]⟩, ⟨#[]⟩, 0⟩ = (hashX [(⟨#[102]⟩, ⟨#[]⟩)], { n := 1 }) := by
          rw [ans_hash (by simp [HashL]) (.inl rfl)]; rfl
        rw [kept_nilH] at ha
        have := acts_code (Well.ref (.inl rfl) hf rfl) ha rfl
        rwa [kept_someH (by simp)] at this
      have HME : Hid (∀ j (hj : j < x.pairs.length), txtAt (bears L) x.pairs[j].1 = x.pairs[j].2 ∧ x.pairs[j].1.size ≤ 9223372036854775807) := hmem
      have HLE : Hid (x.pairs.length = L.length) := hlen
      have HV0 : Hid (wr.heap[w.heap.size]? = some (valO x.kind x.text x.count (.slice pa x.pairs.length pc) (.slice ia x.items.length ic) (.slice sa x.scores.length sc))) := hv
      have HLS : Hid (Lists wr (.slice pa x.pairs.length pc) (.slice ia x.items.length ic) (.slice sa x.scores.length sc) x) := hls
      have HSE : Hid (HashB wr (w.heap.size + 1) m (bears L) L.length) := hset
      have HB0 : Hid (Below w.heap.size w wr) := hb
      clear hmem hlen hv hls hset hb
      rcases hx' with hx1 | ⟨hx1, hx2⟩
      all_goals
        go_wp2_with fail
        generalize wr = W0 at *
        go_loopw [13] (fun c wr => ∃ j : Nat, c = .int .i64 (j : Int) ∧ j ≤ x.pairs.length ∧ Below W0.heap.size W0 wr) (fun c _ => x.pairs.length - (intOf c).toNat)
        case atStart => exact ⟨0, rfl, by omega, Below.refl _ _⟩
        case round =>
          obtain ⟨j, rfl, hj, hb⟩ := hrel
          have nv := (hb.block _ (lt_at HV0.out)).trans HV0.out
          have hset := HSE.out.below hb
          by_cases hlt : j < x.pairs.length
          · have hi0 : (j : Int) < (x.pairs.length : Int) := by omega
            obtain ⟨-, a', c', he, -, -, q3⟩ := (HLS.out.below hb).p
            simp only [Value.slice.injEq, true_and] at he
            obtain ⟨rfl, rfl⟩ := he
            obtain ⟨ib, io, rfl, hib, hcc⟩ : ∃ ib io, pa = some ⟨ib, io, none⟩ ∧ ib < wr.heap.size ∧ ∀ k (hk : k < x.pairs.length) (c : Nat), c < 2 → wr.cell? ⟨ib, io + k * 2 + c, none⟩ = (encP x.pairs[k])[c]? := by
              rcases q3 with ⟨-, h, -⟩ | ⟨ib, io, h1, h2, h3⟩
              · rw [h] at hlt; simp at hlt
              · exact ⟨ib, io, h1, h2, h3⟩
            have hc1 : wr.cell? ⟨ib, io + j * 2, none⟩ = some (.string x.pairs[j].1) := by have := hcc j hlt 0 (by omega); simpa [encP] using this
            have hc2 : wr.cell? ⟨ib, io + j * 2 + 1, none⟩ = some (.string x.pairs[j].2) := by have := hcc j hlt 1 (by omega); simpa [encP] using this
            have hprev : j = 0 ∨ (0 < j ∧ ∃ t, wr.cell? ⟨ib, io + (j - 1) * 2, none⟩ = some (.string t) ∧ ltS t x.pairs[j].1 = true) := by
              by_cases h0 : j = 0
              · exact .inl h0
              · refine .inr ⟨by omega, x.pairs[j - 1].1, by have := hcc (j - 1) (by omega) 0 (by omega); simpa [encP] using this, ?_⟩
                have := HOR.out (j - 1) (by omega)
                simpa [show j - 1 + 1 = j by omega, ltP] using this
            obtain ⟨hm1, hm2⟩ := HME.out j hlt
            have inst := Grown.isThere wr
            obtain ⟨u1, u2⟩ := Grown.cells nv
            obtain ⟨c1, f1⟩ := cellsB nv
            generalize x.pairs[j].1 = t at *
            generalize x.pairs[j].2 = tx at *
            have u3 : ∀ g : Grown wr, g.w.cell? ⟨ib, io + j * 2, none⟩ = some (.string t) := fun g => Grown.cell hib hc1 g
            have u6 : ∀ g : Grown wr, g.w.cell? ⟨ib, io + j * 2 + 1, none⟩ = some (.string tx) := fun g => Grown.cell hib hc2 g
            have u4 : ∀ g : Grown wr, (Instr.lookup 39 (.map (some (w.heap.size + 1))) (.string t) false).run Tryz.prog g.w = .ok (.string tx) g.w := fun g => by
              have := (hset.below g.h).look 39 Tryz.underlying39 t hm2
              rwa [hm1] at this
            have hx5 : IntKind.i64.wrap ((j : Int) - 1) = (j : Int) - 1 := by rw [IntKind.wrap_i64]; omega
            have hmm : 0 < j → (j : Int) - 1 = ((j - 1 : Nat) : Int) := by omega
            clear hcc hc1 hc2 hset q3 hm1 hm2
            rcases hprev with h00 | ⟨h0, t', e3, hbl⟩
            · subst h00
              clear hmm hx5
              simp only [Nat.zero_mul, Nat.add_zero, Int.natCast_zero] at u3 u6 hi0 ⊢
              go_wp2_with fail
              clear c1 f1
              refine wp_region_grown (by kernel_rfl) (by kernel_rfl) ?_
              repeat (first | go_big_quiet_skip | (go_big_quiet_want; go_big_quiet_op; first | go_big_quiet_on | (apply Exists.intro; refine ⟨fun _ => ?_, ?_⟩; (· (fail)); go_big_quiet_on)))
              refine wpQuiet_nil ?_
              rintro _ ⟨⟨w1, hb1⟩, rfl⟩
              go_wp2_with fail
              exact ⟨⟨1, by go_num, by omega, bstep hb hb1⟩, by simp [intOf]; omega⟩
            · have u5 : ∀ g : Grown wr, g.w.cell? ⟨ib, io + (j - 1) * 2, none⟩ = some (.string t') := fun g => Grown.cell hib e3 g
              have hbl' : Op.bytesLess t'.toList t.toList = true := hbl
              have hm1 := hmm h0
              clear hmm e3 hbl
              go_wp2_with fail
              clear c1 f1
              refine wp_region_grown (by kernel_rfl) (by kernel_rfl) ?_
              repeat (first | go_big_quiet_skip | (go_big_quiet_want; go_big_quiet_op; first | go_big_quiet_on | (apply Exists.intro; refine ⟨fun _ => ?_, ?_⟩; (· (fail)); go_big_quiet_on)))
              refine wpQuiet_nil ?_
              rintro _ ⟨⟨w1, hb1⟩, rfl⟩
              go_wp2_with fail
              exact ⟨⟨j + 1, by go_num, by omega, bstep hb hb1⟩, by simp [intOf]; omega⟩
          · have hge : ¬ (j : Int) < (x.pairs.length : Int) := by omega
            have hemp : Lists wr (.slice none 0 0) (.slice none 0 0) (.slice none 0 0) (emptyVal 0) := Lists.empty _ 0
            have hB := bstep HB0.out hb
            obtain ⟨c1, f1⟩ := cellsB nv
            clear hb hlt
            go_wp2_with fail
            refine (A1.out _ _ _ _ hemp).mono ?_
            rintro e w2 ⟨pa2, pc2, ia2, ic2, sa2, sc2, la2, lc2, rfl, -, -, hb2⟩
            clear c1 f1 hemp A1
            replace nv := (hb2.block _ (lt_at nv)).trans nv
            replace hset := hset.below hb2
            replace hB := bstep hB hb2
            have hbx : Below w2.heap.size w2 ((w2.alloc (valO 3 ⟨#[]⟩ 0 (.slice pa2 1 pc2) (.slice ia2 0 ic2) (.slice sa2 0 sc2))).alloc (repO 0 ⟨#[]⟩ 1 (.slice la2 0 lc2))) := (balloc _ _).alloc (by simp) _
            have hln := (hset.below hbx).len 39 Tryz.underlying39 3
            have hle := HLE.out
            have hli : (x.pairs.length : Int) = ((L.length : Nat) : Int) := by omega
            obtain ⟨t0, t1⟩ := cellsB ((hbx.block _ (lt_at nv)).trans nv)
            obtain ⟨c1, f1⟩ := cellsB nv
            have hlv := lt_at nv
            clear hle hbx hset
            simp only [List.length_nil, List.length_singleton]
            rw [HLE.out] at t0 c1
            clear hli
            go_wp2_with fail
            go_ret
            exact ⟨rfl, (hB.alloc hB.size _).alloc (by have := hB.size; simp; omega) _⟩

theorem walk (v0 : Value) (w : World) (h0 : IsRaws w v0) :
    Calls Tryz.prog 4 #[v0] w fun e w' => e = .returned (.bool true) ∧ Below w.heap.size w w' := by
  obtain ⟨l, hl, -⟩ := h0
  exact walk0 v0 l w hl

theorem own : ownKnob Tryz.prog.godebug = none := by kernel_rfl
theorem laidOut : laidOutB Tryz.prog = true := by kernel_rfl

set_option maxRecDepth 100000 in
theorem lifted (os : Os) (started : os.Started) (H : Type) (enc : TypeId × Value → H) :
    ReturnsInHanded {} Tryz.checked os 4 .any (Rows.hashModelSpec.pre6 enc Tryz.prog Tryz.f4 Rows.hashModelRow.domain false) (Rows.hashModelSpec.post enc Tryz.prog Tryz.f4 false true false false) := by
  refine returnsInHanded_of_change_sized (C := Tryz.checked) own started (by kernel_rfl) Tryz.func4
    (ChangeSpec.witness6 (enc := enc) (C := Tryz.checked) false ⟨#[], #[.slice none 0 0], []⟩ 8 (by kernel_rfl) (by kernel_rfl) (by kernel_rfl) (by kernel_rfl)) ?_
  intro W base args ds gs before hval0 hW hcnd hsz _
  have hval : ∀ (j : Nat) t v, Tryz.f4.params[j]? = some t → args[j]? = some v → Value.okWide Tryz.prog W .any base t v := hval0
  have hW' := hW
  obtain ⟨p, q, hA0, hV, rfl, hfz, hnd⟩ := hW
  have hA : DataW.TrodAll enc Tryz.prog W 0 (fun _ => true) true Tryz.f4.params.toList args.toList ds p := hA0
  rw [Tryz.params4] at hA hval
  obtain ⟨v0, vs0, d0, ds0, p0, q0, hargs, rfl, rfl, h0, r0⟩ := trodAll_cons hA
  obtain ⟨rfl, rfl, rfl⟩ := trodAll_nil r0
  obtain rfl : args = #[v0] := by cases args; simp_all
  obtain ⟨rfl, rfl⟩ := trodVars_none hV
  have lt0 : ∀ x ∈ p0, x.block < W.heap.size := by obtain ⟨m, hm⟩ := h0; exact DataW.trod_lt m _ _ _ hm
  have g0 := shape_raws (hval 0 38 v0 rfl rfl) h0 (fun n hn => of_decide_eq_true (List.all_eq_true.1 hsz n (DataW.weights_mem_each (j := 0) rfl rfl n hn)))
  clear hA0 hval0
  refine (walk v0 W g0).mono fun e W' ⟨he, bel⟩ => ?_
  subst he
  exact ⟨_, rfl, _, _, _, [], _, [], hW', trodAll_mk1 (shut_bool Tryz.underlying4 _), (trodAll_cons_mk (Below.trod laidOut (by kernel_rfl) (of_decide_eq_true (by kernel_rfl)) h0 bel lt0) trodAll_mk0), rfl, bel.frame _, fun h => by cases h⟩

theorem over : Rows.hashModelRow.holds Tryz.pinned (OpenSpec.ofChange Rows.hashModelSpec) :=
  OpenClaim.holds_of_wide 4 Tryz.f4 rfl rfl rfl rfl rfl rfl rfl ⟨rfl, rfl, rfl, rfl, rfl⟩ rfl rfl rfl rfl rfl (by kernel_rfl) Tryz.func4 (by kernel_rfl)
    (of_decide_eq_true (by kernel_rfl)) (by unfold Func.isWrapper; first | (rw [if_pos (by decide +kernel)]; kernel_rfl) | (rw [if_neg (by decide +kernel)]; exact ⟨rfl, rfl⟩))
    (fun os started H enc _ => lifted os started H enc)

end Go.Proofs.YtgpdnhammdgndaaGreat.hashModelDone
namespace Go.Proofs.YtgpdnhammdgndaaGreat
theorem HashModel_holds : Rows.HashModelSaid := hashModelDone.over
end Go.Proofs.YtgpdnhammdgndaaGreat
