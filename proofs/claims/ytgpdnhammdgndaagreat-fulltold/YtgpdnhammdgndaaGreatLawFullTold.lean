/- A value has room for so many elements: of all commands that lay one more the first twenty are done and the others are refused, whatever the kind of elements and the number: the law returns true. No condition. -/
import Derived.Test.YtgpdnhammdgndaaGreatMx
namespace Go.Proofs.YtgpdnhammdgndaaGreat.fullToldDone
open Go.ChangeShapes Go.WideShapes Go.ChangeAt Go.RowKit
open Go.Proofs.YtgpdnhammdgndaaGreat
set_option linter.unusedVariables false
set_option maxRecDepth 100000

def nilR : Raw := ⟨0, 0, 0, 0, ⟨#[]⟩⟩
theorem nilR_wf : nilR.wf := by simp [Raw.wf, i64s, nilR]; decide +kernel
theorem made (p : Nat) (hp : p = 2 ∨ p = 3 ∨ p = 4 ∨ p = 5) : ∃ ck ckey cfld ctxt cn, mkCmd p nilR = ⟨ck, ckey, cfld, ctxt, cn⟩ ∧ ∀ i, fcmd p i = ⟨ck, ckey, if ck = 4 then tOf i else cfld, tOf i, cn⟩ := by
  rcases hp with rfl | rfl | rfl | rfl
  · exact ⟨4, ⟨#[97]⟩, ⟨#[97]⟩, _, 0, rfl, fun i => rfl⟩
  · exact ⟨7, ⟨#[97]⟩, ⟨#[]⟩, _, 0, rfl, fun i => rfl⟩
  · exact ⟨11, ⟨#[97]⟩, ⟨#[]⟩, _, 0, rfl, fun i => rfl⟩
  · exact ⟨14, ⟨#[97]⟩, ⟨#[]⟩, _, -6, rfl, fun i => rfl⟩
theorem run_two (b : Nat) (k j : Nat) (hk : k < 256) (hj : j < 256) (W : World) (h0 : W.cell? ⟨b, 0, none⟩ = some (.int .u8 (k : Int))) (h1 : W.cell? ⟨b, 1, none⟩ = some (.int .u8 (j : Int))) :
    (convert 55 9 (.slice (some ⟨b, 0, none⟩) 2 2)).run Tryz.prog W = .ok (.string ⟨#[UInt8.ofNat k, UInt8.ofNat j]⟩) W := by
  have := run_convert_bytes_back (P := Tryz.prog) W 55 9 5 ⟨b, 0, none⟩ 2 [UInt8.ofNat k, UInt8.ofNat j] Tryz.underlying55 Tryz.underlying5 Tryz.underlying9
    (fun i hi => by
      have : i = 0 ∨ i = 1 := by simp at hi; omega
      rcases this with rfl | rfl
      · rw [show (⟨b, 0, none⟩ : Addr).add 0 = ⟨b, 0, none⟩ from by simp [Addr.add], h0]
        simp [Nat.mod_eq_of_lt hk]
      · rw [show (⟨b, 0, none⟩ : Addr).add 1 = ⟨b, 1, none⟩ from by simp [Addr.add], h1]
        simp [Nat.mod_eq_of_lt hj])
  simpa using this

theorem len_none : Acts (emptyVal 0) lenC (emptyVal 0) { code := 5 } 0 := by
  have ha : answerV (emptyVal 0) lenC = (emptyVal 0, { code := 5 }) := by unfold answerV; rw [none_empty, if_pos rfl]; rfl
  exact acts_refused (Well.ref (.inl rfl) lenC_fault rfl) ha (by decide)
/-- A round's end: what is laid under the value's name, behind two new boxes. -/
theorem fin_round {w w2 : World} {x y : Val} {ps is ss ps' is' ss' l' : Value} {c n' : Int} {t' : ByteArray} (nv : w2.heap[w.heap.size]? = some (valO x.kind x.text x.count ps is ss)) (hB : Below w.heap.size w w2)
    (hl : Lists w2 ps' is' ss' y) (hf1 : From (w.heap.size + 1) ps') (hf2 : From (w.heap.size + 1) is') (hf3 : From (w.heap.size + 1) ss') :
    ((((storedV w2 w.heap.size y.kind y.text y.count ps' is' ss').alloc (valO y.kind y.text y.count ps' is' ss')).alloc (repO c t' n' l')).heap[w.heap.size]? = some (valO y.kind y.text y.count ps' is' ss')) ∧
    RepsF (w.heap.size + 1) (((storedV w2 w.heap.size y.kind y.text y.count ps' is' ss').alloc (valO y.kind y.text y.count ps' is' ss')).alloc (repO c t' n' l')) (valV y.kind y.text y.count ps' is' ss') y ∧
    w.heap.size + 1 ≤ (((storedV w2 w.heap.size y.kind y.text y.count ps' is' ss').alloc (valO y.kind y.text y.count ps' is' ss')).alloc (repO c t' n' l')).heap.size ∧
    Below w.heap.size w (((storedV w2 w.heap.size y.kind y.text y.count ps' is' ss').alloc (valO y.kind y.text y.count ps' is' ss')).alloc (repO c t' n' l')) := by
  have hs := storedV_block (kind := y.kind) (text := y.text) (count := y.count) (ps := ps') (is := is') (ss := ss') nv
  have hb := storedV_below (kind := y.kind) (text := y.text) (count := y.count) (ps := ps') (is := is') (ss := ss') hB (Nat.le_refl _)
  have hr := storedV_reps (g := w.heap.size) (kind := y.kind) (text := y.text) (count := y.count) (ps := ps') (is := is') (ss := ss') (B := w.heap.size + 1) ⟨_, _, _, rfl, hl, hf1, hf2, hf3⟩ (Nat.lt_succ_self _)
  have hz := lt_at hs
  generalize storedV w2 w.heap.size y.kind y.text y.count ps' is' ss' = V at *
  have hbx : Below V.heap.size V ((V.alloc (valO y.kind y.text y.count ps' is' ss')).alloc (repO c t' n' l')) := (balloc _ _).alloc (by simp) _
  exact ⟨(hbx.block _ hz).trans hs, hr.same (fun b _ hb => hbx.block b hb) hbx.size, Nat.le_trans hz hbx.size, bstep hb hbx⟩

set_option maxHeartbeats 8000000 in
theorem walk0 (kind n : Int) (w : World) (b2 : -9223372036854775808 ≤ kind ∧ kind ≤ 9223372036854775807) (b3 : -9223372036854775808 ≤ n ∧ n ≤ 9223372036854775807) :
    Calls Tryz.prog 9 #[.int .i64 kind, .int .i64 n] w fun e w' => e = .returned (.bool true) ∧ Below w.heap.size w w' := by
  have p1 := fun W => picked_any kind 4 W b2.1 b2.2 (by omega) (by omega)
  have hq := pickedN_lt kind (show 0 < 4 by omega)
  generalize pickedN kind 4 = q at *
  have p2 := fun W => picked_any n 40 W b3.1 b3.2 (by omega) (by omega)
  have hn := pickedN_lt n (show 0 < 40 by omega)
  generalize pickedN n 40 = many at *
  have hp : 2 + q = 2 ∨ 2 + q = 3 ∨ 2 + q = 4 ∨ 2 + q = 5 := by omega
  have hM := fun W => maker_any (2 + (q : Int)) nilR W (by omega) nilR_wf
  have hpq : pickedN (2 + (q : Int)) 6 = 2 + q := by
    have := picked_self (2 + q) 6 (by omega)
    rw [show ((2 + q : Nat) : Int) = 2 + (q : Int) by omega] at this; exact this
  rw [hpq] at hM
  obtain ⟨ck, ckey, cfld, ctxt, cn, hmk, hfc⟩ := made (2 + q) hp
  rw [hmk] at hM
  have hst := fun m (x : Val) (h1 : m < 39) (h2 : FT (2 + q) m x) => ft_step (2 + q) m h1 h2
  have hz := ft_zero (2 + q) hp
  have HM : Hid (∀ W, Calls Tryz.prog 20 #[.int .i64 (2 + (q : Int)), nilR.v] W fun e w' => e = .returned (cmdV ck ckey cfld ctxt cn) ∧ Below W.heap.size W w') := hM
  have HFC : Hid (∀ i, fcmd (2 + q) i = ⟨ck, ckey, if ck = 4 then tOf i else cfld, tOf i, cn⟩) := hfc
  have HST : Hid (∀ m (x : Val), m < 39 → FT (2 + q) m x → refusalI x (fcmd (2 + q) m) = 0 ∧ (doR x (fcmd (2 + q) m)).code = (if 20 ≤ m then 6 else 0) ∧ FT (2 + q) (m + 1) (doV x (fcmd (2 + q) m))) := hst
  have HZ : Hid (FT (2 + q) 0 (emptyVal 0)) := hz
  have P1 : Hid (∀ W, Calls Tryz.prog 15 #[.int .i64 kind, .int .i64 4] W fun e w' => e = .returned (.int .i64 (q : Nat)) ∧ W = w') := p1
  have P2 : Hid (∀ W, Calls Tryz.prog 15 #[.int .i64 n, .int .i64 40] W fun e w' => e = .returned (.int .i64 (many : Nat)) ∧ W = w') := p2
  clear hM hfc hst hz p1 p2 hp hpq hmk b2 b3
  go_enter Tryz.func9, Tryz.ntmps9
  go_wp2_with fail
  refine (P1.out _).mono ?_
  rintro e w0 ⟨rfl, rfl⟩
  go_wp2_with fail
  refine (P2.out _).mono ?_
  rintro e w0 ⟨rfl, rfl⟩
  clear P1 P2
  have n0 := alloc_at w (valO 0 ⟨#[]⟩ 0 (.slice none 0 0) (.slice none 0 0) (.slice none 0 0))
  have hB0 := balloc w (valO 0 ⟨#[]⟩ 0 (.slice none 0 0) (.slice none 0 0) (.slice none 0 0))
  have hz0 : w.heap.size + 1 ≤ (w.alloc (valO 0 ⟨#[]⟩ 0 (.slice none 0 0) (.slice none 0 0) (.slice none 0 0))).heap.size := by simp
  go_wp2_with fail
  generalize w.alloc (valO 0 ⟨#[]⟩ 0 (.slice none 0 0) (.slice none 0 0) (.slice none 0 0)) = V at n0 hB0 hz0 ⊢
  go_loopw [8] (fun c wr => ∃ (m : Nat) (x : Val) (ps is ss : Value), c = .int .i64 (m : Int) ∧ m ≤ many ∧ FT (2 + q) m x ∧ wr.heap[w.heap.size]? = some (valO x.kind x.text x.count ps is ss) ∧ RepsF (w.heap.size + 1) wr (valV x.kind x.text x.count ps is ss) x ∧ w.heap.size + 1 ≤ wr.heap.size ∧ Below w.heap.size w wr)
    (fun c _ => many - (intOf c).toNat)
  case atStart => exact ⟨0, emptyVal 0, _, _, _, rfl, by omega, HZ.out, n0, ⟨_, _, _, rfl, Lists.empty _ 0, From.nil _, From.nil _, From.nil _⟩, hz0, hB0⟩
  case round =>
    clear n0 hB0 hz0 HZ
    obtain ⟨m, x, ps, is, ss, rfl, hm, hft, hv, hrep, hsz, hb⟩ := hrel
    by_cases hlt : m < many
    · have hi0 : (m : Int) < (many : Int) := by omega
      have h26 : m / 26 ≤ 1 := by omega
      have hcv := run_two wr.heap.size (97 + m % 26) (97 + m / 26) (by omega) (by omega) (wr.alloc (.cells #[.int .u8 (97 + (m : Int) % 26), .int .u8 (97 + (m : Int) / 26)] 5)) (by simp) (by simp)
      have htx : (⟨#[UInt8.ofNat (97 + m % 26), UInt8.ofNat (97 + m / 26)]⟩ : ByteArray) = tOf m := rfl
      rw [htx] at hcv
      clear htx
      obtain ⟨hr0, hcode, hft'⟩ := HST.out m x (by omega) hft
      have hD := do_any x (fcmd (2 + q) m)
      rw [hr0, HFC.out m] at hD
      rw [HFC.out m] at hcode hft'
      clear hr0
      generalize tOf m = T at *
      generalize doV x ⟨ck, ckey, if ck = 4 then T else cfld, T, cn⟩ = y at hD hft'
      generalize doR x ⟨ck, ckey, if ck = 4 then T else cfld, T, cn⟩ = rp at hD hcode
      have HFT : Hid (FT (2 + q) (m + 1) y) := hft'
      have HD : Hid (DoOk x ⟨ck, ckey, if ck = 4 then T else cfld, T, cn⟩ y rp 0) := hD
      have HV : Hid (wr.heap[w.heap.size]? = some (valO x.kind x.text x.count ps is ss)) := hv
      have HR : Hid (RepsF (w.heap.size + 1) wr (valV x.kind x.text x.count ps is ss) x) := hrep
      clear hft hft' hD hv hrep
      go_wp2_with fail
      refine (HM.out _).mono ?_
      rintro e w1 ⟨rfl, hb1⟩
      have hu := bstep (balloc wr (.cells #[.int .u8 (97 + (m : Int) % 26), .int .u8 (97 + (m : Int) / 26)] 5)) hb1
      have hB := hb.trans (hu.mono hb.size)
      have nv := (hu.block _ (lt_at HV.out)).trans HV.out
      have hr1 := HR.out.reps.below hu
      have hz1 := hu.size
      clear hb1 hu hcv HV HR HM HST HFC
      obtain ⟨c0, f0⟩ := cellsB nv
      have hlv := lt_at nv
      have hne : ¬ w.heap.size = w1.heap.size := by omega
      have hne' : ¬ w1.heap.size = w.heap.size := by omega
      obtain ⟨pz, iz, sz, he, hls⟩ := hr1
      have he' : ps = pz ∧ is = iz ∧ ss = sz := by simpa [valV] using he
      obtain ⟨rfl, rfl, rfl⟩ := he'
      clear he
      obtain ⟨pa, pc, ia, ic, sa, sc, rfl, rfl, rfl, -⟩ := hls.lens
      obtain ⟨qc, qt, qn, ql⟩ := rp
      simp only at hcode
      have HCO : Hid (qc = if 20 ≤ m then 6 else 0) := hcode
      clear hcode
      by_cases h4 : ck = 4
      · subst h4
        have HD4 : Hid (DoOk x ⟨4, ckey, T, T, cn⟩ y ⟨qc, qt, qn, ql⟩ 0) := HD.out
        clear HD
        go_wp2_with fail
        clear c0 f0 hlv hne hne'
        have nc := alloc_at w1 (.cells #[.int .i64 4, .string ckey, .string T, .string T, .int .i64 cn] 28)
        have hbx := balloc w1 (.cells #[.int .i64 4, .string ckey, .string T, .string T, .int .i64 cn] 28)
        replace nv := (hbx.block _ (lt_at nv)).trans nv
        replace hls := hls.below hbx
        replace hB := hB.alloc hB.size (.cells #[.int .i64 4, .string ckey, .string T, .string T, .int .i64 cn] 28)
        clear hbx
        generalize w1.alloc (.cells #[.int .i64 4, .string ckey, .string T, .string T, .int .i64 cn] 28) = V2 at nc nv hls hB ⊢
        generalize w1.heap.size = bc at nc ⊢
        refine (HD4.out _ _ ⟨_, _, _, rfl, hls⟩).mono ?_
        rintro e w2 ⟨v', u, rfl, hv', hu', hb2⟩
        have hz2 : w.heap.size + 1 ≤ V2.heap.size := lt_at nv
        replace hv' := hv'.mono hz2
        clear HD4 nc hls
        replace nv := (hb2.block _ (lt_at nv)).trans nv
        replace hB := bstep hB hb2
        clear hb2
        obtain ⟨ps', is', ss', rfl, hl', hf1, hf2, hf3⟩ := hv'
        obtain ⟨pa', pc', ia', ic', sa', sc', rfl, rfl, rfl, -⟩ := hl'.lens
        obtain ⟨la, lc, rfl⟩ := hu'.rep.shapes
        obtain ⟨c0, f0⟩ := cellsB nv
        have hlv := lt_at nv
        have hne : ¬ w.heap.size = w2.heap.size := by omega
        have hne' : ¬ w2.heap.size = w.heap.size := by omega
        have hne2 : ¬ w.heap.size = w2.heap.size + 1 := by omega
        have hne3 : ¬ w2.heap.size + 1 = w.heap.size := by omega
        have hfin := fin_round (c := qc) (t' := qt) (n' := qn) (l' := .slice la ql.length lc) nv hB hl' hf1 hf2 hf3
        obtain ⟨F1, F2, F3, F4⟩ := hfin
        clear nv hl' hB hu'
        by_cases h20 : 20 ≤ m
        · have hqc : qc = 6 := by have := HCO.out; rwa [if_pos h20] at this
          subst hqc
          have h20' : decide ((20 : Int) ≤ (m : Int)) = true := decide_eq_true (by omega)
          clear h20 HCO
          go_wp2_with fail
          exact ⟨⟨m + 1, y, _, _, _, by go_num, by omega, HFT.out, F1, F2, F3, F4⟩, by simp [intOf]; omega⟩
        · have hqc : qc = 0 := by have := HCO.out; rwa [if_neg h20] at this
          subst hqc
          have h20' : decide ((20 : Int) ≤ (m : Int)) = false := decide_eq_false (by omega)
          clear h20 HCO
          go_wp2_with fail
          exact ⟨⟨m + 1, y, _, _, _, by go_num, by omega, HFT.out, F1, F2, F3, F4⟩, by simp [intOf]; omega⟩
      · have h4' : (ck == 4) = false := by simpa using h4
        have HD4 : Hid (DoOk x ⟨ck, ckey, cfld, T, cn⟩ y ⟨qc, qt, qn, ql⟩ 0) := by have := HD.out; rw [if_neg h4] at this; exact this
        clear HD
        go_wp2_with fail
        clear c0 f0 hlv hne hne'
        have nc := alloc_at w1 (.cells #[.int .i64 ck, .string ckey, .string cfld, .string T, .int .i64 cn] 28)
        have hbx := balloc w1 (.cells #[.int .i64 ck, .string ckey, .string cfld, .string T, .int .i64 cn] 28)
        replace nv := (hbx.block _ (lt_at nv)).trans nv
        replace hls := hls.below hbx
        replace hB := hB.alloc hB.size (.cells #[.int .i64 ck, .string ckey, .string cfld, .string T, .int .i64 cn] 28)
        clear hbx
        generalize w1.alloc (.cells #[.int .i64 ck, .string ckey, .string cfld, .string T, .int .i64 cn] 28) = V2 at nc nv hls hB ⊢
        generalize w1.heap.size = bc at nc ⊢
        refine (HD4.out _ _ ⟨_, _, _, rfl, hls⟩).mono ?_
        rintro e w2 ⟨v', u, rfl, hv', hu', hb2⟩
        have hz2 : w.heap.size + 1 ≤ V2.heap.size := lt_at nv
        replace hv' := hv'.mono hz2
        clear HD4 nc hls
        replace nv := (hb2.block _ (lt_at nv)).trans nv
        replace hB := bstep hB hb2
        clear hb2
        obtain ⟨ps', is', ss', rfl, hl', hf1, hf2, hf3⟩ := hv'
        obtain ⟨pa', pc', ia', ic', sa', sc', rfl, rfl, rfl, -⟩ := hl'.lens
        obtain ⟨la, lc, rfl⟩ := hu'.rep.shapes
        obtain ⟨c0, f0⟩ := cellsB nv
        have hlv := lt_at nv
        have hne : ¬ w.heap.size = w2.heap.size := by omega
        have hne' : ¬ w2.heap.size = w.heap.size := by omega
        have hne2 : ¬ w.heap.size = w2.heap.size + 1 := by omega
        have hne3 : ¬ w2.heap.size + 1 = w.heap.size := by omega
        have hfin := fin_round (c := qc) (t' := qt) (n' := qn) (l' := .slice la ql.length lc) nv hB hl' hf1 hf2 hf3
        obtain ⟨F1, F2, F3, F4⟩ := hfin
        clear nv hl' hB hu'
        by_cases h20 : 20 ≤ m
        · have hqc : qc = 6 := by have := HCO.out; rwa [if_pos h20] at this
          subst hqc
          have h20' : decide ((20 : Int) ≤ (m : Int)) = true := decide_eq_true (by omega)
          clear h20 HCO
          go_wp2_with fail
          exact ⟨⟨m + 1, y, _, _, _, by go_num, by omega, HFT.out, F1, F2, F3, F4⟩, by simp [intOf]; omega⟩
        · have hqc : qc = 0 := by have := HCO.out; rwa [if_neg h20] at this
          subst hqc
          have h20' : decide ((20 : Int) ≤ (m : Int)) = false := decide_eq_false (by omega)
          clear h20 HCO
          go_wp2_with fail
          exact ⟨⟨m + 1, y, _, _, _, by go_num, by omega, HFT.out, F1, F2, F3, F4⟩, by simp [intOf]; omega⟩
    · have hge : ¬ (m : Int) < (many : Int) := by omega
      have hmm : m = many := by omega
      subst hmm
      obtain ⟨pz, iz, sz, he, hls, -⟩ := hrep
      have he' : ps = pz ∧ is = iz ∧ ss = sz := by simpa [valV] using he
      obtain ⟨rfl, rfl, rfl⟩ := he'
      obtain ⟨pa, pc, ia, ic, sa, sc, rfl, rfl, rfl, -⟩ := hls.lens
      obtain ⟨c0, f0⟩ := cellsB hv
      have hlv := lt_at hv
      have hB := hb
      clear he hb HM HFC HST
      by_cases h0 : m = 0
      · subst h0
        have hx := hft.none
        subst hx
        have A0 : Hid (Acts (emptyVal 0) lenC (emptyVal 0) { code := 5 } 0) := len_none
        simp only [Int.natCast_zero] at hge ⊢
        go_wp2_with fail
        refine (A0.out _ _ _ _ hls).mono ?_
        rintro e w2 ⟨pa2, pc2, ia2, ic2, sa2, sc2, la2, lc2, rfl, -, -, hb2⟩
        replace hB := bstep hB hb2
        clear c0 f0 hv hls A0 hb2
        go_wp2_with fail
        go_ret
        exact ⟨rfl, (hB.alloc hB.size _).alloc (by have := hB.size; simp; omega) _⟩
      · obtain ⟨hok, h3, hsz'⟩ := hft.some (by omega)
        have A0 : Hid (Acts x lenC x { n := (x.size : Int) } 0) := len_acts hok h3
        have hmn : (x.size : Int) = min (m : Int) 20 := by omega
        have HMN : Hid ((x.size : Int) = min (m : Int) 20) := hmn
        have h0' : ((m : Int) == 0) = false := by rw [beq_eq_false_iff_ne]; omega
        clear hok h3 hsz' hmn
        go_wp2_with fail
        refine (A0.out _ _ _ _ hls).mono ?_
        rintro e w2 ⟨pa2, pc2, ia2, ic2, sa2, sc2, la2, lc2, rfl, -, -, hb2⟩
        replace hB := bstep hB hb2
        clear c0 f0 hv hls A0 hb2
        rw [HMN.out]
        go_wp2_with fail
        go_ret
        exact ⟨rfl, (hB.alloc hB.size _).alloc (by have := hB.size; simp; omega) _⟩

theorem walk (v0 v1 : Value) (w : World) (h0 : IsInt v0) (h1 : IsInt v1) :
    Calls Tryz.prog 9 #[v0, v1] w fun e w' => e = .returned (.bool true) ∧ Below w.heap.size w w' := by
  obtain ⟨x0, rfl, c1, c2⟩ := h0
  obtain ⟨x1, rfl, c3, c4⟩ := h1
  exact walk0 x0 x1 w ⟨c1, c2⟩ ⟨c3, c4⟩

theorem own : ownKnob Tryz.prog.godebug = none := by kernel_rfl
theorem laidOut : laidOutB Tryz.prog = true := by kernel_rfl

set_option maxRecDepth 100000 in
theorem lifted (os : Os) (started : os.Started) (H : Type) (enc : TypeId × Value → H) :
    ReturnsInHanded {} Tryz.checked os 9 .any (Rows.fullToldSpec.pre6 enc Tryz.prog Tryz.f9 Rows.fullToldRow.domain false) (Rows.fullToldSpec.post enc Tryz.prog Tryz.f9 false true false false) := by
  refine returnsInHanded_of_change (C := Tryz.checked) own started (by kernel_rfl) Tryz.func9
    (ChangeSpec.witness6 (enc := enc) (C := Tryz.checked) false ⟨#[], #[.int .i64 0, .int .i64 0], []⟩ 8 (by kernel_rfl) (by kernel_rfl) (by kernel_rfl) (by kernel_rfl)) ?_
  intro W base args ds gs before hval0 hW hcnd _
  have hval : ∀ (j : Nat) t v, Tryz.f9.params[j]? = some t → args[j]? = some v → Value.okWide Tryz.prog W .any base t v := hval0
  have hW' := hW
  obtain ⟨p, q, hA0, hV, rfl, hfz, hnd⟩ := hW
  have hA : DataW.TrodAll enc Tryz.prog W 0 (fun _ => true) true Tryz.f9.params.toList args.toList ds p := hA0
  rw [Tryz.params9] at hA hval
  obtain ⟨v0, vs0, d0, ds0, p0, q0, hargs, rfl, rfl, h0, r0⟩ := trodAll_cons hA
  obtain ⟨v1, vs1, d1, ds1, p1, q1, rfl, rfl, rfl, h1, r1⟩ := trodAll_cons r0
  obtain ⟨rfl, rfl, rfl⟩ := trodAll_nil r1
  obtain rfl : args = #[v0, v1] := by cases args; simp_all
  obtain ⟨rfl, rfl⟩ := trodVars_none hV
  have lt0 : ∀ x ∈ p0, x.block < W.heap.size := by obtain ⟨m, hm⟩ := h0; exact DataW.trod_lt m _ _ _ hm
  have g0 := shape_int (hval 0 3 v0 rfl rfl) h0
  have lt1 : ∀ x ∈ p1, x.block < W.heap.size := by obtain ⟨m, hm⟩ := h1; exact DataW.trod_lt m _ _ _ hm
  have g1 := shape_int (hval 1 3 v1 rfl rfl) h1
  clear hA0 hval0
  refine (walk v0 v1 W g0 g1).mono fun e W' ⟨he, bel⟩ => ?_
  subst he
  exact ⟨_, rfl, _, _, _, [], _, [], hW', trodAll_mk1 (shut_bool Tryz.underlying4 _), (trodAll_cons_mk (Below.trod laidOut (by kernel_rfl) (of_decide_eq_true (by kernel_rfl)) h0 bel lt0) (trodAll_cons_mk (Below.trod laidOut (by kernel_rfl) (of_decide_eq_true (by kernel_rfl)) h1 bel lt1) trodAll_mk0)), rfl, bel.frame _, fun h => by cases h⟩

theorem over : Rows.fullToldRow.holds Tryz.pinned (OpenSpec.ofChange Rows.fullToldSpec) :=
  OpenClaim.holds_of_wide 9 Tryz.f9 rfl rfl rfl rfl rfl rfl rfl ⟨rfl, rfl, rfl, rfl, rfl⟩ rfl rfl rfl rfl rfl (by kernel_rfl) Tryz.func9 (by kernel_rfl)
    (of_decide_eq_true (by kernel_rfl)) (by unfold Func.isWrapper; first | (rw [if_pos (by decide +kernel)]; kernel_rfl) | (rw [if_neg (by decide +kernel)]; exact ⟨rfl, rfl⟩))
    (fun os started H enc _ => lifted os started H enc)

end Go.Proofs.YtgpdnhammdgndaaGreat.fullToldDone
namespace Go.Proofs.YtgpdnhammdgndaaGreat
theorem FullTold_holds : Rows.FullToldSaid := fullToldDone.over
end Go.Proofs.YtgpdnhammdgndaaGreat
