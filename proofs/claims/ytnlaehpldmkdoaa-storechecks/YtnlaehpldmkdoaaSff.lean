/- A store's fault, as the document tells it: rostrumref.StoreFault. -/
import Derived.Test.YtnlaehpldmkdoaaSt
import Derived.Test.YtnlaehpldmkdoaaVff
namespace Go.Proofs.Ytnlaehpldmkdoaa
open Go.RowKit
set_option linter.unusedVariables false
set_option maxRecDepth 100000

/-- The document's test of an entry at a place. -/
def okE (now : Int) (L : List Kv) (j : Nat) : Prop := ∀ h : j < L.length, wrongK now L[j] = false ∧ ∀ h0 : 0 < j, ltK (L[j - 1]'(by omega)) L[j] = true
theorem okE_all {now : Int} {L : List Kv} (h : ∀ j, okE now L j) : anyB (wrongK now) L = false ∧ risesB ltK L = true :=
  ⟨any_none fun i hi => (h i hi).1, (risesB_iff ltK L).2 fun i hi => by simpa using (h (i + 1) hi).2 (by omega)⟩
theorem okE_bad {now : Int} {L : List Kv} {j : Nat} (h : ¬ okE now L j) : anyB (wrongK now) L = true ∨ risesB ltK L = false := by
  cases h1 : anyB (wrongK now) L with
  | true => exact .inl rfl
  | false =>
    refine .inr ?_
    rw [Bool.eq_false_iff]
    intro h2
    apply h
    intro hj
    refine ⟨?_, fun h0 => ?_⟩
    · unfold anyB at h1; rw [List.any_eq_false] at h1; simpa using h1 _ (List.getElem_mem hj)
    · have := (risesB_iff ltK L).1 h2 (j - 1) (by omega)
      simpa [show j - 1 + 1 = j by omega] using this
theorem sto_bad {now : Int} {L : List Kv} {j : Nat} (h : ¬ okE now L j) : Sto.fault ⟨now, L⟩ = 13 := by
  rw [Sto.fault, if_pos]
  rcases okE_bad h with h | h <;> simp [Sto.badB, h]
theorem sto_good {now : Int} {L : List Kv} (ht : isTimeB now = true) (hl : L.length ≤ 12) (h : ∀ j, okE now L j) : Sto.fault ⟨now, L⟩ = 0 := by
  obtain ⟨h1, h2⟩ := okE_all h
  have h3 : ¬ 12 < L.length := by omega
  rw [Sto.fault, if_neg]
  simp [Sto.badB, ht, h1, h2, h3]

set_option maxHeartbeats 16000000 in
theorem storeFault_core (now : Int) (ea : Option Addr) (ec : Nat) (E : List Ent) (w : World) (hrow : RowW 8 encE w (.slice ea E.length ec) E) (hls : ∀ e ∈ E, ListsW w e.ps e.is e.ss e.kv.x)
    (ht : isTimeB now = true) (hl12 : E.length ≤ 12) :
    Calls Try.prog 19 #[stoV now (.slice ea E.length ec)] w fun e w' => e = .returned (.int .i64 (Sto.fault ⟨now, E.map (·.kv)⟩)) ∧ Below w.heap.size w w' := by
  have e0 : inB now 0 1073741824 = true := by unfold isTimeB at ht; unfold inB; exact ht
  have hnow : 0 ≤ now := by unfold isTimeB at ht; simp at ht; exact ht.1
  have HT : Hid (isTimeB now = true) := ht
  have HR : Hid (RowW 8 encE w (.slice ea E.length ec) E) := hrow
  have HLS : Hid (∀ e ∈ E, ListsW w e.ps e.is e.ss e.kv.x) := hls
  have h12 : ¬ (12 : Int) < (E.length : Int) := by omega
  have n0 := alloc_at w (stoO now (.slice ea E.length ec))
  have hB0 := balloc w (stoO now (.slice ea E.length ec))
  have N0 : Hid ((w.alloc (stoO now (.slice ea E.length ec))).heap[w.heap.size]? = some (stoO now (.slice ea E.length ec)) ∧ Below w.heap.size w (w.alloc (stoO now (.slice ea E.length ec)))) := ⟨n0, hB0⟩
  obtain ⟨G, hG⟩ : ∃ G, G = Sto.fault ⟨now, E.map (·.kv)⟩ := ⟨_, rfl⟩
  rw [← hG]
  have HG : Hid (G = Sto.fault ⟨now, E.map (·.kv)⟩) := hG
  clear ht hrow hls n0 hB0 hG
  go_enter Try.func19, Try.ntmps19
  go_wp2_with (go_at_call 43; refine (in_any _ _ _ _).mono ?_; rintro e w3 ⟨rfl, rfl⟩; rw [e0])
  clear h12
  go_loopw [3] (fun c wr => ∃ m : Nat, c = .int .i64 (m : Int) ∧ m ≤ E.length ∧ wr.heap[w.heap.size]? = some (stoO now (.slice ea E.length ec)) ∧ Below w.heap.size w wr ∧ ∀ j (hj : j < m), okE now (E.map (·.kv)) j) (fun c _ => E.length - (intOf c).toNat)
  case atStart => exact ⟨0, by simp, by omega, N0.out.1, N0.out.2, fun j hj => absurd hj (by omega)⟩
  case round =>
    clear N0
    obtain ⟨m, rfl, hml, n0, hB0, hyes⟩ := hrel
    have HY : Hid (∀ j (hj : j < m), okE now (E.map (·.kv)) j) := hyes
    obtain ⟨q0, f0⟩ := cellsB n0
    have N0 : Hid (wr.heap[w.heap.size]? = some (stoO now (.slice ea E.length ec)) ∧ Below w.heap.size w wr) := ⟨n0, hB0⟩
    clear hyes n0 hB0
    by_cases hlt : m < E.length
    · have hi0 : (m : Int) < (E.length : Int) := by omega
      obtain ⟨-, a', cap', hs', k1, k2, k3⟩ := HR.out
      obtain ⟨rfl, -, rfl⟩ := Value.slice.inj hs'
      rcases k3 with h0 | ⟨b, off, rfl, hbk, hc⟩
      · rw [h0] at hlt; simp at hlt
      · have hcw : ∀ i (h : i < E.length) (c : Nat), c < 8 → wr.cell? ⟨b, off + i * 8 + c, none⟩ = (encE E[i])[c]? := fun i hi c hk => (N0.out.2.cell (p := ⟨b, off + i * 8 + c, none⟩) hbk).trans (hc i hi c hk)
        obtain ⟨c0, c1, c2, c3, c4, c5, c6, c7⟩ := eightE hcw m hlt
        have hprev : ∀ h0 : 0 < m, wr.cell? ⟨b, off + (m - 1) * 8, none⟩ = some (.string (E[m - 1]'(by omega)).kv.key) := fun h0 => (eightE hcw (m - 1) (by omega)).1
        have hokm : okE now (E.map (·.kv)) m ↔ (wrongK now E[m].kv = false ∧ ∀ h0 : 0 < m, ltK (E[m - 1]'(by omega)).kv E[m].kv = true) := by
          constructor
          · intro h; have h' := h (by simpa using hlt); simp only [List.getElem_map] at h'; exact h'
          · intro h hi; simp only [List.getElem_map]; exact h
        have HOK : Hid (okE now (E.map (·.kv)) m ↔ (wrongK now E[m].kv = false ∧ ∀ h0 : 0 < m, ltK (E[m - 1]'(by omega)).kv E[m].kv = true)) := hokm
        have hlm := HLS.out E[m] (List.getElem_mem hlt)
        have hbr : b < wr.heap.size := bsize N0.out.2 hbk
        clear hcw hc hs' hokm
        have hel : ∃ y, y = E[m] := ⟨_, rfl⟩
        obtain ⟨⟨⟨key, ⟨kind, text, count, pairs, items, scores⟩, til⟩, pa, pc, ia, ic, sa, sc⟩, hel⟩ := hel
        rw [← hel] at c0 c1 c2 c3 c4 c5 c6 c7 hlm HOK
        simp only [Ent.ps, Ent.is, Ent.ss] at c0 c1 c2 c3 c4 c5 c6 c7 hlm
        clear hel
        have hvf := fun W (hW : Below w.heap.size w W) => valueFault_any _ ⟨kind, text, count, pairs, items, scores⟩ W ⟨_, _, _, rfl, hlm.below hW⟩
        simp only at hvf
        have hwk : wrongK now ⟨key, ⟨kind, text, count, pairs, items, scores⟩, til⟩ = !(isNameB key && decide (Val.fault ⟨kind, text, count, pairs, items, scores⟩ = 0) && (decide (til = 0) || (decide (now < til) && decide (til ≤ 1073741824)))) := rfl
        rw [hwk] at HOK
        clear hwk hlm
        have hfm := fun W => fieldMay_any key W
        generalize Val.fault ⟨kind, text, count, pairs, items, scores⟩ = F at *
        generalize isNameB key = K at *
        have HF : Hid (∀ W, Below w.heap.size w W → Calls Try.prog 16 #[valV kind text count (.slice pa pairs.length pc) (.slice ia items.length ic) (.slice sa scores.length sc)] W fun e w' => e = .returned (.int .i64 F) ∧ Below W.heap.size W w') := hvf
        have HFM : Hid (∀ W, Calls Try.prog 46 #[.string key] W fun e w' => e = .returned (.bool K) ∧ W = w') := hfm
        clear hvf hfm
        generalize pairs.length = lp at *
        generalize items.length = li at *
        generalize scores.length = lsc at *
        go_upto_region 7 with fail
        have n1 := alloc_at wr (entO key kind text count (.slice pa lp pc) (.slice ia li ic) (.slice sa lsc sc) til)
        have n0 := ((balloc wr (entO key kind text count (.slice pa lp pc) (.slice ia li ic) (.slice sa lsc sc) til)).block w.heap.size (lt_at N0.out.1)).trans N0.out.1
        have hB1 := bstep N0.out.2 (balloc wr (entO key kind text count (.slice pa lp pc) (.slice ia li ic) (.slice sa lsc sc) til))
        have hprev' : ∀ h0 : 0 < m, (wr.alloc (entO key kind text count (.slice pa lp pc) (.slice ia li ic) (.slice sa lsc sc) til)).cell? ⟨b, off + (m - 1) * 8, none⟩ = some (.string (E[m - 1]'(by omega)).kv.key) := fun h0 => ((balloc wr _).cell (p := ⟨b, off + (m - 1) * 8, none⟩) hbr).trans (hprev h0)
        have hbr' : b < (wr.alloc (entO key kind text count (.slice pa lp pc) (.slice ia li ic) (.slice sa lsc sc) til)).heap.size := by simp; omega
        clear hprev hbr c0 c1 c2 c3 c4 c5 c6 c7 q0 f0 N0
        generalize wr.alloc (entO key kind text count (.slice pa lp pc) (.slice ia li ic) (.slice sa lsc sc) til) = V at n1 n0 hB1 hprev' hbr' ⊢
        generalize wr.heap.size = b1 at n1 ⊢
        have HPV : Hid (∀ h0 : 0 < m, V.cell? ⟨b, off + (m - 1) * 8, none⟩ = some (.string (E[m - 1]'(by omega)).kv.key)) := hprev'
        clear hprev'
        have inst := Grown.isThere V
        obtain ⟨r0, r1⟩ := Grown.cells n0
        obtain ⟨r2, r3⟩ := Grown.cells n1
        have HB : Hid (∀ W, Below V.heap.size V W → Below w.heap.size w W) := fun W h => bstep hB1 h
        have HN : Hid (∀ W, Below V.heap.size V W → W.heap[w.heap.size]? = some (stoO now (.slice (some ⟨b, off, none⟩) E.length ec)) ∧ W.heap[b1]? = some (entO key kind text count (.slice pa lp pc) (.slice ia li ic) (.slice sa lsc sc) til)) := fun W h => ⟨(h.block _ (lt_at n0)).trans n0, (h.block _ (lt_at n1)).trans n1⟩
        have HFG : Hid (∀ W, Below V.heap.size V W → Calls Try.prog 16 #[valV kind text count (.slice pa lp pc) (.slice ia li ic) (.slice sa lsc sc)] W fun e w' => e = .returned (.int .i64 F) ∧ Below W.heap.size W w') := fun W h => HF.out W (HB.out W h)
        clear n0 n1 hB1 HF
        cases K
        case false =>
          refine wp_region_grown (by kernel_rfl) (by kernel_rfl) ?_
          repeat (first | go_big_quiet_skip | (go_big_quiet_want; go_big_quiet_op; first | go_big_quiet_on | (apply Exists.intro; refine ⟨fun _ => ?_, ?_⟩; (· (first | (go_at_call 46; exact Calls.grown_same _ (fun W => HFM.out W)) | (go_at_call 16; exact Calls.grown _ HFG.out))); go_big_quiet_on)))
          refine wpQuiet_nil ?_
          rintro _ ⟨⟨w1, hb1⟩, rfl⟩
          go_wp2_with fail
          go_ret
          exact ⟨ret_int (by rw [HG.out, sto_bad (j := m) (by rw [HOK.out]; simp)]), HB.out _ hb1⟩
        case true =>
          by_cases hF : F = 0
          · subst hF
            by_cases hm0 : m = 0
            · subst hm0
              have HP : Hid (∀ h0 : 0 < 0, ltK (E[0 - 1]'(by omega)).kv ⟨key, ⟨kind, text, count, pairs, items, scores⟩, til⟩ = true) := fun h0 => absurd h0 (by omega)
              refine wp_region_grown (by kernel_rfl) (by kernel_rfl) ?_
              repeat (first | go_big_quiet_skip | (go_big_quiet_want; go_big_quiet_op; first | go_big_quiet_on | (apply Exists.intro; refine ⟨fun _ => ?_, ?_⟩; (· (first | (go_at_call 46; exact Calls.grown_same _ (fun W => HFM.out W)) | (go_at_call 16; exact Calls.grown _ HFG.out))); go_big_quiet_on)))
              refine wpQuiet_nil ?_
              rintro _ ⟨⟨w1, hb1⟩, rfl⟩
              have N2 : Hid _ := HN.out _ hb1
              obtain ⟨q0, f0⟩ := cellsB N2.out.1
              obtain ⟨q1, f1⟩ := cellsB N2.out.2
              clear r0 r1 r2 r3 inst
              by_cases ht0 : til = 0
              · have HT0 : Hid (til = 0) := ht0
                subst ht0
                go_wp2_with fail
                exact ⟨⟨0 + 1, by go_num, by omega, N2.out.1, HB.out _ hb1, fun j hj => by
                  by_cases e : j = 0
                  · subst e; exact HOK.out.2 ⟨by simp, HP.out⟩
                  · exact HY.out j (by omega)⟩, by simp [intOf]; omega⟩
              · have ht0' : (til != 0) = true := by simpa using ht0
                have HT0 : Hid (decide (til = 0) = false) := by show decide (til = 0) = false; simpa using ht0
                clear ht0
                cases hin : inB til 0 1073741824
                · have HIN : Hid (inB til 0 1073741824 = false) := hin
                  clear hin
                  go_wp2_with (go_at_call 43; refine (in_any _ _ _ _).mono ?_; rintro e w3 ⟨rfl, rfl⟩; rw [HIN.out])
                  go_ret
                  exact ⟨ret_int (by rw [HG.out, sto_bad (j := 0) (by
                    rw [HOK.out, HT0.out]
                    have := HIN.out
                    simp [inB] at this
                    simp
                    omega)]), HB.out _ hb1⟩
                · have HIN : Hid (inB til 0 1073741824 = true) := hin
                  clear hin
                  by_cases hle : til ≤ now
                  · have HLE : Hid (til ≤ now) := hle
                    go_wp2_with (go_at_call 43; refine (in_any _ _ _ _).mono ?_; rintro e w3 ⟨rfl, rfl⟩; rw [HIN.out])
                    go_ret
                    exact ⟨ret_int (by rw [HG.out, sto_bad (j := 0) (by
                      rw [HOK.out, HT0.out]
                      have := HLE.out
                      simp
                      omega)]), HB.out _ hb1⟩
                  · have HLE : Hid (¬ til ≤ now) := hle
                    go_wp2_with (go_at_call 43; refine (in_any _ _ _ _).mono ?_; rintro e w3 ⟨rfl, rfl⟩; rw [HIN.out])
                    exact ⟨⟨0 + 1, by go_num, by omega, N2.out.1, HB.out _ hb1, fun j hj => by
                      by_cases e : j = 0
                      · subst e
                        refine HOK.out.2 ⟨?_, HP.out⟩
                        have h1 := HIN.out
                        have h2 := HLE.out
                        simp [inB] at h1
                        rw [HT0.out]
                        simp
                        omega
                      · exact HY.out j (by omega)⟩, by simp [intOf]; omega⟩
            · have hm1 : 0 < m := by omega
              have g0 := fun g => Grown.cell hbr' (HPV.out hm1) g
              have hw0 : IntKind.i64.wrap ((m : Int) - 1) = ((m - 1 : Nat) : Int) := by rw [IntKind.wrap_i64]; omega
              have hw1 : (m : Int) - 1 = ((m - 1 : Nat) : Int) := by omega
              have hi9 : ((m - 1 : Nat) : Int) < (E.length : Int) := by omega
              have hi8 : (0 : Int) < (m : Int) := by omega
              cases hq : ltK (E[m - 1]'(by omega)).kv ⟨key, ⟨kind, text, count, pairs, items, scores⟩, til⟩
              · have hq1 : Op.bytesLess (E[m - 1]'(by omega)).kv.key.toList key.toList = false := hq
                have HP : Hid (ltK (E[m - 1]'(by omega)).kv ⟨key, ⟨kind, text, count, pairs, items, scores⟩, til⟩ = false) := hq
                clear hq hm0
                refine wp_region_grown (by kernel_rfl) (by kernel_rfl) ?_
                repeat (first | go_big_quiet_skip | (go_big_quiet_want; go_big_quiet_op; first | go_big_quiet_on | (apply Exists.intro; refine ⟨fun _ => ?_, ?_⟩; (· (first | (go_at_call 46; exact Calls.grown_same _ (fun W => HFM.out W)) | (go_at_call 16; exact Calls.grown _ HFG.out))); go_big_quiet_on)))
                refine wpQuiet_nil ?_
                rintro _ ⟨⟨w1, hb1⟩, rfl⟩
                go_wp2_with fail
                go_ret
                exact ⟨ret_int (by rw [HG.out, sto_bad (j := m) (by
                  rw [HOK.out]
                  rintro ⟨-, h⟩
                  have := h hm1
                  rw [HP.out] at this
                  cases this)]), HB.out _ hb1⟩
              · have hq1 : Op.bytesLess (E[m - 1]'(by omega)).kv.key.toList key.toList = true := hq
                have HP : Hid (∀ h0 : 0 < m, ltK (E[m - 1]'(by omega)).kv ⟨key, ⟨kind, text, count, pairs, items, scores⟩, til⟩ = true) := fun _ => hq
                clear hq hm0
                refine wp_region_grown (by kernel_rfl) (by kernel_rfl) ?_
                repeat (first | go_big_quiet_skip | (go_big_quiet_want; go_big_quiet_op; first | go_big_quiet_on | (apply Exists.intro; refine ⟨fun _ => ?_, ?_⟩; (· (first | (go_at_call 46; exact Calls.grown_same _ (fun W => HFM.out W)) | (go_at_call 16; exact Calls.grown _ HFG.out))); go_big_quiet_on)))
                refine wpQuiet_nil ?_
                rintro _ ⟨⟨w1, hb1⟩, rfl⟩
                clear g0 hq1
                have N2 : Hid _ := HN.out _ hb1
                obtain ⟨q0, f0⟩ := cellsB N2.out.1
                obtain ⟨q1, f1⟩ := cellsB N2.out.2
                clear r0 r1 r2 r3 inst
                by_cases ht0 : til = 0
                · have HT0 : Hid (til = 0) := ht0
                  subst ht0
                  go_wp2_with fail
                  exact ⟨⟨m + 1, by go_num, by omega, N2.out.1, HB.out _ hb1, fun j hj => by
                    by_cases e : j = m
                    · subst e; exact HOK.out.2 ⟨by simp, HP.out⟩
                    · exact HY.out j (by omega)⟩, by simp [intOf]; omega⟩
                · have ht0' : (til != 0) = true := by simpa using ht0
                  have HT0 : Hid (decide (til = 0) = false) := by show decide (til = 0) = false; simpa using ht0
                  clear ht0
                  cases hin : inB til 0 1073741824
                  · have HIN : Hid (inB til 0 1073741824 = false) := hin
                    clear hin
                    go_wp2_with (go_at_call 43; refine (in_any _ _ _ _).mono ?_; rintro e w3 ⟨rfl, rfl⟩; rw [HIN.out])
                    go_ret
                    exact ⟨ret_int (by rw [HG.out, sto_bad (j := m) (by
                      rw [HOK.out, HT0.out]
                      have := HIN.out
                      simp [inB] at this
                      simp
                      omega)]), HB.out _ hb1⟩
                  · have HIN : Hid (inB til 0 1073741824 = true) := hin
                    clear hin
                    by_cases hle : til ≤ now
                    · have HLE : Hid (til ≤ now) := hle
                      go_wp2_with (go_at_call 43; refine (in_any _ _ _ _).mono ?_; rintro e w3 ⟨rfl, rfl⟩; rw [HIN.out])
                      go_ret
                      exact ⟨ret_int (by rw [HG.out, sto_bad (j := m) (by
                        rw [HOK.out, HT0.out]
                        have := HLE.out
                        simp
                        omega)]), HB.out _ hb1⟩
                    · have HLE : Hid (¬ til ≤ now) := hle
                      go_wp2_with (go_at_call 43; refine (in_any _ _ _ _).mono ?_; rintro e w3 ⟨rfl, rfl⟩; rw [HIN.out])
                      exact ⟨⟨m + 1, by go_num, by omega, N2.out.1, HB.out _ hb1, fun j hj => by
                        by_cases e : j = m
                        · subst e
                          refine HOK.out.2 ⟨?_, HP.out⟩
                          have h1 := HIN.out
                          have h2 := HLE.out
                          simp [inB] at h1
                          rw [HT0.out]
                          simp
                          omega
                        · exact HY.out j (by omega)⟩, by simp [intOf]; omega⟩
          · have hF' : (F != 0) = true := by simpa using hF
            have HF0 : Hid (¬ F = 0) := hF
            clear hF
            refine wp_region_grown (by kernel_rfl) (by kernel_rfl) ?_
            repeat (first | go_big_quiet_skip | (go_big_quiet_want; go_big_quiet_op; first | go_big_quiet_on | (apply Exists.intro; refine ⟨fun _ => ?_, ?_⟩; (· (first | (go_at_call 46; exact Calls.grown_same _ (fun W => HFM.out W)) | (go_at_call 16; exact Calls.grown _ HFG.out))); go_big_quiet_on)))
            refine wpQuiet_nil ?_
            rintro _ ⟨⟨w1, hb1⟩, rfl⟩
            go_wp2_with fail
            go_ret
            exact ⟨ret_int (by rw [HG.out, sto_bad (j := m) (by rw [HOK.out]; simp [HF0.out])]), HB.out _ hb1⟩
    · have hge : ¬ (m : Int) < (E.length : Int) := by omega
      go_wp2_with fail
      go_ret
      exact ⟨ret_int (by rw [HG.out]; exact (sto_good HT.out (by simpa using hl12) fun j => by
        by_cases hj : j < m
        · exact HY.out j hj
        · intro h; simp at h; omega).symm), N0.out.2⟩
end Go.Proofs.Ytnlaehpldmkdoaa
