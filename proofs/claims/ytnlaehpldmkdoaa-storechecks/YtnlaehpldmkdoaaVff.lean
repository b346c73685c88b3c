/- A value's fault, as the document tells it: rostrumref.ValueFault. -/
import Derived.Test.YtnlaehpldmkdoaaVf2
import Derived.Test.YtnlaehpldmkdoaaVfo
import Derived.Test.YtnlaehpldmkdoaaGw
namespace Go.Proofs.Ytnlaehpldmkdoaa
open Go.RowKit
set_option linter.unusedVariables false
set_option maxRecDepth 100000

theorem bad_pairs {x : Val} (h : ¬ (x.kind < 1 ∨ 6 < x.kind)) (hp : anyB wrongP x.pairs = true) : x.sizesB = false := by rw [sizes_split h, hp]; simp
theorem bad_items {x : Val} (h : ¬ (x.kind < 1 ∨ 6 < x.kind)) (hp : anyB wrongI x.items = true) : x.sizesB = false := by rw [sizes_split h, hp]; simp
theorem bad_scores {x : Val} (h : ¬ (x.kind < 1 ∨ 6 < x.kind)) (hp : anyB wrongS x.scores = true) : x.sizesB = false := by rw [sizes_split h, hp]; simp
theorem any_at {α : Type} {pr : α → Bool} {l : List α} (i : Nat) (h : i < l.length) (hp : pr l[i] = true) : anyB pr l = true := by
  unfold anyB; rw [List.any_eq_true]; exact ⟨_, List.getElem_mem h, hp⟩
theorem any_none {α : Type} {pr : α → Bool} {l : List α} (h : ∀ i (hi : i < l.length), pr l[i] = false) : anyB pr l = false := by
  unfold anyB; rw [List.any_eq_false]; intro x hx; obtain ⟨i, hi, rfl⟩ := List.getElem_of_mem hx; simp [h i hi]

set_option maxHeartbeats 4000000 in
theorem valueFault_core (x : Val) (pa ia sa : Option Addr) (pc ic sc : Nat) (w : World) (hl : ListsW w (.slice pa x.pairs.length pc) (.slice ia x.items.length ic) (.slice sa x.scores.length sc) x)
    (hk : ¬ (x.kind < 1 ∨ 6 < x.kind)) (hfor : x.foreign = false) :
    Calls Try.prog 16 #[valV x.kind x.text x.count (.slice pa x.pairs.length pc) (.slice ia x.items.length ic) (.slice sa x.scores.length sc)] w fun e w' => e = .returned (.int .i64 x.fault) ∧ Below w.heap.size w w' := by
  have b1 := hl.p.1
  have b2 := hl.i.1
  have b3 := hl.s.1
  have HK : Hid (¬ (x.kind < 1 ∨ 6 < x.kind)) := hk
  have HL : Hid (ListsW w (.slice pa x.pairs.length pc) (.slice ia x.items.length ic) (.slice sa x.scores.length sc) x) := hl
  have hfo := foreign_parts x
  have HF : Hid (x.foreign = false) := hfor
  rw [hfor] at hfo
  obtain ⟨k1, hk1⟩ : ∃ b, (x.kind != 1) = b := ⟨_, rfl⟩
  obtain ⟨k2, hk2⟩ : ∃ b, (x.kind != 2) = b := ⟨_, rfl⟩
  obtain ⟨k3, hk3⟩ : ∃ b, (x.kind != 3) = b := ⟨_, rfl⟩
  obtain ⟨k4, hk4⟩ : ∃ b, (x.kind == 4) = b := ⟨_, rfl⟩
  obtain ⟨k5, hk5⟩ : ∃ b, (x.kind == 5) = b := ⟨_, rfl⟩
  obtain ⟨k6, hk6⟩ : ∃ b, (x.kind != 6) = b := ⟨_, rfl⟩
  obtain ⟨z1, hz1⟩ : ∃ b, x.text.toList.isEmpty = b := ⟨_, rfl⟩
  obtain ⟨z2, hz2⟩ : ∃ b, (x.count != 0) = b := ⟨_, rfl⟩
  obtain ⟨z3, hz3⟩ : ∃ b, decide (0 < x.pairs.length) = b := ⟨_, rfl⟩
  obtain ⟨z4, hz4⟩ : ∃ b, decide (0 < x.items.length) = b := ⟨_, rfl⟩
  obtain ⟨z5, hz5⟩ : ∃ b, decide (0 < x.scores.length) = b := ⟨_, rfl⟩
  rw [hk1, hk2, hk3, hk4, hk5, hk6, hz1, hz2, hz3, hz4, hz5] at hfo
  have h6 : (k1 = false ∧ k2 = true ∧ k3 = true ∧ (k4 || k5) = false ∧ k6 = true) ∨ (k1 = true ∧ k2 = false ∧ k3 = true ∧ (k4 || k5) = false ∧ k6 = true) ∨ (k1 = true ∧ k2 = true ∧ k3 = false ∧ (k4 || k5) = false ∧ k6 = true) ∨
      (k1 = true ∧ k2 = true ∧ k3 = true ∧ (k4 || k5) = true ∧ k6 = true) ∨ (k1 = true ∧ k2 = true ∧ k3 = true ∧ (k4 || k5) = false ∧ k6 = false) := by
    have hkk : x.kind = 1 ∨ x.kind = 2 ∨ x.kind = 3 ∨ x.kind = 4 ∨ x.kind = 5 ∨ x.kind = 6 := by omega
    subst hk1 hk2 hk3 hk4 hk5 hk6
    clear hfo
    rcases hkk with h | h | h | h | h | h <;> simp [h]
  have H6 : Hid _ := h6
  clear h6
  have HFo : Hid (false = ((k1 && !z1) || (k2 && z2) || (k3 && z3) || (!(k4 || k5) && z4) || (k6 && z5))) := hfo
  have HK5 : Hid ((x.kind == 5) = k5) := hk5
  clear hfo
  have e0 : inB x.kind 1 6 = true := by simp [inB]; omega
  have n0 := alloc_at w (valO x.kind x.text x.count (.slice pa x.pairs.length pc) (.slice ia x.items.length ic) (.slice sa x.scores.length sc))
  have hB0 := balloc w (valO x.kind x.text x.count (.slice pa x.pairs.length pc) (.slice ia x.items.length ic) (.slice sa x.scores.length sc))
  have N0 : Hid ((w.alloc (valO x.kind x.text x.count (.slice pa x.pairs.length pc) (.slice ia x.items.length ic) (.slice sa x.scores.length sc))).heap[w.heap.size]? = some (valO x.kind x.text x.count (.slice pa x.pairs.length pc) (.slice ia x.items.length ic) (.slice sa x.scores.length sc))) := n0
  clear hl hk n0 hfor
  go_enter Try.func16, Try.ntmps16
  go_upto_region 3 with (go_at_call 43; refine (in_any _ _ _ _).mono ?_; rintro e w3 ⟨rfl, rfl⟩; rw [e0])
  go_cut [3] (fun t wx => t = .bool (k4 || k5) ∧ wx = w.alloc (valO x.kind x.text x.count (.slice pa x.pairs.length pc) (.slice ia x.items.length ic) (.slice sa x.scores.length sc)))
  case first =>
    as_aux_lemma =>
      go_wp2_with fail
      all_goals go_meet
      all_goals try (case rel => refine ⟨?_, rfl⟩; simp_all; done)
  case rest =>
    obtain ⟨rfl, rfl⟩ := hcut
    clear hk4 hk5
    generalize hTg : (k4 || k5) = T
    rw [hTg] at HFo H6
    clear hTg
    go_upto_region 4 with fail
    go_cut [3, 72] (fun t3 t wx => t3 = .bool T ∧ t = .bool false ∧ wx = w.alloc (valO x.kind x.text x.count (.slice pa x.pairs.length pc) (.slice ia x.items.length ic) (.slice sa x.scores.length sc)))
    case first =>
      as_aux_lemma =>
        have hfo := HFo.out
        obtain ⟨rfl, rfl, rfl, rfl, rfl⟩ | ⟨rfl, rfl, rfl, rfl, rfl⟩ | ⟨rfl, rfl, rfl, rfl, rfl⟩ | ⟨rfl, rfl, rfl, rfl, rfl⟩ | ⟨rfl, rfl, rfl, rfl, rfl⟩ := H6.out
        all_goals clear HFo H6 HL HK N0 hB0 b1 b2 b3 HK5 e0
        · obtain ⟨rfl, rfl, rfl, rfl⟩ : z2 = false ∧ z3 = false ∧ z4 = false ∧ z5 = false := by revert hfo; cases z1 <;> cases z2 <;> cases z3 <;> cases z4 <;> cases z5 <;> simp
          clear hfo
          go_wp2_with fail
          all_goals go_meet
          all_goals try (case rel => exact ⟨rfl, rfl, rfl⟩)
        · obtain ⟨rfl, rfl, rfl, rfl⟩ : z1 = true ∧ z3 = false ∧ z4 = false ∧ z5 = false := by revert hfo; cases z1 <;> cases z2 <;> cases z3 <;> cases z4 <;> cases z5 <;> simp
          clear hfo
          go_wp2_with fail
          all_goals go_meet
          all_goals try (case rel => exact ⟨rfl, rfl, rfl⟩)
        · obtain ⟨rfl, rfl, rfl, rfl⟩ : z1 = true ∧ z2 = false ∧ z4 = false ∧ z5 = false := by revert hfo; cases z1 <;> cases z2 <;> cases z3 <;> cases z4 <;> cases z5 <;> simp
          clear hfo
          go_wp2_with fail
          all_goals go_meet
          all_goals try (case rel => exact ⟨rfl, rfl, rfl⟩)
        · obtain ⟨rfl, rfl, rfl, rfl⟩ : z1 = true ∧ z2 = false ∧ z3 = false ∧ z5 = false := by revert hfo; cases z1 <;> cases z2 <;> cases z3 <;> cases z4 <;> cases z5 <;> simp
          clear hfo
          go_wp2_with fail
          all_goals go_meet
          all_goals try (case rel => exact ⟨rfl, rfl, rfl⟩)
        · obtain ⟨rfl, rfl, rfl, rfl⟩ : z1 = true ∧ z2 = false ∧ z3 = false ∧ z4 = false := by revert hfo; cases z1 <;> cases z2 <;> cases z3 <;> cases z4 <;> cases z5 <;> simp
          clear hfo
          go_wp2_with fail
          all_goals go_meet
          all_goals try (case rel => exact ⟨rfl, rfl, rfl⟩)
    case rest =>
      obtain ⟨rfl, rfl, rfl⟩ := hcut
      clear hk1 hk2 hk3 hk6 hz1 hz2 hz3 hz4 hz5 HFo H6
      ·
        have HSZ : Hid (∀ W, Calls Try.prog 44 #[valV x.kind x.text x.count (.slice pa x.pairs.length pc) (.slice ia x.items.length ic) (.slice sa x.scores.length sc)] W fun e w' => e = .returned (.int .i64 (x.size : Nat)) ∧ Below W.heap.size W w') := fun W => sizeOf_any _ _ _ _ _ _ _ _ _ _ _ _ _ b1 b2 b3
        have HB0 : Hid (Below w.heap.size w (w.alloc (valO x.kind x.text x.count (.slice pa x.pairs.length pc) (.slice ia x.items.length ic) (.slice sa x.scores.length sc)))) := hB0
        clear hB0
        go_upto_region 6 with fail
        go_cut [87] (fun t wx => t = .bool (sizeB x) ∧ wx.heap[w.heap.size]? = some (valO x.kind x.text x.count (.slice pa x.pairs.length pc) (.slice ia x.items.length ic) (.slice sa x.scores.length sc)) ∧ Below w.heap.size w wx)
        case first =>
          as_aux_lemma =>
            have hsz : sizeB x = ((decide (3 ≤ x.kind) && !inB (x.size : Nat) 1 20) || !isTextB x.text) := by unfold sizeB inB; congr 3; rw [Bool.eq_iff_iff]; simp; omega
            have HZ : Hid (sizeB x = ((decide (3 ≤ x.kind) && !inB (x.size : Nat) 1 20) || !isTextB x.text)) := hsz
            clear hsz
            have hi := fun W => in_any (x.size : Nat) 1 20 W
            have ht := fun W => textMay_any x.text W
            generalize inB (x.size : Nat) 1 20 = I at *
            generalize isTextB x.text = T' at *
            have HI : Hid (∀ W, Calls Try.prog 43 #[.int .i64 (x.size : Nat), .int .i64 1, .int .i64 20] W fun e w' => e = .returned (.bool I) ∧ W = w') := hi
            have HTM : Hid (∀ W, Calls Try.prog 45 #[.string x.text] W fun e w' => e = .returned (.bool T') ∧ W = w') := ht
            clear hi ht
            by_cases h3 : 3 ≤ x.kind
            · go_wp2_with fail
              refine (HSZ.out _).mono ?_
              rintro e w1 ⟨rfl, hb1⟩
              have n1 := (hb1.block _ (lt_at N0.out)).trans N0.out
              have hB1 := bstep HB0.out hb1
              have N1 : Hid (w1.heap[w.heap.size]? = some (valO x.kind x.text x.count (.slice pa x.pairs.length pc) (.slice ia x.items.length ic) (.slice sa x.scores.length sc)) ∧ Below w.heap.size w w1) := ⟨n1, hB1⟩
              obtain ⟨q0, f0⟩ := cellsB n1
              clear hb1 n1 hB1
              cases I
              · go_wp2_with (first | (go_at_call 43; refine (HI.out _).mono ?_; rintro e w3 ⟨rfl, rfl⟩) | (go_at_call 45; refine (HTM.out _).mono ?_; rintro e w3 ⟨rfl, rfl⟩))
                all_goals go_meet
                all_goals try (case rel => exact ⟨by rw [HZ.out]; simp [h3], N1.out⟩)
              · go_wp2_with (first | (go_at_call 43; refine (HI.out _).mono ?_; rintro e w3 ⟨rfl, rfl⟩) | (go_at_call 45; refine (HTM.out _).mono ?_; rintro e w3 ⟨rfl, rfl⟩))
                all_goals go_meet
                all_goals try (case rel => exact ⟨by rw [HZ.out]; simp, N1.out⟩)
            · have h3' : decide (3 ≤ x.kind) = false := by simpa using h3
              go_wp2_with (go_at_call 45; refine (HTM.out _).mono ?_; rintro e w3 ⟨rfl, rfl⟩)
              all_goals go_meet
              all_goals try (case rel => exact ⟨by rw [HZ.out, h3']; simp, N0.out, HB0.out⟩)
        case rest =>
          as_aux_lemma =>
            obtain ⟨rfl, n1, hB1⟩ := hcut
            have N1 : Hid (wc.heap[w.heap.size]? = some (valO x.kind x.text x.count (.slice pa x.pairs.length pc) (.slice ia x.items.length ic) (.slice sa x.scores.length sc)) ∧ Below w.heap.size w wc) := ⟨n1, hB1⟩
            have HL0 : Hid (ListsW w (.slice pa x.pairs.length pc) (.slice ia x.items.length ic) (.slice sa x.scores.length sc) x) := HL.out
            have HW : Hid (ListsW wc (.slice pa x.pairs.length pc) (.slice ia x.items.length ic) (.slice sa x.scores.length sc) x) := HL.out.below hB1
            obtain ⟨q0, f0⟩ := cellsB n1
            clear n1 hB1 HB0 N0 HSZ HL
            cases hz : sizeB x
            case true =>
              have HZ : Hid (sizeB x = true) := hz
              clear hz
              go_wp2_with fail
              go_ret
              exact ⟨ret_int (fault_size HK.out HF.out (by rw [sizes_split HK.out, HZ.out]; simp)).symm, N1.out.2⟩
            case false =>
              have HZ : Hid (sizeB x = false) := hz
              clear hz
              go_wp2_with fail
              go_loop [4] (fun c => ∃ k : Nat, k ≤ x.items.length ∧ c = .int .i64 k ∧ ∀ j (hj : j < k) (hl : j < x.items.length), wrongI x.items[j] = false) (fun c => x.items.length - (intOf c).toNat)
              case atStart => exact ⟨0, Nat.zero_le _, rfl, fun j hj => absurd hj (Nat.not_lt_zero _)⟩
              case round =>
                as_aux_lemma =>
                  obtain ⟨k, hk, rfl, hno⟩ := hrel
                  have HN : Hid (∀ j (hj : j < k) (hl : j < x.items.length), wrongI x.items[j] = false) := hno
                  clear hno
                  by_cases hlt : k < x.items.length
                  · as_aux_lemma =>
                      obtain ⟨-, a', cap', hs', k1, k2, k3⟩ := HW.out.i
                      obtain ⟨rfl, -, rfl⟩ := Value.slice.inj hs'
                      rcases k3 with h0 | ⟨b, off, rfl, hbk, hc⟩
                      · rw [h0] at hlt; simp at hlt
                      · have c0 := hc k hlt 0 (by omega)
                        simp only [encI, List.getElem?_cons_zero, Nat.add_zero, Nat.mul_one] at c0
                        clear hc hs'
                        cases hp : isTextB x.items[k]
                        · have HP : Hid (isTextB x.items[k] = false) := hp
                          clear hp
                          go_wp2_with (go_at_call 45; refine (textMay_any _ _).mono ?_; rintro e w3 ⟨rfl, rfl⟩; rw [HP.out])
                          go_ret
                          exact ⟨ret_int (fault_size HK.out HF.out (bad_items HK.out (any_at k hlt (by rw [wrongI, HP.out]; rfl)))).symm, N1.out.2⟩
                        · have HP : Hid (isTextB x.items[k] = true) := hp
                          clear hp
                          go_wp2_with (go_at_call 45; refine (textMay_any _ _).mono ?_; rintro e w3 ⟨rfl, rfl⟩; rw [HP.out])
                          go_round
                          case rel => exact ⟨k + 1, by omega, by go_num, fun j hj hl => by
                            by_cases e : j = k
                            · subst e; rw [wrongI, HP.out]; rfl
                            · exact HN.out j (by omega) hl⟩
                          case measure => simp [intOf]; omega
                  · have HA1 : Hid (anyB wrongI x.items = false) := any_none fun i hi => HN.out i (by omega) hi
                    clear HN
                    go_wp2_with fail
                    clear hk hlt
                    go_loop [5] (fun c => ∃ k : Nat, k ≤ x.pairs.length ∧ c = .int .i64 k ∧ ∀ j (hj : j < k) (hl : j < x.pairs.length), wrongP x.pairs[j] = false) (fun c => x.pairs.length - (intOf c).toNat)
                    case atStart => exact ⟨0, Nat.zero_le _, rfl, fun j hj => absurd hj (Nat.not_lt_zero _)⟩
                    case round =>
                      as_aux_lemma =>
                        obtain ⟨k, hk, rfl, hno⟩ := hrel
                        have HN : Hid (∀ j (hj : j < k) (hl : j < x.pairs.length), wrongP x.pairs[j] = false) := hno
                        clear hno
                        by_cases hlt : k < x.pairs.length
                        · as_aux_lemma =>
                            obtain ⟨-, a', cap', hs', k1, k2, k3⟩ := HW.out.p
                            obtain ⟨rfl, -, rfl⟩ := Value.slice.inj hs'
                            rcases k3 with h0 | ⟨b, off, rfl, hbk, hc⟩
                            · rw [h0] at hlt; simp at hlt
                            · have c0 := hc k hlt 0 (by omega)
                              have c1 := hc k hlt 1 (by omega)
                              simp only [encP, List.getElem?_cons_zero, List.getElem?_cons_succ, Nat.add_zero] at c0 c1
                              clear hc hs'
                              cases hf : isNameB x.pairs[k].1
                              · have HP : Hid (isNameB x.pairs[k].1 = false) := hf
                                clear hf
                                go_wp2_with (go_at_call 46; refine (fieldMay_any _ _).mono ?_; rintro e w3 ⟨rfl, rfl⟩; rw [HP.out])
                                go_ret
                                exact ⟨ret_int (fault_size HK.out HF.out (bad_pairs HK.out (any_at k hlt (by rw [wrongP, HP.out]; rfl)))).symm, N1.out.2⟩
                              · have HQ : Hid (isNameB x.pairs[k].1 = true) := hf
                                clear hf
                                cases hp : isTextB x.pairs[k].2
                                · have HP : Hid (isTextB x.pairs[k].2 = false) := hp
                                  clear hp
                                  go_wp2_with (first | (go_at_call 46; refine (fieldMay_any _ _).mono ?_; rintro e w3 ⟨rfl, rfl⟩; rw [HQ.out]) | (go_at_call 45; refine (textMay_any _ _).mono ?_; rintro e w3 ⟨rfl, rfl⟩; rw [HP.out]))
                                  go_ret
                                  exact ⟨ret_int (fault_size HK.out HF.out (bad_pairs HK.out (any_at k hlt (by rw [wrongP, HP.out, HQ.out]; rfl)))).symm, N1.out.2⟩
                                · have HP : Hid (isTextB x.pairs[k].2 = true) := hp
                                  clear hp
                                  go_wp2_with (first | (go_at_call 46; refine (fieldMay_any _ _).mono ?_; rintro e w3 ⟨rfl, rfl⟩; rw [HQ.out]) | (go_at_call 45; refine (textMay_any _ _).mono ?_; rintro e w3 ⟨rfl, rfl⟩; rw [HP.out]))
                                  go_round
                                  case rel => exact ⟨k + 1, by omega, by go_num, fun j hj hl => by
                                    by_cases e : j = k
                                    · subst e; rw [wrongP, HP.out, HQ.out]; rfl
                                    · exact HN.out j (by omega) hl⟩
                                  case measure => simp [intOf]; omega
                        · have HA2 : Hid (anyB wrongP x.pairs = false) := any_none fun i hi => HN.out i (by omega) hi
                          clear HN
                          go_wp2_with fail
                          clear hk hlt
                          go_loop [6] (fun c => ∃ k : Nat, k ≤ x.scores.length ∧ c = .int .i64 k ∧ ∀ j (hj : j < k) (hl : j < x.scores.length), wrongS x.scores[j] = false) (fun c => x.scores.length - (intOf c).toNat)
                          case atStart => exact ⟨0, Nat.zero_le _, rfl, fun j hj => absurd hj (Nat.not_lt_zero _)⟩
                          case round =>
                            as_aux_lemma =>
                              obtain ⟨k, hk, rfl, hno⟩ := hrel
                              have HN : Hid (∀ j (hj : j < k) (hl : j < x.scores.length), wrongS x.scores[j] = false) := hno
                              clear hno
                              by_cases hlt : k < x.scores.length
                              · as_aux_lemma =>
                                  obtain ⟨-, a', cap', hs', k1, k2, k3⟩ := HW.out.s
                                  obtain ⟨rfl, -, rfl⟩ := Value.slice.inj hs'
                                  rcases k3 with h0 | ⟨b, off, rfl, hbk, hc⟩
                                  · rw [h0] at hlt; simp at hlt
                                  · have c0 := hc k hlt 0 (by omega)
                                    simp only [encS, List.getElem?_cons_zero, Nat.add_zero] at c0
                                    clear hc hs'
                                    cases hp : isTextB x.scores[k].1
                                    · have HP : Hid (isTextB x.scores[k].1 = false) := hp
                                      clear hp
                                      go_wp2_with (go_at_call 45; refine (textMay_any _ _).mono ?_; rintro e w3 ⟨rfl, rfl⟩; rw [HP.out])
                                      go_ret
                                      exact ⟨ret_int (fault_size HK.out HF.out (bad_scores HK.out (any_at k hlt (by rw [wrongS, HP.out]; rfl)))).symm, N1.out.2⟩
                                    · have HP : Hid (isTextB x.scores[k].1 = true) := hp
                                      clear hp
                                      go_wp2_with (go_at_call 45; refine (textMay_any _ _).mono ?_; rintro e w3 ⟨rfl, rfl⟩; rw [HP.out])
                                      go_round
                                      case rel => exact ⟨k + 1, by omega, by go_num, fun j hj hl => by
                                        by_cases e : j = k
                                        · subst e; rw [wrongS, HP.out]; rfl
                                        · exact HN.out j (by omega) hl⟩
                                      case measure => simp [intOf]; omega
                              · have HS : Hid (x.sizesB = true) := by
                                  have h := any_none fun i hi => HN.out i (by omega) hi
                                  show x.sizesB = true
                                  rw [sizes_split HK.out, HZ.out, HA1.out, HA2.out, h]; rfl
                                clear HN HA1 HA2 HZ
                                cases hn : isCountB x.count
                                · have HC : Hid (isCountB x.count = false) := hn
                                  clear hn
                                  go_wp2_with (go_at_call 47; refine (countMay_any _ _).mono ?_; rintro e w3 ⟨rfl, rfl⟩; rw [HC.out])
                                  go_ret
                                  exact ⟨ret_int (fault_range HK.out HF.out HS.out (by rw [Val.numbersB, HC.out]; rfl)).symm, N1.out.2⟩
                                · have HC : Hid (isCountB x.count = true) := hn
                                  clear hn
                                  go_wp2_with (go_at_call 47; refine (countMay_any _ _).mono ?_; rintro e w3 ⟨rfl, rfl⟩; rw [HC.out])
                                  clear hk hlt
                                  go_loop [7] (fun c => ∃ k : Nat, k ≤ x.scores.length ∧ c = .int .i64 k ∧ ∀ j (hj : j < k) (hl : j < x.scores.length), wrongN x.scores[j] = false) (fun c => x.scores.length - (intOf c).toNat)
                                  case atStart => exact ⟨0, Nat.zero_le _, rfl, fun j hj => absurd hj (Nat.not_lt_zero _)⟩
                                  case round =>
                                    as_aux_lemma =>
                                      obtain ⟨k, hk, rfl, hno⟩ := hrel
                                      have HN : Hid (∀ j (hj : j < k) (hl : j < x.scores.length), wrongN x.scores[j] = false) := hno
                                      clear hno
                                      by_cases hlt : k < x.scores.length
                                      · as_aux_lemma =>
                                          obtain ⟨-, a', cap', hs', k1, k2, k3⟩ := HW.out.s
                                          obtain ⟨rfl, -, rfl⟩ := Value.slice.inj hs'
                                          rcases k3 with h0 | ⟨b, off, rfl, hbk, hc⟩
                                          · rw [h0] at hlt; simp at hlt
                                          · have c1 := hc k hlt 1 (by omega)
                                            simp only [encS, List.getElem?_cons_zero, List.getElem?_cons_succ] at c1
                                            clear hc hs'
                                            cases hp : isCountB x.scores[k].2
                                            · have HP : Hid (isCountB x.scores[k].2 = false) := hp
                                              clear hp
                                              go_wp2_with (go_at_call 47; refine (countMay_any _ _).mono ?_; rintro e w3 ⟨rfl, rfl⟩; rw [HP.out])
                                              go_ret
                                              exact ⟨ret_int (fault_range HK.out HF.out HS.out (by rw [Val.numbersB, any_at k hlt (by rw [wrongN, HP.out]; rfl)]; simp)).symm, N1.out.2⟩
                                            · have HP : Hid (isCountB x.scores[k].2 = true) := hp
                                              clear hp
                                              go_wp2_with (go_at_call 47; refine (countMay_any _ _).mono ?_; rintro e w3 ⟨rfl, rfl⟩; rw [HP.out])
                                              go_round
                                              case rel => exact ⟨k + 1, by omega, by go_num, fun j hj hl => by
                                                by_cases e : j = k
                                                · subst e; rw [wrongN, HP.out]; rfl
                                                · exact HN.out j (by omega) hl⟩
                                              case measure => simp [intOf]; omega
                                      · have HNB : Hid (x.numbersB = true) := by
                                          have h := any_none fun i hi => HN.out i (by omega) hi
                                          show x.numbersB = true
                                          rw [Val.numbersB, HC.out, h]; rfl
                                        clear HN HC
                                        go_wp2_with fail
                                        clear hk hlt
                                        go_loopw [8] (fun c wr => ∃ m : Nat, c = .int .i64 ((m : Int) + 1) ∧ m ≤ x.pairs.length ∧ wr.heap[w.heap.size]? = some (valO x.kind x.text x.count (.slice pa x.pairs.length pc) (.slice ia x.items.length ic) (.slice sa x.scores.length sc)) ∧ Below w.heap.size w wr ∧ ∀ j (hj : j < m) (hl : j + 1 < x.pairs.length), ltP (x.pairs[j]'(by omega)) x.pairs[j + 1] = true) (fun c _ => x.pairs.length + 1 - (intOf c).toNat)
                                        case atStart => exact ⟨0, by simp, by omega, N1.out.1, N1.out.2, fun j hj => absurd hj (by omega)⟩
                                        case round =>
                                          as_aux_lemma =>
                                            clear N1 HW
                                            obtain ⟨m, rfl, hkl, n1, hB1, hyes⟩ := hrel
                                            have HY : Hid (∀ j (hj : j < m) (hl : j + 1 < x.pairs.length), ltP (x.pairs[j]'(by omega)) x.pairs[j + 1] = true) := hyes
                                            have N1 : Hid (wr.heap[w.heap.size]? = some (valO x.kind x.text x.count (.slice pa x.pairs.length pc) (.slice ia x.items.length ic) (.slice sa x.scores.length sc)) ∧ Below w.heap.size w wr) := ⟨n1, hB1⟩
                                            obtain ⟨q0, f0⟩ := cellsB n1
                                            clear hyes n1 hB1
                                            by_cases hlt : m + 1 < x.pairs.length
                                            · as_aux_lemma =>
                                                obtain ⟨-, a', cap', hs', k1, k2, k3⟩ := HL0.out.p
                                                obtain ⟨rfl, -, rfl⟩ := Value.slice.inj hs'
                                                rcases k3 with h0 | ⟨b, off, rfl, hbk, hc⟩
                                                · rw [h0] at hlt; simp at hlt
                                                · have c0 := (N1.out.2.cell (p := ⟨b, off + m * 2 + 0, none⟩) hbk).trans (hc m (by omega) 0 (by omega))
                                                  have d0 := (N1.out.2.cell (p := ⟨b, off + (m + 1) * 2 + 0, none⟩) hbk).trans (hc (m + 1) hlt 0 (by omega))
                                                  simp only [encP, List.getElem?_cons_zero, Nat.add_zero] at c0 d0
                                                  clear hc hs'
                                                  have hi1 : (m : Int) + 1 < (x.pairs.length : Int) := by omega
                                                  have hi0 : (m : Int) < (x.pairs.length : Int) := by omega
                                                  have hw0 : IntKind.i64.wrap (m : Int) = (m : Int) := by rw [IntKind.wrap_i64]; omega
                                                  have hw1 : IntKind.i64.wrap ((m : Int) + 1) = (m : Int) + 1 := by rw [IntKind.wrap_i64]; omega
                                                  have hbr : b < wr.heap.size := bsize N1.out.2 hbk
                                                  have inst := Grown.isThere wr
                                                  obtain ⟨r0, r1⟩ := Grown.cells N1.out.1
                                                  have g0 := fun g => Grown.cell hbr c0 g
                                                  have g1 := fun g => Grown.cell hbr d0 g
                                                  clear c0 d0
                                                  cases hq : ltP x.pairs[m] x.pairs[m + 1]
                                                  · have hq1 : Op.bytesLess x.pairs[m].1.toList x.pairs[m + 1].1.toList = false := hq
                                                    have HQ : Hid (ltP x.pairs[m] x.pairs[m + 1] = false) := hq
                                                    clear hq
                                                    go_wp2_with fail
                                                    refine wp_region_grown (by kernel_rfl) (by kernel_rfl) ?_
                                                    repeat (first | go_big_quiet_skip | (go_big_quiet_want; go_big_quiet_op; first | go_big_quiet_on | (apply Exists.intro; refine ⟨fun _ => ?_, ?_⟩; (· (fail)); go_big_quiet_on)))
                                                    refine wpQuiet_nil ?_
                                                    rintro _ ⟨⟨w1, hb1⟩, rfl⟩
                                                    go_wp2_with fail
                                                    go_ret
                                                    exact ⟨ret_int (fault_order HK.out HF.out HS.out HNB.out (order_pairs HF.out (risesB_not ltP x.pairs m hlt HQ.out))).symm, bstep N1.out.2 hb1⟩
                                                  · have hq1 : Op.bytesLess x.pairs[m].1.toList x.pairs[m + 1].1.toList = true := hq
                                                    have HQ : Hid (ltP x.pairs[m] x.pairs[m + 1] = true) := hq
                                                    clear hq
                                                    go_wp2_with fail
                                                    refine wp_region_grown (by kernel_rfl) (by kernel_rfl) ?_
                                                    repeat (first | go_big_quiet_skip | (go_big_quiet_want; go_big_quiet_op; first | go_big_quiet_on | (apply Exists.intro; refine ⟨fun _ => ?_, ?_⟩; (· (fail)); go_big_quiet_on)))
                                                    refine wpQuiet_nil ?_
                                                    rintro _ ⟨⟨w1, hb1⟩, rfl⟩
                                                    go_wp2_with fail
                                                    exact ⟨⟨m + 1, by go_num, by omega, (hb1.block _ (lt_at N1.out.1)).trans N1.out.1, bstep N1.out.2 hb1, fun j hj hl => by
                                                      by_cases e : j = m
                                                      · subst e; exact HQ.out
                                                      · exact HY.out j (by omega) hl⟩, by simp [intOf]; omega⟩
                                            · have hge : ¬ (m : Int) + 1 < (x.pairs.length : Int) := by omega
                                              have HO1 : Hid (risesB ltP x.pairs = true) := (risesB_iff ltP x.pairs).2 fun i hi => HY.out i (by omega) hi
                                              clear HY
                                              go_wp2_with fail
                                              clear hkl hlt hge q0 f0
                                              go_loopw [9] (fun c wr => ∃ m : Nat, c = .int .i64 ((m : Int) + 1) ∧ m ≤ x.items.length ∧ wr.heap[w.heap.size]? = some (valO x.kind x.text x.count (.slice pa x.pairs.length pc) (.slice ia x.items.length ic) (.slice sa x.scores.length sc)) ∧ Below w.heap.size w wr ∧ ∀ j (hj : j < m) (hl : j + 1 < x.items.length), ltS (x.items[j]'(by omega)) x.items[j + 1] = true) (fun c _ => x.items.length + 1 - (intOf c).toNat)
                                              case atStart => exact ⟨0, by simp, by omega, N1.out.1, N1.out.2, fun j hj => absurd hj (by omega)⟩
                                              case round =>
                                                as_aux_lemma =>
                                                  clear N1
                                                  obtain ⟨m, rfl, hkl, n1, hB1, hyes⟩ := hrel
                                                  have HY : Hid (∀ j (hj : j < m) (hl : j + 1 < x.items.length), ltS (x.items[j]'(by omega)) x.items[j + 1] = true) := hyes
                                                  have N1 : Hid (wr.heap[w.heap.size]? = some (valO x.kind x.text x.count (.slice pa x.pairs.length pc) (.slice ia x.items.length ic) (.slice sa x.scores.length sc)) ∧ Below w.heap.size w wr) := ⟨n1, hB1⟩
                                                  obtain ⟨q0, f0⟩ := cellsB n1
                                                  clear hyes n1 hB1
                                                  by_cases hin : m + 1 < x.items.length ∧ x.kind = 5
                                                  · obtain ⟨hlt, h5⟩ := hin
                                                    have H5 : Hid (x.kind = 5) := h5
                                                    have h5' : (x.kind == 5) = true := by simpa using h5
                                                    clear h5
                                                    obtain ⟨-, a', cap', hs', k1, k2, k3⟩ := HL0.out.i
                                                    obtain ⟨rfl, -, rfl⟩ := Value.slice.inj hs'
                                                    rcases k3 with h0 | ⟨b, off, rfl, hbk, hc⟩
                                                    · rw [h0] at hlt; simp at hlt
                                                    · have c0 := (N1.out.2.cell (p := ⟨b, off + m * 1 + 0, none⟩) hbk).trans (hc m (by omega) 0 (by omega))
                                                      have d0 := (N1.out.2.cell (p := ⟨b, off + (m + 1) * 1 + 0, none⟩) hbk).trans (hc (m + 1) hlt 0 (by omega))
                                                      simp only [encI, List.getElem?_cons_zero, Nat.add_zero, Nat.mul_one] at c0 d0
                                                      clear hc hs'
                                                      have hi1 : (m : Int) + 1 < (x.items.length : Int) := by omega
                                                      have hi0 : (m : Int) < (x.items.length : Int) := by omega
                                                      have hw0 : IntKind.i64.wrap (m : Int) = (m : Int) := by rw [IntKind.wrap_i64]; omega
                                                      have hw1 : IntKind.i64.wrap ((m : Int) + 1) = (m : Int) + 1 := by rw [IntKind.wrap_i64]; omega
                                                      have hbr : b < wr.heap.size := bsize N1.out.2 hbk
                                                      have inst := Grown.isThere wr
                                                      obtain ⟨r0, r1⟩ := Grown.cells N1.out.1
                                                      have g0 := fun g => Grown.cell hbr c0 g
                                                      have g1 := fun g => Grown.cell hbr d0 g
                                                      clear c0 d0
                                                      cases hq : ltS x.items[m] x.items[m + 1]
                                                      · have hq1 : Op.bytesLess x.items[m].toList x.items[m + 1].toList = false := hq
                                                        have HQ : Hid (ltS x.items[m] x.items[m + 1] = false) := hq
                                                        clear hq
                                                        go_wp2_with fail
                                                        refine wp_region_grown (by kernel_rfl) (by kernel_rfl) ?_
                                                        repeat (first | go_big_quiet_skip | (go_big_quiet_want; go_big_quiet_op; first | go_big_quiet_on | (apply Exists.intro; refine ⟨fun _ => ?_, ?_⟩; (· (fail)); go_big_quiet_on)))
                                                        refine wpQuiet_nil ?_
                                                        rintro _ ⟨⟨w1, hb1⟩, rfl⟩
                                                        go_wp2_with fail
                                                        go_ret
                                                        exact ⟨ret_int (fault_order HK.out HF.out HS.out HNB.out (order_items H5.out (risesB_not ltS x.items m hlt HQ.out))).symm, bstep N1.out.2 hb1⟩
                                                      · have hq1 : Op.bytesLess x.items[m].toList x.items[m + 1].toList = true := hq
                                                        have HQ : Hid (ltS x.items[m] x.items[m + 1] = true) := hq
                                                        clear hq
                                                        go_wp2_with fail
                                                        refine wp_region_grown (by kernel_rfl) (by kernel_rfl) ?_
                                                        repeat (first | go_big_quiet_skip | (go_big_quiet_want; go_big_quiet_op; first | go_big_quiet_on | (apply Exists.intro; refine ⟨fun _ => ?_, ?_⟩; (· (fail)); go_big_quiet_on)))
                                                        refine wpQuiet_nil ?_
                                                        rintro _ ⟨⟨w1, hb1⟩, rfl⟩
                                                        go_wp2_with fail
                                                        exact ⟨⟨m + 1, by go_num, by omega, (hb1.block _ (lt_at N1.out.1)).trans N1.out.1, bstep N1.out.2 hb1, fun j hj hl => by
                                                          by_cases e : j = m
                                                          · subst e; exact HQ.out
                                                          · exact HY.out j (by omega) hl⟩, by simp [intOf]; omega⟩
                                                  · have HO2 : Hid (x.kind = 5 → risesB ltS x.items = true) := fun h5 => (risesB_iff ltS x.items).2 fun i hi => HY.out i (by
                                                      by_cases h : m + 1 < x.items.length
                                                      · exact absurd ⟨h, h5⟩ hin
                                                      · omega) hi
                                                    clear HY
                                                    have hcase : (¬ (m : Int) + 1 < (x.items.length : Int)) ∨ ((m : Int) + 1 < (x.items.length : Int) ∧ (x.kind == 5) = false) := by
                                                      by_cases h : m + 1 < x.items.length
                                                      · exact .inr ⟨by omega, by have : x.kind ≠ 5 := fun h5 => hin ⟨h, h5⟩; simpa using this⟩
                                                      · exact .inl (by omega)
                                                    clear hin
                                                    rcases hcase with hge | ⟨hlt, hk5⟩
                                                    all_goals
                                                      go_wp2_with fail
                                                      clear hkl q0 f0
                                                      go_loopw [10] (fun c wr => ∃ m : Nat, c = .int .i64 ((m : Int) + 1) ∧ m ≤ x.scores.length ∧ wr.heap[w.heap.size]? = some (valO x.kind x.text x.count (.slice pa x.pairs.length pc) (.slice ia x.items.length ic) (.slice sa x.scores.length sc)) ∧ Below w.heap.size w wr ∧ ∀ j (hj : j < m), scoreOk x.scores j) (fun c _ => x.scores.length + 1 - (intOf c).toNat)
                                                      case atStart => exact ⟨0, by simp, by omega, N1.out.1, N1.out.2, fun j hj => absurd hj (by omega)⟩
                                                      case round =>
                                                        as_aux_lemma =>
                                                          clear N1
                                                          obtain ⟨m, rfl, hkl, n1, hB1, hyes⟩ := hrel
                                                          have HY : Hid (∀ j (hj : j < m), scoreOk x.scores j) := hyes
                                                          have N1 : Hid (wr.heap[w.heap.size]? = some (valO x.kind x.text x.count (.slice pa x.pairs.length pc) (.slice ia x.items.length ic) (.slice sa x.scores.length sc)) ∧ Below w.heap.size w wr) := ⟨n1, hB1⟩
                                                          obtain ⟨q0, f0⟩ := cellsB n1
                                                          clear hyes n1 hB1
                                                          by_cases hlt : m + 1 < x.scores.length
                                                          · as_aux_lemma =>
                                                              have hrow := HL0.out.s.below N1.out.2
                                                              obtain ⟨-, a', cap', hs', k1, k2, k3⟩ := HL0.out.s
                                                              obtain ⟨rfl, -, rfl⟩ := Value.slice.inj hs'
                                                              rcases k3 with h0 | ⟨b, off, rfl, hbk, hc⟩
                                                              · rw [h0] at hlt; simp at hlt
                                                              · have c0 := (N1.out.2.cell (p := ⟨b, off + m * 2 + 0, none⟩) hbk).trans (hc m (by omega) 0 (by omega))
                                                                have c1 := (N1.out.2.cell (p := ⟨b, off + m * 2 + 1, none⟩) hbk).trans (hc m (by omega) 1 (by omega))
                                                                have d0 := (N1.out.2.cell (p := ⟨b, off + (m + 1) * 2 + 0, none⟩) hbk).trans (hc (m + 1) hlt 0 (by omega))
                                                                have d1 := (N1.out.2.cell (p := ⟨b, off + (m + 1) * 2 + 1, none⟩) hbk).trans (hc (m + 1) hlt 1 (by omega))
                                                                simp only [encS, List.getElem?_cons_zero, List.getElem?_cons_succ, Nat.add_zero] at c0 c1 d0 d1
                                                                have HM : Hid (∀ W, Below wr.heap.size wr W → Calls Try.prog 49 #[.slice (some ⟨b, off, none⟩) (m + 1) sc, .string x.scores[m + 1].1] W fun e w' => e = .returned (.int .i64 (idxI (fun p => p.1.toList == x.scores[m + 1].1.toList) (x.scores.take (m + 1)))) ∧ Below W.heap.size W w') := fun W hW =>
                                                                  (memberAt_any _ _ _ W ((hrow.below hW).take (m + 1) (by omega))).mono fun e w' h => ⟨h.1, h.2 ▸ Below.refl _ _⟩
                                                                have HSA : Hid (∀ W, Calls Try.prog 48 #[.agg #[.string x.scores[m].1, .int .i64 x.scores[m].2], .agg #[.string x.scores[m + 1].1, .int .i64 x.scores[m + 1].2]] W fun e w' => e = .returned (.bool (ltSc x.scores[m] x.scores[m + 1])) ∧ Below W.heap.size W w') := fun W => scoreAhead_any x.scores[m] x.scores[m + 1] W
                                                                have HJ : Hid (decide (0 ≤ idxI (fun p : ByteArray × Int => p.1.toList == x.scores[m + 1].1.toList) (x.scores.take (m + 1))) = anyB (fun p => p.1.toList == x.scores[m + 1].1.toList) (x.scores.take (m + 1))) := idxI_any _ _
                                                                clear hc hs' hrow
                                                                have hi1 : (m : Int) + 1 < (x.scores.length : Int) := by omega
                                                                have hi0 : (m : Int) < (x.scores.length : Int) := by omega
                                                                have hw0 : IntKind.i64.wrap (m : Int) = (m : Int) := by rw [IntKind.wrap_i64]; omega
                                                                have hw1 : IntKind.i64.wrap ((m : Int) + 1) = (m : Int) + 1 := by rw [IntKind.wrap_i64]; omega
                                                                have hs1 : (0 : Int) ≤ (m : Int) + 1 := by omega
                                                                have hs2 : (m : Int) + 1 ≤ (sc : Int) := by omega
                                                                have hs3 : ((m : Int) + 1).toNat = m + 1 := by omega
                                                                have hs4 : m + 1 ≤ sc := by omega
                                                                have hbr : b < wr.heap.size := bsize N1.out.2 hbk
                                                                have inst := Grown.isThere wr
                                                                obtain ⟨r0, r1⟩ := Grown.cells N1.out.1
                                                                have g0 := fun g => Grown.cell hbr c0 g
                                                                have g1 := fun g => Grown.cell hbr c1 g
                                                                have g2 := fun g => Grown.cell hbr d0 g
                                                                have g3 := fun g => Grown.cell hbr d1 g
                                                                clear c0 c1 d0 d1
                                                                have HD : Hid (∀ (hA : ltSc x.scores[m] x.scores[m + 1] = true) (hJ : anyB (fun p => p.1.toList == x.scores[m + 1].1.toList) (x.scores.take (m + 1)) = false), scoreOk x.scores m) := fun hA hJ hi => ⟨hA, member_no hlt hJ⟩
                                                                have HE1 : Hid (ltSc x.scores[m] x.scores[m + 1] = false → ¬ scoreOk x.scores m) := fun hA hs => by have := (hs hlt).1; rw [hA] at this; cases this
                                                                have HE2 : Hid (anyB (fun p => p.1.toList == x.scores[m + 1].1.toList) (x.scores.take (m + 1)) = true → ¬ scoreOk x.scores m) := fun hJ hs => by
                                                                  obtain ⟨j, hj, e⟩ := member_yes hlt hJ
                                                                  exact (hs hlt).2 j hj e
                                                                generalize idxI (fun p : ByteArray × Int => p.1.toList == x.scores[m + 1].1.toList) (x.scores.take (m + 1)) = J at *
                                                                generalize anyB (fun p : ByteArray × Int => p.1.toList == x.scores[m + 1].1.toList) (x.scores.take (m + 1)) = M at *
                                                                generalize ltSc x.scores[m] x.scores[m + 1] = L at *
                                                                generalize x.scores[m] = y0 at *
                                                                generalize x.scores[m + 1] = y1 at *
                                                                cases L
                                                                · go_wp2_with fail
                                                                  refine wp_region_grown (by kernel_rfl) (by kernel_rfl) ?_
                                                                  repeat (first | go_big_quiet_skip | (go_big_quiet_want; go_big_quiet_op; first | go_big_quiet_on | (apply Exists.intro; refine ⟨fun _ => ?_, ?_⟩; (· (first | (go_at_call 48; exact Calls.grown _ (fun W _ => HSA.out W)) | (go_at_call 49; exact Calls.grown _ HM.out))); go_big_quiet_on)))
                                                                  refine wpQuiet_nil ?_
                                                                  rintro _ ⟨⟨w1, hb1⟩, rfl⟩
                                                                  go_wp2_with fail
                                                                  go_ret
                                                                  exact ⟨ret_int (fault_order HK.out HF.out HS.out HNB.out (order_scores HF.out m (HE1.out (by trivial)))).symm, bstep N1.out.2 hb1⟩
                                                                · cases M
                                                                  · have hj : decide (0 ≤ J) = false := HJ.out
                                                                    go_wp2_with fail
                                                                    refine wp_region_grown (by kernel_rfl) (by kernel_rfl) ?_
                                                                    repeat (first | go_big_quiet_skip | (go_big_quiet_want; go_big_quiet_op; first | go_big_quiet_on | (apply Exists.intro; refine ⟨fun _ => ?_, ?_⟩; (· (first | (go_at_call 48; exact Calls.grown _ (fun W _ => HSA.out W)) | (go_at_call 49; exact Calls.grown _ HM.out))); go_big_quiet_on)))
                                                                    refine wpQuiet_nil ?_
                                                                    rintro _ ⟨⟨w1, hb1⟩, rfl⟩
                                                                    go_wp2_with fail
                                                                    exact ⟨⟨m + 1, by go_num, by omega, (hb1.block _ (lt_at N1.out.1)).trans N1.out.1, bstep N1.out.2 hb1, fun j hj => by
                                                                      by_cases e : j = m
                                                                      · subst e; exact HD.out (by trivial) (by trivial)
                                                                      · exact HY.out j (by omega)⟩, by simp [intOf]; omega⟩
                                                                  · have hj : decide (0 ≤ J) = true := HJ.out
                                                                    go_wp2_with fail
                                                                    refine wp_region_grown (by kernel_rfl) (by kernel_rfl) ?_
                                                                    repeat (first | go_big_quiet_skip | (go_big_quiet_want; go_big_quiet_op; first | go_big_quiet_on | (apply Exists.intro; refine ⟨fun _ => ?_, ?_⟩; (· (first | (go_at_call 48; exact Calls.grown _ (fun W _ => HSA.out W)) | (go_at_call 49; exact Calls.grown _ HM.out))); go_big_quiet_on)))
                                                                    refine wpQuiet_nil ?_
                                                                    rintro _ ⟨⟨w1, hb1⟩, rfl⟩
                                                                    go_wp2_with fail
                                                                    go_ret
                                                                    exact ⟨ret_int (fault_order HK.out HF.out HS.out HNB.out (order_scores HF.out m (HE2.out (by trivial)))).symm, bstep N1.out.2 hb1⟩
                                                          · have hge : ¬ (m : Int) + 1 < (x.scores.length : Int) := by omega
                                                            go_wp2_with fail
                                                            go_ret
                                                            exact ⟨ret_int (fault_none HK.out HF.out HS.out HNB.out (order_all HF.out HO1.out HO2.out fun i hi => HY.out i (by omega) hi)).symm, N1.out.2⟩

set_option maxHeartbeats 1000000 in
theorem valueFault_any (v : Value) (x : Val) (w : World) (h : RepsW w v x) :
    Calls Try.prog 16 #[v] w fun e w' => e = .returned (.int .i64 x.fault) ∧ Below w.heap.size w w' := by
  obtain ⟨ps, is, ss, rfl, hl⟩ := h
  obtain ⟨pa, pc, rfl, -, -⟩ := hl.p.shape
  obtain ⟨ia, ic, rfl, -, -⟩ := hl.i.shape
  obtain ⟨sa, sc, rfl, -, -⟩ := hl.s.shape
  by_cases hk : x.kind < 1 ∨ 6 < x.kind
  · have e0 : inB x.kind 1 6 = false := by simp [inB]; omega
    have HE : Hid (x.fault = 3) := fault_kind hk
    clear hl hk
    go_enter Try.func16, Try.ntmps16
    go_wp2_with (go_at_call 43; refine (in_any _ _ _ _).mono ?_; rintro e w3 ⟨rfl, rfl⟩; rw [e0])
    go_ret
    exact ⟨ret_int HE.out.symm, balloc _ _⟩
  · cases hf : x.foreign
    · exact valueFault_core x pa ia sa pc ic sc w hl hk hf
    · exact valueFault_form x pa ia sa pc ic sc w hl.p.1 hl.i.1 hl.s.1 hk hf
end Go.Proofs.Ytnlaehpldmkdoaa
