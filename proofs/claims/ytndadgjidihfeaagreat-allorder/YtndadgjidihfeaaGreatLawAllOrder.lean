/- Fields and sets are told rising, lists as they stand, members by their numbers: for every kind of elements and all raw numbers the law returns true. No condition. -/
import Derived.Test.YtndadgjidihfeaaGreatFw
import Derived.Deep.QuietTactic
import Derived.BigQuiet
namespace Go.Proofs.YtndadgjidihfeaaGreat.allOrderDone
open Go.ChangeShapes Go.WideShapes Go.ChangeAt Go.RowKit
open Go.Proofs.YtndadgjidihfeaaGreat
set_option linter.unusedVariables false
set_option maxRecDepth 100000

theorem rowI_cell {w : World} {a : Option Addr} {n c : Nat} {l : List ByteArray} (h : RowAt 1 encI w (.slice a n c) l) (m : Nat) (hm : m < l.length) :
    n = l.length ∧ ∃ b off, a = some ⟨b, off, none⟩ ∧ b < w.heap.size ∧ ∀ k (hk : k < l.length), w.cell? ⟨b, off + k, none⟩ = some (.string l[k]) := by
  obtain ⟨-, a', c', hs, h1, h2, h3⟩ := h
  simp only [Value.slice.injEq] at hs
  obtain ⟨rfl, rfl, rfl⟩ := hs
  rcases h3 with ⟨-, rfl, -⟩ | ⟨b, off, rfl, hb, hc⟩
  · simp at hm
  · exact ⟨rfl, b, off, rfl, hb, fun k hk => by have := hc k hk 0 (by omega); simpa [encI] using this⟩
theorem row2_cell {α : Type} {enc : ByteArray × α → List Value} (he : ∀ p : ByteArray × α, (enc p)[0]? = some (.string p.1)) {w : World} {a : Option Addr} {n c : Nat} {l : List (ByteArray × α)} (h : RowAt 2 enc w (.slice a n c) l) (m : Nat) (hm : m < l.length) :
    ∃ b off, a = some ⟨b, off, none⟩ ∧ b < w.heap.size ∧ w.cell? ⟨b, off + m * 2, none⟩ = some (.string l[m].1) := by
  obtain ⟨-, a', c', hs, h1, h2, h3⟩ := h
  simp only [Value.slice.injEq] at hs
  obtain ⟨rfl, rfl, rfl⟩ := hs
  rcases h3 with ⟨-, rfl, -⟩ | ⟨b, off, rfl, hb, hc⟩
  · simp at hm
  · exact ⟨b, off, rfl, hb, by have := hc m hm 0 (by omega); rw [he] at this; exact this⟩

theorem rise_names {x : Val} (hok : OkVal x) (hk : x.kind = 3 ∨ x.kind = 5) (m : Nat) (hm : m + 1 < x.names.length) : ltS (x.names[m]'(by omega)) x.names[m + 1] = true := by
  have hp : x.names.Pairwise (fun a b => ltS a b = true) := by
    rcases hk with hk | hk
    · obtain ⟨h1, h2, h3⟩ := hok.hash hk
      simp only [Val.names, h1, h2, List.map_nil, List.append_nil, List.nil_append]
      exact List.pairwise_map.2 h3
    · obtain ⟨h1, h2, h3⟩ := hok.set hk
      simp only [Val.names, h1, h2, List.map_nil, List.append_nil]
      exact h3
  exact List.pairwise_iff_getElem.1 hp m (m + 1) (by omega) hm (by omega)

set_option maxHeartbeats 8000000 in
theorem walk0 (kind : Int) (s : Value) (l : List Raw) (w : World) (bk : -9223372036854775808 ≤ kind ∧ kind ≤ 9223372036854775807) (hl : RawsAt w s l) (hz : l.length * 48 ≤ reachBytes) (h4 : pickedN kind 4 = 0) :
    Calls Tryz.prog 15 #[.int .i64 kind, s] w fun e w' => e = .returned (.bool true) ∧ Below w.heap.size w w' := by
  have p4 := fun W => picked_any kind 4 W bk.1 bk.2 (by omega) (by omega)
  have l4 := pickedN_lt kind (show 0 < 4 by omega)
  generalize pickedN kind 4 = q at p4 l4 h4
  have hF := full_any (2 + (q : Int)) s l w (by omega) hl hz
  have hq : pickedN (2 + (q : Int)) 6 = 2 + q := by
    have := picked_self (2 + q) 6 (by omega)
    rw [show ((2 + q : Nat) : Int) = 2 + (q : Int) by omega] at this; exact this
  rw [hq] at hF
  obtain ⟨hok, hkd⟩ := fullFor_ok (2 + q) (by omega) l
  generalize fullFor (2 + q) l = x at hF hok hkd
  have h3 : 3 ≤ x.kind := by omega
  have hkq : x.kind = 3 := by omega
  have HKQ : Hid (x.kind = 3) := hkq
  clear hkq h4
  have A2 : Hid (Acts x allC x { list := x.names } 0) := all_acts hok h3
  have hone := hok.one h3
  have hnl := names_length x
  have hn0 : 0 < x.names.length := by omega
  have hn20 := hok.size
  have HR : Hid (∀ m (hm : m + 1 < x.names.length), (x.kind = 3 ∨ x.kind = 5) → ltS (x.names[m]'(by omega)) x.names[m + 1] = true) := fun m hm hk => rise_names hok hk m hm
  have HC : Hid ((x.kind = 3 ∧ x.names = x.pairs.map (·.1)) ∨ ((x.kind = 4 ∨ x.kind = 5) ∧ x.names = x.items) ∨ (x.kind = 6 ∧ x.names = x.scores.map (·.1))) := by
    rcases hok.cases with ⟨t, -, rfl⟩ | ⟨n, -, rfl⟩ | ⟨l, -, -, -, -, rfl⟩ | ⟨l, -, -, -, rfl⟩ | ⟨l, -, -, -, -, rfl⟩ | ⟨l, -, -, -, -, -, -, rfl⟩
    · simp at h3
    · simp at h3
    · exact .inl ⟨rfl, by simp [Val.names]⟩
    · exact .inr (.inl ⟨.inl rfl, by simp [Val.names]⟩)
    · exact .inr (.inl ⟨.inr rfl, by simp [Val.names]⟩)
    · exact .inr (.inr ⟨rfl, by simp [Val.names]⟩)
  have HF : Hid (Calls Tryz.prog 22 #[.int .i64 (2 + (q : Int)), s] w fun e w' => ∃ v, e = .returned v ∧ RepsF w.heap.size w' v x ∧ Below w.heap.size w w') := hF
  have P4 : Hid (∀ W, Calls Tryz.prog 28 #[.int .i64 kind, .int .i64 4] W fun e w' => e = .returned (.int .i64 (q : Nat)) ∧ W = w') := p4
  have hN20 : x.names.length ≤ 20 := by omega
  clear hF p4 hok hkd h3 hl hz hq hnl hone hn20 bk
  go_enter Tryz.func15, Tryz.ntmps15
  go_wp2_with fail
  refine (P4.out _).mono ?_
  rintro e w0 ⟨rfl, rfl⟩
  go_wp2_with fail
  refine HF.out.mono ?_
  rintro e w1 ⟨v, rfl, hr, hB⟩
  clear HF P4
  obtain ⟨ps, is, ss, rfl, hv, -⟩ := hr
  obtain ⟨pa, pc, ia, ic, sa, sc, rfl, rfl, rfl, -⟩ := hv.lens
  go_wp2_with fail
  have nv := alloc_at w1 (valO x.kind x.text x.count (.slice pa x.pairs.length pc) (.slice ia x.items.length ic) (.slice sa x.scores.length sc))
  have hbx := balloc w1 (valO x.kind x.text x.count (.slice pa x.pairs.length pc) (.slice ia x.items.length ic) (.slice sa x.scores.length sc))
  replace hv := hv.below hbx
  replace hB := hB.alloc hB.size (valO x.kind x.text x.count (.slice pa x.pairs.length pc) (.slice ia x.items.length ic) (.slice sa x.scores.length sc))
  clear hbx
  generalize w1.alloc (valO x.kind x.text x.count (.slice pa x.pairs.length pc) (.slice ia x.items.length ic) (.slice sa x.scores.length sc)) = V1 at nv hv hB ⊢
  generalize w1.heap.size = bv at nv ⊢
  refine (A2.out _ _ _ _ hv).mono ?_
  rintro e w2 ⟨pa2, pc2, ia2, ic2, sa2, sc2, la2, lc2, rfl, -, hn, hb2⟩
  replace nv := (hb2.block _ (lt_at nv)).trans nv
  replace hv := hv.below hb2
  replace hB := bstep hB hb2
  clear hb2
  have hlv := lt_at nv
  go_wp2_with fail
  clear hlv
  obtain ⟨nw, na⟩ := two_new w2 (valO x.kind x.text x.count (.slice pa2 x.pairs.length pc2) (.slice ia2 x.items.length ic2) (.slice sa2 x.scores.length sc2)) (repO 0 ⟨#[]⟩ 0 (.slice la2 x.names.length lc2))
  have hbx : Below w2.heap.size w2 ((w2.alloc (valO x.kind x.text x.count (.slice pa2 x.pairs.length pc2) (.slice ia2 x.items.length ic2) (.slice sa2 x.scores.length sc2))).alloc (repO 0 ⟨#[]⟩ 0 (.slice la2 x.names.length lc2))) := (balloc _ _).alloc (by simp) _
  replace nv := (hbx.block _ (lt_at nv)).trans nv
  replace hv := hv.below hbx
  replace hn := hn.below hbx
  replace hB := bstep hB hbx
  clear hbx
  generalize (w2.alloc (valO x.kind x.text x.count (.slice pa2 x.pairs.length pc2) (.slice ia2 x.items.length ic2) (.slice sa2 x.scores.length sc2))).alloc (repO 0 ⟨#[]⟩ 0 (.slice la2 x.names.length lc2)) = V2 at nw na nv hv hn hB ⊢
  generalize w2.heap.size = bw at nw na ⊢
  obtain ⟨-, gb, go, rfl, hgb, hnc⟩ := rowI_cell hn 0 hn0
  have HB : Hid (Below w.heap.size w V2) := hB
  have HV : Hid (Lists V2 (.slice pa x.pairs.length pc) (.slice ia x.items.length ic) (.slice sa x.scores.length sc) x) := hv
  have HNC : Hid (∀ k (hk : k < x.names.length), V2.cell? ⟨gb, go + k, none⟩ = some (.string x.names[k])) := hnc
  have HNV : Hid (V2.heap[bv]? = some (valO x.kind x.text x.count (.slice pa x.pairs.length pc) (.slice ia x.items.length ic) (.slice sa x.scores.length sc))) := nv
  have HNA : Hid (V2.heap[bw + 1]? = some (repO 0 ⟨#[]⟩ 0 (.slice (some ⟨gb, go, none⟩) x.names.length lc2))) := na
  clear hB hv hnc hn nw
  obtain ⟨c1, f1⟩ := cellsB na
  go_wp2_with fail
  clear c1 f1
  go_loopw [9] (fun c wr => ∃ m : Nat, c = .int .i64 (m : Int) ∧ m ≤ x.names.length ∧ Below V2.heap.size V2 wr) (fun c _ => x.names.length - (intOf c).toNat)
  case atStart => exact ⟨0, rfl, by omega, Below.refl _ _⟩
  case round =>
    clear nv na
    obtain ⟨m, rfl, hm, hb⟩ := hrel
    have nv := (hb.block _ (lt_at HNV.out)).trans HNV.out
    have na := (hb.block _ (lt_at HNA.out)).trans HNA.out
    obtain ⟨c1, f1⟩ := cellsB na
    by_cases hlt : m < x.names.length
    · have hi : (m : Int) < (x.names.length : Int) := by omega
      obtain ⟨c2, f2⟩ := cellsB nv
      have e0 := (hb.cell (p := ⟨gb, go + m, none⟩) hgb).trans (HNC.out m hlt)
      have hvW := HV.out.below hb
      have hcases : (x.kind = 3 ∧ x.names = x.pairs.map (·.1)) ∨ (x.kind = 4 ∧ x.names = x.items) ∨ (x.kind = 5 ∧ x.names = x.items) ∨ (x.kind = 6 ∧ x.names = x.scores.map (·.1)) := by
        rcases HC.out with h | ⟨h | h, e⟩ | h
        · exact .inl h
        · exact .inr (.inl ⟨h, e⟩)
        · exact .inr (.inr (.inl ⟨h, e⟩))
        · exact .inr (.inr (.inr h))
      have hwant : (x.kind = 3 → ∃ b off, pa = some ⟨b, off, none⟩ ∧ m < x.pairs.length ∧ wr.cell? ⟨b, off + m * 2, none⟩ = some (.string x.names[m])) ∧ ((x.kind = 4 ∨ x.kind = 5) → ∃ b off, ia = some ⟨b, off, none⟩ ∧ m < x.items.length ∧ wr.cell? ⟨b, off + m, none⟩ = some (.string x.names[m])) ∧ (x.kind = 6 → ∃ b off, sa = some ⟨b, off, none⟩ ∧ m < x.scores.length ∧ wr.cell? ⟨b, off + m * 2, none⟩ = some (.string x.names[m])) := by
        rcases hcases with ⟨hk, hnm⟩ | ⟨hk, hnm⟩ | ⟨hk, hnm⟩ | ⟨hk, hnm⟩
        · refine ⟨fun _ => ?_, fun h => by omega, fun h => by omega⟩
          have hm' : m < x.pairs.length := by rw [hnm] at hlt; simpa using hlt
          obtain ⟨b, off, e1, -, e2⟩ := row2_cell (fun p => rfl) hvW.p m hm'
          exact ⟨b, off, e1, hm', by rw [e2]; simp [hnm]⟩
        · refine ⟨fun h => by omega, fun _ => ?_, fun h => by omega⟩
          have hm' : m < x.items.length := by rw [hnm] at hlt; exact hlt
          obtain ⟨-, b, off, e1, -, e2⟩ := rowI_cell hvW.i m hm'
          exact ⟨b, off, e1, hm', by rw [e2 m hm']; simp [hnm]⟩
        · refine ⟨fun h => by omega, fun _ => ?_, fun h => by omega⟩
          have hm' : m < x.items.length := by rw [hnm] at hlt; exact hlt
          obtain ⟨-, b, off, e1, -, e2⟩ := rowI_cell hvW.i m hm'
          exact ⟨b, off, e1, hm', by rw [e2 m hm']; simp [hnm]⟩
        · refine ⟨fun h => by omega, fun h => by omega, fun _ => ?_⟩
          have hm' : m < x.scores.length := by rw [hnm] at hlt; simpa using hlt
          obtain ⟨b, off, e1, -, e2⟩ := row2_cell (fun p => rfl) hvW.s m hm'
          exact ⟨b, off, e1, hm', by rw [e2]; simp [hnm]⟩
      have hprev : m = 0 ∨ (0 < m ∧ ∃ t, wr.cell? ⟨gb, go + (m - 1), none⟩ = some (.string t) ∧ ((x.kind = 3 ∨ x.kind = 5) → ltS t x.names[m] = true)) := by
        by_cases h0 : m = 0
        · exact .inl h0
        · refine .inr ⟨by omega, x.names[m - 1], (hb.cell (p := ⟨gb, go + (m - 1), none⟩) hgb).trans (HNC.out (m - 1) (by omega)), fun hk => ?_⟩
          have := HR.out (m - 1) (by omega) hk
          simpa [show m - 1 + 1 = m by omega] using this
      have hk4 : x.kind = 3 ∨ x.kind = 4 ∨ x.kind = 5 ∨ x.kind = 6 := by rcases hcases with h | h | h | h <;> simp [h.1]
      clear hcases hvW nv na
      generalize x.names[m] = t at *
      have hidx : IntKind.i64.wrap ((m : Int) - 1) = (m : Int) - 1 := by rw [IntKind.wrap_i64]; omega
      have hmm : 0 < m → (m : Int) - 1 = ((m - 1 : Nat) : Int) := by omega
      have hend : Below w.heap.size w wr := bstep HB.out hb
      obtain ⟨hw3, hw45, hw6⟩ := hwant
      have hk := HKQ.out
      obtain ⟨b2, o2, rfl, hl2, e2⟩ := hw3 hk
      have g3 : (x.kind == 3) = true := by simp [hk]
      have g5 : (x.kind == 5) = false := by simp [hk]
      have hl2' : (m : Int) < (x.pairs.length : Int) := by omega
      have hor : x.kind = 3 ∨ x.kind = 5 := by omega
      clear hw3 hw45 hw6 hk
      rcases hprev with h00 | ⟨h0, t', e3, hlt'⟩
      · subst h00
        clear hmm hidx hor
        simp only [Nat.zero_mul, Nat.add_zero, Int.natCast_zero] at e0 e2 hi hl2' ⊢
        go_wp2_with fail
        go_quiet (fail)
        go_wp2_with fail
        exact ⟨⟨1, by go_num, by omega, below_drewN hb _⟩, by simp [intOf]; omega⟩
      · have hbl : Op.bytesLess t'.toList t.toList = true := hlt' hor
        have hm1 := hmm h0
        clear hlt' hor hmm
        go_wp2_with fail
        go_quiet (fail)
        go_wp2_with fail
        exact ⟨⟨m + 1, by go_num, by omega, below_drewN hb _⟩, by simp [intOf]; omega⟩
    · have hge : ¬ (m : Int) < (x.names.length : Int) := by omega
      go_wp2_with fail
      go_ret
      exact ⟨rfl, bstep HB.out hb⟩

set_option maxHeartbeats 8000000 in
theorem walk1 (kind : Int) (s : Value) (l : List Raw) (w : World) (bk : -9223372036854775808 ≤ kind ∧ kind ≤ 9223372036854775807) (hl : RawsAt w s l) (hz : l.length * 48 ≤ reachBytes) (h4 : pickedN kind 4 = 1) :
    Calls Tryz.prog 15 #[.int .i64 kind, s] w fun e w' => e = .returned (.bool true) ∧ Below w.heap.size w w' := by
  have p4 := fun W => picked_any kind 4 W bk.1 bk.2 (by omega) (by omega)
  have l4 := pickedN_lt kind (show 0 < 4 by omega)
  generalize pickedN kind 4 = q at p4 l4 h4
  have hF := full_any (2 + (q : Int)) s l w (by omega) hl hz
  have hq : pickedN (2 + (q : Int)) 6 = 2 + q := by
    have := picked_self (2 + q) 6 (by omega)
    rw [show ((2 + q : Nat) : Int) = 2 + (q : Int) by omega] at this; exact this
  rw [hq] at hF
  obtain ⟨hok, hkd⟩ := fullFor_ok (2 + q) (by omega) l
  generalize fullFor (2 + q) l = x at hF hok hkd
  have h3 : 3 ≤ x.kind := by omega
  have hkq : x.kind = 4 := by omega
  have HKQ : Hid (x.kind = 4) := hkq
  clear hkq h4
  have A2 : Hid (Acts x allC x { list := x.names } 0) := all_acts hok h3
  have hone := hok.one h3
  have hnl := names_length x
  have hn0 : 0 < x.names.length := by omega
  have hn20 := hok.size
  have HR : Hid (∀ m (hm : m + 1 < x.names.length), (x.kind = 3 ∨ x.kind = 5) → ltS (x.names[m]'(by omega)) x.names[m + 1] = true) := fun m hm hk => rise_names hok hk m hm
  have HC : Hid ((x.kind = 3 ∧ x.names = x.pairs.map (·.1)) ∨ ((x.kind = 4 ∨ x.kind = 5) ∧ x.names = x.items) ∨ (x.kind = 6 ∧ x.names = x.scores.map (·.1))) := by
    rcases hok.cases with ⟨t, -, rfl⟩ | ⟨n, -, rfl⟩ | ⟨l, -, -, -, -, rfl⟩ | ⟨l, -, -, -, rfl⟩ | ⟨l, -, -, -, -, rfl⟩ | ⟨l, -, -, -, -, -, -, rfl⟩
    · simp at h3
    · simp at h3
    · exact .inl ⟨rfl, by simp [Val.names]⟩
    · exact .inr (.inl ⟨.inl rfl, by simp [Val.names]⟩)
    · exact .inr (.inl ⟨.inr rfl, by simp [Val.names]⟩)
    · exact .inr (.inr ⟨rfl, by simp [Val.names]⟩)
  have HF : Hid (Calls Tryz.prog 22 #[.int .i64 (2 + (q : Int)), s] w fun e w' => ∃ v, e = .returned v ∧ RepsF w.heap.size w' v x ∧ Below w.heap.size w w') := hF
  have P4 : Hid (∀ W, Calls Tryz.prog 28 #[.int .i64 kind, .int .i64 4] W fun e w' => e = .returned (.int .i64 (q : Nat)) ∧ W = w') := p4
  have hN20 : x.names.length ≤ 20 := by omega
  clear hF p4 hok hkd h3 hl hz hq hnl hone hn20 bk
  go_enter Tryz.func15, Tryz.ntmps15
  go_wp2_with fail
  refine (P4.out _).mono ?_
  rintro e w0 ⟨rfl, rfl⟩
  go_wp2_with fail
  refine HF.out.mono ?_
  rintro e w1 ⟨v, rfl, hr, hB⟩
  clear HF P4
  obtain ⟨ps, is, ss, rfl, hv, -⟩ := hr
  obtain ⟨pa, pc, ia, ic, sa, sc, rfl, rfl, rfl, -⟩ := hv.lens
  go_wp2_with fail
  have nv := alloc_at w1 (valO x.kind x.text x.count (.slice pa x.pairs.length pc) (.slice ia x.items.length ic) (.slice sa x.scores.length sc))
  have hbx := balloc w1 (valO x.kind x.text x.count (.slice pa x.pairs.length pc) (.slice ia x.items.length ic) (.slice sa x.scores.length sc))
  replace hv := hv.below hbx
  replace hB := hB.alloc hB.size (valO x.kind x.text x.count (.slice pa x.pairs.length pc) (.slice ia x.items.length ic) (.slice sa x.scores.length sc))
  clear hbx
  generalize w1.alloc (valO x.kind x.text x.count (.slice pa x.pairs.length pc) (.slice ia x.items.length ic) (.slice sa x.scores.length sc)) = V1 at nv hv hB ⊢
  generalize w1.heap.size = bv at nv ⊢
  refine (A2.out _ _ _ _ hv).mono ?_
  rintro e w2 ⟨pa2, pc2, ia2, ic2, sa2, sc2, la2, lc2, rfl, -, hn, hb2⟩
  replace nv := (hb2.block _ (lt_at nv)).trans nv
  replace hv := hv.below hb2
  replace hB := bstep hB hb2
  clear hb2
  have hlv := lt_at nv
  go_wp2_with fail
  clear hlv
  obtain ⟨nw, na⟩ := two_new w2 (valO x.kind x.text x.count (.slice pa2 x.pairs.length pc2) (.slice ia2 x.items.length ic2) (.slice sa2 x.scores.length sc2)) (repO 0 ⟨#[]⟩ 0 (.slice la2 x.names.length lc2))
  have hbx : Below w2.heap.size w2 ((w2.alloc (valO x.kind x.text x.count (.slice pa2 x.pairs.length pc2) (.slice ia2 x.items.length ic2) (.slice sa2 x.scores.length sc2))).alloc (repO 0 ⟨#[]⟩ 0 (.slice la2 x.names.length lc2))) := (balloc _ _).alloc (by simp) _
  replace nv := (hbx.block _ (lt_at nv)).trans nv
  replace hv := hv.below hbx
  replace hn := hn.below hbx
  replace hB := bstep hB hbx
  clear hbx
  generalize (w2.alloc (valO x.kind x.text x.count (.slice pa2 x.pairs.length pc2) (.slice ia2 x.items.length ic2) (.slice sa2 x.scores.length sc2))).alloc (repO 0 ⟨#[]⟩ 0 (.slice la2 x.names.length lc2)) = V2 at nw na nv hv hn hB ⊢
  generalize w2.heap.size = bw at nw na ⊢
  obtain ⟨-, gb, go, rfl, hgb, hnc⟩ := rowI_cell hn 0 hn0
  have HB : Hid (Below w.heap.size w V2) := hB
  have HV : Hid (Lists V2 (.slice pa x.pairs.length pc) (.slice ia x.items.length ic) (.slice sa x.scores.length sc) x) := hv
  have HNC : Hid (∀ k (hk : k < x.names.length), V2.cell? ⟨gb, go + k, none⟩ = some (.string x.names[k])) := hnc
  have HNV : Hid (V2.heap[bv]? = some (valO x.kind x.text x.count (.slice pa x.pairs.length pc) (.slice ia x.items.length ic) (.slice sa x.scores.length sc))) := nv
  have HNA : Hid (V2.heap[bw + 1]? = some (repO 0 ⟨#[]⟩ 0 (.slice (some ⟨gb, go, none⟩) x.names.length lc2))) := na
  clear hB hv hnc hn nw
  obtain ⟨c1, f1⟩ := cellsB na
  go_wp2_with fail
  clear c1 f1
  go_loopw [9] (fun c wr => ∃ m : Nat, c = .int .i64 (m : Int) ∧ m ≤ x.names.length ∧ Below V2.heap.size V2 wr) (fun c _ => x.names.length - (intOf c).toNat)
  case atStart => exact ⟨0, rfl, by omega, Below.refl _ _⟩
  case round =>
    clear nv na
    obtain ⟨m, rfl, hm, hb⟩ := hrel
    have nv := (hb.block _ (lt_at HNV.out)).trans HNV.out
    have na := (hb.block _ (lt_at HNA.out)).trans HNA.out
    obtain ⟨c1, f1⟩ := cellsB na
    by_cases hlt : m < x.names.length
    · have hi : (m : Int) < (x.names.length : Int) := by omega
      obtain ⟨c2, f2⟩ := cellsB nv
      have e0 := (hb.cell (p := ⟨gb, go + m, none⟩) hgb).trans (HNC.out m hlt)
      have hvW := HV.out.below hb
      have hcases : (x.kind = 3 ∧ x.names = x.pairs.map (·.1)) ∨ (x.kind = 4 ∧ x.names = x.items) ∨ (x.kind = 5 ∧ x.names = x.items) ∨ (x.kind = 6 ∧ x.names = x.scores.map (·.1)) := by
        rcases HC.out with h | ⟨h | h, e⟩ | h
        · exact .inl h
        · exact .inr (.inl ⟨h, e⟩)
        · exact .inr (.inr (.inl ⟨h, e⟩))
        · exact .inr (.inr (.inr h))
      have hwant : (x.kind = 3 → ∃ b off, pa = some ⟨b, off, none⟩ ∧ m < x.pairs.length ∧ wr.cell? ⟨b, off + m * 2, none⟩ = some (.string x.names[m])) ∧ ((x.kind = 4 ∨ x.kind = 5) → ∃ b off, ia = some ⟨b, off, none⟩ ∧ m < x.items.length ∧ wr.cell? ⟨b, off + m, none⟩ = some (.string x.names[m])) ∧ (x.kind = 6 → ∃ b off, sa = some ⟨b, off, none⟩ ∧ m < x.scores.length ∧ wr.cell? ⟨b, off + m * 2, none⟩ = some (.string x.names[m])) := by
        rcases hcases with ⟨hk, hnm⟩ | ⟨hk, hnm⟩ | ⟨hk, hnm⟩ | ⟨hk, hnm⟩
        · refine ⟨fun _ => ?_, fun h => by omega, fun h => by omega⟩
          have hm' : m < x.pairs.length := by rw [hnm] at hlt; simpa using hlt
          obtain ⟨b, off, e1, -, e2⟩ := row2_cell (fun p => rfl) hvW.p m hm'
          exact ⟨b, off, e1, hm', by rw [e2]; simp [hnm]⟩
        · refine ⟨fun h => by omega, fun _ => ?_, fun h => by omega⟩
          have hm' : m < x.items.length := by rw [hnm] at hlt; exact hlt
          obtain ⟨-, b, off, e1, -, e2⟩ := rowI_cell hvW.i m hm'
          exact ⟨b, off, e1, hm', by rw [e2 m hm']; simp [hnm]⟩
        · refine ⟨fun h => by omega, fun _ => ?_, fun h => by omega⟩
          have hm' : m < x.items.length := by rw [hnm] at hlt; exact hlt
          obtain ⟨-, b, off, e1, -, e2⟩ := rowI_cell hvW.i m hm'
          exact ⟨b, off, e1, hm', by rw [e2 m hm']; simp [hnm]⟩
        · refine ⟨fun h => by omega, fun h => by omega, fun _ => ?_⟩
          have hm' : m < x.scores.length := by rw [hnm] at hlt; simpa using hlt
          obtain ⟨b, off, e1, -, e2⟩ := row2_cell (fun p => rfl) hvW.s m hm'
          exact ⟨b, off, e1, hm', by rw [e2]; simp [hnm]⟩
      have hprev : m = 0 ∨ (0 < m ∧ ∃ t, wr.cell? ⟨gb, go + (m - 1), none⟩ = some (.string t) ∧ ((x.kind = 3 ∨ x.kind = 5) → ltS t x.names[m] = true)) := by
        by_cases h0 : m = 0
        · exact .inl h0
        · refine .inr ⟨by omega, x.names[m - 1], (hb.cell (p := ⟨gb, go + (m - 1), none⟩) hgb).trans (HNC.out (m - 1) (by omega)), fun hk => ?_⟩
          have := HR.out (m - 1) (by omega) hk
          simpa [show m - 1 + 1 = m by omega] using this
      have hk4 : x.kind = 3 ∨ x.kind = 4 ∨ x.kind = 5 ∨ x.kind = 6 := by rcases hcases with h | h | h | h <;> simp [h.1]
      clear hcases hvW nv na
      generalize x.names[m] = t at *
      have hidx : IntKind.i64.wrap ((m : Int) - 1) = (m : Int) - 1 := by rw [IntKind.wrap_i64]; omega
      have hmm : 0 < m → (m : Int) - 1 = ((m - 1 : Nat) : Int) := by omega
      have hend : Below w.heap.size w wr := bstep HB.out hb
      obtain ⟨hw3, hw45, hw6⟩ := hwant
      have hk := HKQ.out
      obtain ⟨b2, o2, rfl, hl2, e2⟩ := hw45 (.inl hk)
      have g3 : (x.kind == 3) = false := by simp [hk]
      have g6 : (x.kind == 6) = false := by simp [hk]
      have g5 : (x.kind == 5) = false := by simp [hk]
      have hl2' : (m : Int) < (x.items.length : Int) := by omega
      clear hw3 hw45 hw6 hk
      clear hprev hmm hidx
      go_wp2_with fail
      go_quiet (fail)
      go_wp2_with fail
      exact ⟨⟨m + 1, by go_num, by omega, below_drewN hb _⟩, by simp [intOf]; omega⟩
    · have hge : ¬ (m : Int) < (x.names.length : Int) := by omega
      go_wp2_with fail
      go_ret
      exact ⟨rfl, bstep HB.out hb⟩

set_option maxHeartbeats 8000000 in
theorem walk2 (kind : Int) (s : Value) (l : List Raw) (w : World) (bk : -9223372036854775808 ≤ kind ∧ kind ≤ 9223372036854775807) (hl : RawsAt w s l) (hz : l.length * 48 ≤ reachBytes) (h4 : pickedN kind 4 = 2) :
    Calls Tryz.prog 15 #[.int .i64 kind, s] w fun e w' => e = .returned (.bool true) ∧ Below w.heap.size w w' := by
  have p4 := fun W => picked_any kind 4 W bk.1 bk.2 (by omega) (by omega)
  have l4 := pickedN_lt kind (show 0 < 4 by omega)
  generalize pickedN kind 4 = q at p4 l4 h4
  have hF := full_any (2 + (q : Int)) s l w (by omega) hl hz
  have hq : pickedN (2 + (q : Int)) 6 = 2 + q := by
    have := picked_self (2 + q) 6 (by omega)
    rw [show ((2 + q : Nat) : Int) = 2 + (q : Int) by omega] at this; exact this
  rw [hq] at hF
  obtain ⟨hok, hkd⟩ := fullFor_ok (2 + q) (by omega) l
  generalize fullFor (2 + q) l = x at hF hok hkd
  have h3 : 3 ≤ x.kind := by omega
  have hkq : x.kind = 5 := by omega
  have HKQ : Hid (x.kind = 5) := hkq
  clear hkq h4
  have A2 : Hid (Acts x allC x { list := x.names } 0) := all_acts hok h3
  have hone := hok.one h3
  have hnl := names_length x
  have hn0 : 0 < x.names.length := by omega
  have hn20 := hok.size
  have HR : Hid (∀ m (hm : m + 1 < x.names.length), (x.kind = 3 ∨ x.kind = 5) → ltS (x.names[m]'(by omega)) x.names[m + 1] = true) := fun m hm hk => rise_names hok hk m hm
  have HC : Hid ((x.kind = 3 ∧ x.names = x.pairs.map (·.1)) ∨ ((x.kind = 4 ∨ x.kind = 5) ∧ x.names = x.items) ∨ (x.kind = 6 ∧ x.names = x.scores.map (·.1))) := by
    rcases hok.cases with ⟨t, -, rfl⟩ | ⟨n, -, rfl⟩ | ⟨l, -, -, -, -, rfl⟩ | ⟨l, -, -, -, rfl⟩ | ⟨l, -, -, -, -, rfl⟩ | ⟨l, -, -, -, -, -, -, rfl⟩
    · simp at h3
    · simp at h3
    · exact .inl ⟨rfl, by simp [Val.names]⟩
    · exact .inr (.inl ⟨.inl rfl, by simp [Val.names]⟩)
    · exact .inr (.inl ⟨.inr rfl, by simp [Val.names]⟩)
    · exact .inr (.inr ⟨rfl, by simp [Val.names]⟩)
  have HF : Hid (Calls Tryz.prog 22 #[.int .i64 (2 + (q : Int)), s] w fun e w' => ∃ v, e = .returned v ∧ RepsF w.heap.size w' v x ∧ Below w.heap.size w w') := hF
  have P4 : Hid (∀ W, Calls Tryz.prog 28 #[.int .i64 kind, .int .i64 4] W fun e w' => e = .returned (.int .i64 (q : Nat)) ∧ W = w') := p4
  have hN20 : x.names.length ≤ 20 := by omega
  clear hF p4 hok hkd h3 hl hz hq hnl hone hn20 bk
  go_enter Tryz.func15, Tryz.ntmps15
  go_wp2_with fail
  refine (P4.out _).mono ?_
  rintro e w0 ⟨rfl, rfl⟩
  go_wp2_with fail
  refine HF.out.mono ?_
  rintro e w1 ⟨v, rfl, hr, hB⟩
  clear HF P4
  obtain ⟨ps, is, ss, rfl, hv, -⟩ := hr
  obtain ⟨pa, pc, ia, ic, sa, sc, rfl, rfl, rfl, -⟩ := hv.lens
  go_wp2_with fail
  have nv := alloc_at w1 (valO x.kind x.text x.count (.slice pa x.pairs.length pc) (.slice ia x.items.length ic) (.slice sa x.scores.length sc))
  have hbx := balloc w1 (valO x.kind x.text x.count (.slice pa x.pairs.length pc) (.slice ia x.items.length ic) (.slice sa x.scores.length sc))
  replace hv := hv.below hbx
  replace hB := hB.alloc hB.size (valO x.kind x.text x.count (.slice pa x.pairs.length pc) (.slice ia x.items.length ic) (.slice sa x.scores.length sc))
  clear hbx
  generalize w1.alloc (valO x.kind x.text x.count (.slice pa x.pairs.length pc) (.slice ia x.items.length ic) (.slice sa x.scores.length sc)) = V1 at nv hv hB ⊢
  generalize w1.heap.size = bv at nv ⊢
  refine (A2.out _ _ _ _ hv).mono ?_
  rintro e w2 ⟨pa2, pc2, ia2, ic2, sa2, sc2, la2, lc2, rfl, -, hn, hb2⟩
  replace nv := (hb2.block _ (lt_at nv)).trans nv
  replace hv := hv.below hb2
  replace hB := bstep hB hb2
  clear hb2
  have hlv := lt_at nv
  go_wp2_with fail
  clear hlv
  obtain ⟨nw, na⟩ := two_new w2 (valO x.kind x.text x.count (.slice pa2 x.pairs.length pc2) (.slice ia2 x.items.length ic2) (.slice sa2 x.scores.length sc2)) (repO 0 ⟨#[]⟩ 0 (.slice la2 x.names.length lc2))
  have hbx : Below w2.heap.size w2 ((w2.alloc (valO x.kind x.text x.count (.slice pa2 x.pairs.length pc2) (.slice ia2 x.items.length ic2) (.slice sa2 x.scores.length sc2))).alloc (repO 0 ⟨#[]⟩ 0 (.slice la2 x.names.length lc2))) := (balloc _ _).alloc (by simp) _
  replace nv := (hbx.block _ (lt_at nv)).trans nv
  replace hv := hv.below hbx
  replace hn := hn.below hbx
  replace hB := bstep hB hbx
  clear hbx
  generalize (w2.alloc (valO x.kind x.text x.count (.slice pa2 x.pairs.length pc2) (.slice ia2 x.items.length ic2) (.slice sa2 x.scores.length sc2))).alloc (repO 0 ⟨#[]⟩ 0 (.slice la2 x.names.length lc2)) = V2 at nw na nv hv hn hB ⊢
  generalize w2.heap.size = bw at nw na ⊢
  obtain ⟨-, gb, go, rfl, hgb, hnc⟩ := rowI_cell hn 0 hn0
  have HB : Hid (Below w.heap.size w V2) := hB
  have HV : Hid (Lists V2 (.slice pa x.pairs.length pc) (.slice ia x.items.length ic) (.slice sa x.scores.length sc) x) := hv
  have HNC : Hid (∀ k (hk : k < x.names.length), V2.cell? ⟨gb, go + k, none⟩ = some (.string x.names[k])) := hnc
  have HNV : Hid (V2.heap[bv]? = some (valO x.kind x.text x.count (.slice pa x.pairs.length pc) (.slice ia x.items.length ic) (.slice sa x.scores.length sc))) := nv
  have HNA : Hid (V2.heap[bw + 1]? = some (repO 0 ⟨#[]⟩ 0 (.slice (some ⟨gb, go, none⟩) x.names.length lc2))) := na
  clear hB hv hnc hn nw
  obtain ⟨c1, f1⟩ := cellsB na
  go_wp2_with fail
  clear c1 f1
  go_loopw [9] (fun c wr => ∃ m : Nat, c = .int .i64 (m : Int) ∧ m ≤ x.names.length ∧ Below V2.heap.size V2 wr) (fun c _ => x.names.length - (intOf c).toNat)
  case atStart => exact ⟨0, rfl, by omega, Below.refl _ _⟩
  case round =>
    clear nv na
    obtain ⟨m, rfl, hm, hb⟩ := hrel
    have nv := (hb.block _ (lt_at HNV.out)).trans HNV.out
    have na := (hb.block _ (lt_at HNA.out)).trans HNA.out
    obtain ⟨c1, f1⟩ := cellsB na
    by_cases hlt : m < x.names.length
    · have hi : (m : Int) < (x.names.length : Int) := by omega
      obtain ⟨c2, f2⟩ := cellsB nv
      have e0 := (hb.cell (p := ⟨gb, go + m, none⟩) hgb).trans (HNC.out m hlt)
      have hvW := HV.out.below hb
      have hcases : (x.kind = 3 ∧ x.names = x.pairs.map (·.1)) ∨ (x.kind = 4 ∧ x.names = x.items) ∨ (x.kind = 5 ∧ x.names = x.items) ∨ (x.kind = 6 ∧ x.names = x.scores.map (·.1)) := by
        rcases HC.out with h | ⟨h | h, e⟩ | h
        · exact .inl h
        · exact .inr (.inl ⟨h, e⟩)
        · exact .inr (.inr (.inl ⟨h, e⟩))
        · exact .inr (.inr (.inr h))
      have hwant : (x.kind = 3 → ∃ b off, pa = some ⟨b, off, none⟩ ∧ m < x.pairs.length ∧ wr.cell? ⟨b, off + m * 2, none⟩ = some (.string x.names[m])) ∧ ((x.kind = 4 ∨ x.kind = 5) → ∃ b off, ia = some ⟨b, off, none⟩ ∧ m < x.items.length ∧ wr.cell? ⟨b, off + m, none⟩ = some (.string x.names[m])) ∧ (x.kind = 6 → ∃ b off, sa = some ⟨b, off, none⟩ ∧ m < x.scores.length ∧ wr.cell? ⟨b, off + m * 2, none⟩ = some (.string x.names[m])) := by
        rcases hcases with ⟨hk, hnm⟩ | ⟨hk, hnm⟩ | ⟨hk, hnm⟩ | ⟨hk, hnm⟩
        · refine ⟨fun _ => ?_, fun h => by omega, fun h => by omega⟩
          have hm' : m < x.pairs.length := by rw [hnm] at hlt; simpa using hlt
          obtain ⟨b, off, e1, -, e2⟩ := row2_cell (fun p => rfl) hvW.p m hm'
          exact ⟨b, off, e1, hm', by rw [e2]; simp [hnm]⟩
        · refine ⟨fun h => by omega, fun _ => ?_, fun h => by omega⟩
          have hm' : m < x.items.length := by rw [hnm] at hlt; exact hlt
          obtain ⟨-, b, off, e1, -, e2⟩ := rowI_cell hvW.i m hm'
          exact ⟨b, off, e1, hm', by rw [e2 m hm']; simp [hnm]⟩
        · refine ⟨fun h => by omega, fun _ => ?_, fun h => by omega⟩
          have hm' : m < x.items.length := by rw [hnm] at hlt; exact hlt
          obtain ⟨-, b, off, e1, -, e2⟩ := rowI_cell hvW.i m hm'
          exact ⟨b, off, e1, hm', by rw [e2 m hm']; simp [hnm]⟩
        · refine ⟨fun h => by omega, fun h => by omega, fun _ => ?_⟩
          have hm' : m < x.scores.length := by rw [hnm] at hlt; simpa using hlt
          obtain ⟨b, off, e1, -, e2⟩ := row2_cell (fun p => rfl) hvW.s m hm'
          exact ⟨b, off, e1, hm', by rw [e2]; simp [hnm]⟩
      have hprev : m = 0 ∨ (0 < m ∧ ∃ t, wr.cell? ⟨gb, go + (m - 1), none⟩ = some (.string t) ∧ ((x.kind = 3 ∨ x.kind = 5) → ltS t x.names[m] = true)) := by
        by_cases h0 : m = 0
        · exact .inl h0
        · refine .inr ⟨by omega, x.names[m - 1], (hb.cell (p := ⟨gb, go + (m - 1), none⟩) hgb).trans (HNC.out (m - 1) (by omega)), fun hk => ?_⟩
          have := HR.out (m - 1) (by omega) hk
          simpa [show m - 1 + 1 = m by omega] using this
      have hk4 : x.kind = 3 ∨ x.kind = 4 ∨ x.kind = 5 ∨ x.kind = 6 := by rcases hcases with h | h | h | h <;> simp [h.1]
      clear hcases hvW nv na
      generalize x.names[m] = t at *
      have hidx : IntKind.i64.wrap ((m : Int) - 1) = (m : Int) - 1 := by rw [IntKind.wrap_i64]; omega
      have hmm : 0 < m → (m : Int) - 1 = ((m - 1 : Nat) : Int) := by omega
      have hend : Below w.heap.size w wr := bstep HB.out hb
      obtain ⟨hw3, hw45, hw6⟩ := hwant
      have hk := HKQ.out
      obtain ⟨b2, o2, rfl, hl2, e2⟩ := hw45 (.inr hk)
      have g3 : (x.kind == 3) = false := by simp [hk]
      have g6 : (x.kind == 6) = false := by simp [hk]
      have g5 : (x.kind == 5) = true := by simp [hk]
      have hl2' : (m : Int) < (x.items.length : Int) := by omega
      have hor : x.kind = 3 ∨ x.kind = 5 := by omega
      clear hw3 hw45 hw6 hk
      rcases hprev with h00 | ⟨h0, t', e3, hlt'⟩
      · subst h00
        clear hmm hidx hor
        simp only [Nat.add_zero, Int.natCast_zero] at e0 e2 hi hl2' ⊢
        go_wp2_with fail
        go_quiet (fail)
        go_wp2_with fail
        exact ⟨⟨1, by go_num, by omega, below_drewN hb _⟩, by simp [intOf]; omega⟩
      · have hbl : Op.bytesLess t'.toList t.toList = true := hlt' hor
        have hm1 := hmm h0
        clear hlt' hor hmm
        go_wp2_with fail
        go_quiet (fail)
        go_wp2_with fail
        exact ⟨⟨m + 1, by go_num, by omega, below_drewN hb _⟩, by simp [intOf]; omega⟩
    · have hge : ¬ (m : Int) < (x.names.length : Int) := by omega
      go_wp2_with fail
      go_ret
      exact ⟨rfl, bstep HB.out hb⟩

set_option maxHeartbeats 8000000 in
theorem walk3 (kind : Int) (s : Value) (l : List Raw) (w : World) (bk : -9223372036854775808 ≤ kind ∧ kind ≤ 9223372036854775807) (hl : RawsAt w s l) (hz : l.length * 48 ≤ reachBytes) (h4 : pickedN kind 4 = 3) :
    Calls Tryz.prog 15 #[.int .i64 kind, s] w fun e w' => e = .returned (.bool true) ∧ Below w.heap.size w w' := by
  have p4 := fun W => picked_any kind 4 W bk.1 bk.2 (by omega) (by omega)
  have l4 := pickedN_lt kind (show 0 < 4 by omega)
  generalize pickedN kind 4 = q at p4 l4 h4
  have hF := full_any (2 + (q : Int)) s l w (by omega) hl hz
  have hq : pickedN (2 + (q : Int)) 6 = 2 + q := by
    have := picked_self (2 + q) 6 (by omega)
    rw [show ((2 + q : Nat) : Int) = 2 + (q : Int) by omega] at this; exact this
  rw [hq] at hF
  obtain ⟨hok, hkd⟩ := fullFor_ok (2 + q) (by omega) l
  generalize fullFor (2 + q) l = x at hF hok hkd
  have h3 : 3 ≤ x.kind := by omega
  have hkq : x.kind = 6 := by omega
  have HKQ : Hid (x.kind = 6) := hkq
  clear hkq h4
  have A2 : Hid (Acts x allC x { list := x.names } 0) := all_acts hok h3
  have hone := hok.one h3
  have hnl := names_length x
  have hn0 : 0 < x.names.length := by omega
  have hn20 := hok.size
  have HR : Hid (∀ m (hm : m + 1 < x.names.length), (x.kind = 3 ∨ x.kind = 5) → ltS (x.names[m]'(by omega)) x.names[m + 1] = true) := fun m hm hk => rise_names hok hk m hm
  have HC : Hid ((x.kind = 3 ∧ x.names = x.pairs.map (·.1)) ∨ ((x.kind = 4 ∨ x.kind = 5) ∧ x.names = x.items) ∨ (x.kind = 6 ∧ x.names = x.scores.map (·.1))) := by
    rcases hok.cases with ⟨t, -, rfl⟩ | ⟨n, -, rfl⟩ | ⟨l, -, -, -, -, rfl⟩ | ⟨l, -, -, -, rfl⟩ | ⟨l, -, -, -, -, rfl⟩ | ⟨l, -, -, -, -, -, -, rfl⟩
    · simp at h3
    · simp at h3
    · exact .inl ⟨rfl, by simp [Val.names]⟩
    · exact .inr (.inl ⟨.inl rfl, by simp [Val.names]⟩)
    · exact .inr (.inl ⟨.inr rfl, by simp [Val.names]⟩)
    · exact .inr (.inr ⟨rfl, by simp [Val.names]⟩)
  have HF : Hid (Calls Tryz.prog 22 #[.int .i64 (2 + (q : Int)), s] w fun e w' => ∃ v, e = .returned v ∧ RepsF w.heap.size w' v x ∧ Below w.heap.size w w') := hF
  have P4 : Hid (∀ W, Calls Tryz.prog 28 #[.int .i64 kind, .int .i64 4] W fun e w' => e = .returned (.int .i64 (q : Nat)) ∧ W = w') := p4
  have hN20 : x.names.length ≤ 20 := by omega
  clear hF p4 hok hkd h3 hl hz hq hnl hone hn20 bk
  go_enter Tryz.func15, Tryz.ntmps15
  go_wp2_with fail
  refine (P4.out _).mono ?_
  rintro e w0 ⟨rfl, rfl⟩
  go_wp2_with fail
  refine HF.out.mono ?_
  rintro e w1 ⟨v, rfl, hr, hB⟩
  clear HF P4
  obtain ⟨ps, is, ss, rfl, hv, -⟩ := hr
  obtain ⟨pa, pc, ia, ic, sa, sc, rfl, rfl, rfl, -⟩ := hv.lens
  go_wp2_with fail
  have nv := alloc_at w1 (valO x.kind x.text x.count (.slice pa x.pairs.length pc) (.slice ia x.items.length ic) (.slice sa x.scores.length sc))
  have hbx := balloc w1 (valO x.kind x.text x.count (.slice pa x.pairs.length pc) (.slice ia x.items.length ic) (.slice sa x.scores.length sc))
  replace hv := hv.below hbx
  replace hB := hB.alloc hB.size (valO x.kind x.text x.count (.slice pa x.pairs.length pc) (.slice ia x.items.length ic) (.slice sa x.scores.length sc))
  clear hbx
  generalize w1.alloc (valO x.kind x.text x.count (.slice pa x.pairs.length pc) (.slice ia x.items.length ic) (.slice sa x.scores.length sc)) = V1 at nv hv hB ⊢
  generalize w1.heap.size = bv at nv ⊢
  refine (A2.out _ _ _ _ hv).mono ?_
  rintro e w2 ⟨pa2, pc2, ia2, ic2, sa2, sc2, la2, lc2, rfl, -, hn, hb2⟩
  replace nv := (hb2.block _ (lt_at nv)).trans nv
  replace hv := hv.below hb2
  replace hB := bstep hB hb2
  clear hb2
  have hlv := lt_at nv
  go_wp2_with fail
  clear hlv
  obtain ⟨nw, na⟩ := two_new w2 (valO x.kind x.text x.count (.slice pa2 x.pairs.length pc2) (.slice ia2 x.items.length ic2) (.slice sa2 x.scores.length sc2)) (repO 0 ⟨#[]⟩ 0 (.slice la2 x.names.length lc2))
  have hbx : Below w2.heap.size w2 ((w2.alloc (valO x.kind x.text x.count (.slice pa2 x.pairs.length pc2) (.slice ia2 x.items.length ic2) (.slice sa2 x.scores.length sc2))).alloc (repO 0 ⟨#[]⟩ 0 (.slice la2 x.names.length lc2))) := (balloc _ _).alloc (by simp) _
  replace nv := (hbx.block _ (lt_at nv)).trans nv
  replace hv := hv.below hbx
  replace hn := hn.below hbx
  replace hB := bstep hB hbx
  clear hbx
  generalize (w2.alloc (valO x.kind x.text x.count (.slice pa2 x.pairs.length pc2) (.slice ia2 x.items.length ic2) (.slice sa2 x.scores.length sc2))).alloc (repO 0 ⟨#[]⟩ 0 (.slice la2 x.names.length lc2)) = V2 at nw na nv hv hn hB ⊢
  generalize w2.heap.size = bw at nw na ⊢
  obtain ⟨-, gb, go, rfl, hgb, hnc⟩ := rowI_cell hn 0 hn0
  have HB : Hid (Below w.heap.size w V2) := hB
  have HV : Hid (Lists V2 (.slice pa x.pairs.length pc) (.slice ia x.items.length ic) (.slice sa x.scores.length sc) x) := hv
  have HNC : Hid (∀ k (hk : k < x.names.length), V2.cell? ⟨gb, go + k, none⟩ = some (.string x.names[k])) := hnc
  have HNV : Hid (V2.heap[bv]? = some (valO x.kind x.text x.count (.slice pa x.pairs.length pc) (.slice ia x.items.length ic) (.slice sa x.scores.length sc))) := nv
  have HNA : Hid (V2.heap[bw + 1]? = some (repO 0 ⟨#[]⟩ 0 (.slice (some ⟨gb, go, none⟩) x.names.length lc2))) := na
  clear hB hv hnc hn nw
  obtain ⟨c1, f1⟩ := cellsB na
  go_wp2_with fail
  clear c1 f1
  go_loopw [9] (fun c wr => ∃ m : Nat, c = .int .i64 (m : Int) ∧ m ≤ x.names.length ∧ Below V2.heap.size V2 wr) (fun c _ => x.names.length - (intOf c).toNat)
  case atStart => exact ⟨0, rfl, by omega, Below.refl _ _⟩
  case round =>
    clear nv na
    obtain ⟨m, rfl, hm, hb⟩ := hrel
    have nv := (hb.block _ (lt_at HNV.out)).trans HNV.out
    have na := (hb.block _ (lt_at HNA.out)).trans HNA.out
    obtain ⟨c1, f1⟩ := cellsB na
    by_cases hlt : m < x.names.length
    · have hi : (m : Int) < (x.names.length : Int) := by omega
      obtain ⟨c2, f2⟩ := cellsB nv
      have e0 := (hb.cell (p := ⟨gb, go + m, none⟩) hgb).trans (HNC.out m hlt)
      have hvW := HV.out.below hb
      have hcases : (x.kind = 3 ∧ x.names = x.pairs.map (·.1)) ∨ (x.kind = 4 ∧ x.names = x.items) ∨ (x.kind = 5 ∧ x.names = x.items) ∨ (x.kind = 6 ∧ x.names = x.scores.map (·.1)) := by
        rcases HC.out with h | ⟨h | h, e⟩ | h
        · exact .inl h
        · exact .inr (.inl ⟨h, e⟩)
        · exact .inr (.inr (.inl ⟨h, e⟩))
        · exact .inr (.inr (.inr h))
      have hwant : (x.kind = 3 → ∃ b off, pa = some ⟨b, off, none⟩ ∧ m < x.pairs.length ∧ wr.cell? ⟨b, off + m * 2, none⟩ = some (.string x.names[m])) ∧ ((x.kind = 4 ∨ x.kind = 5) → ∃ b off, ia = some ⟨b, off, none⟩ ∧ m < x.items.length ∧ wr.cell? ⟨b, off + m, none⟩ = some (.string x.names[m])) ∧ (x.kind = 6 → ∃ b off, sa = some ⟨b, off, none⟩ ∧ m < x.scores.length ∧ wr.cell? ⟨b, off + m * 2, none⟩ = some (.string x.names[m])) := by
        rcases hcases with ⟨hk, hnm⟩ | ⟨hk, hnm⟩ | ⟨hk, hnm⟩ | ⟨hk, hnm⟩
        · refine ⟨fun _ => ?_, fun h => by omega, fun h => by omega⟩
          have hm' : m < x.pairs.length := by rw [hnm] at hlt; simpa using hlt
          obtain ⟨b, off, e1, -, e2⟩ := row2_cell (fun p => rfl) hvW.p m hm'
          exact ⟨b, off, e1, hm', by rw [e2]; simp [hnm]⟩
        · refine ⟨fun h => by omega, fun _ => ?_, fun h => by omega⟩
          have hm' : m < x.items.length := by rw [hnm] at hlt; exact hlt
          obtain ⟨-, b, off, e1, -, e2⟩ := rowI_cell hvW.i m hm'
          exact ⟨b, off, e1, hm', by rw [e2 m hm']; simp [hnm]⟩
        · refine ⟨fun h => by omega, fun _ => ?_, fun h => by omega⟩
          have hm' : m < x.items.length := by rw [hnm] at hlt; exact hlt
          obtain ⟨-, b, off, e1, -, e2⟩ := rowI_cell hvW.i m hm'
          exact ⟨b, off, e1, hm', by rw [e2 m hm']; simp [hnm]⟩
        · refine ⟨fun h => by omega, fun h => by omega, fun _ => ?_⟩
          have hm' : m < x.scores.length := by rw [hnm] at hlt; simpa using hlt
          obtain ⟨b, off, e1, -, e2⟩ := row2_cell (fun p => rfl) hvW.s m hm'
          exact ⟨b, off, e1, hm', by rw [e2]; simp [hnm]⟩
      have hprev : m = 0 ∨ (0 < m ∧ ∃ t, wr.cell? ⟨gb, go + (m - 1), none⟩ = some (.string t) ∧ ((x.kind = 3 ∨ x.kind = 5) → ltS t x.names[m] = true)) := by
        by_cases h0 : m = 0
        · exact .inl h0
        · refine .inr ⟨by omega, x.names[m - 1], (hb.cell (p := ⟨gb, go + (m - 1), none⟩) hgb).trans (HNC.out (m - 1) (by omega)), fun hk => ?_⟩
          have := HR.out (m - 1) (by omega) hk
          simpa [show m - 1 + 1 = m by omega] using this
      have hk4 : x.kind = 3 ∨ x.kind = 4 ∨ x.kind = 5 ∨ x.kind = 6 := by rcases hcases with h | h | h | h <;> simp [h.1]
      clear hcases hvW nv na
      generalize x.names[m] = t at *
      have hidx : IntKind.i64.wrap ((m : Int) - 1) = (m : Int) - 1 := by rw [IntKind.wrap_i64]; omega
      have hmm : 0 < m → (m : Int) - 1 = ((m - 1 : Nat) : Int) := by omega
      have hend : Below w.heap.size w wr := bstep HB.out hb
      obtain ⟨hw3, hw45, hw6⟩ := hwant
      have hk := HKQ.out
      obtain ⟨b2, o2, rfl, hl2, e2⟩ := hw6 hk
      have g3 : (x.kind == 3) = false := by simp [hk]
      have g6 : (x.kind == 6) = true := by simp [hk]
      have g5 : (x.kind == 5) = false := by simp [hk]
      have hl2' : (m : Int) < (x.scores.length : Int) := by omega
      clear hw3 hw45 hw6 hk
      clear hprev hmm hidx
      go_wp2_with fail
      go_quiet (fail)
      go_wp2_with fail
      exact ⟨⟨m + 1, by go_num, by omega, below_drewN hb _⟩, by simp [intOf]; omega⟩
    · have hge : ¬ (m : Int) < (x.names.length : Int) := by omega
      go_wp2_with fail
      go_ret
      exact ⟨rfl, bstep HB.out hb⟩

theorem walk (v0 v1 : Value) (w : World) (h0 : IsInt v0) (h1 : IsRaws w v1) :
    Calls Tryz.prog 15 #[v0, v1] w fun e w' => e = .returned (.bool true) ∧ Below w.heap.size w w' := by
  obtain ⟨k, rfl, c1, c2⟩ := h0
  obtain ⟨l, hl, hz⟩ := h1
  have h4 := pickedN_lt k (show 0 < 4 by omega)
  have : pickedN k 4 = 0 ∨ pickedN k 4 = 1 ∨ pickedN k 4 = 2 ∨ pickedN k 4 = 3 := by omega
  rcases this with h | h | h | h
  · exact walk0 k v1 l w ⟨c1, c2⟩ hl hz h
  · exact walk1 k v1 l w ⟨c1, c2⟩ hl hz h
  · exact walk2 k v1 l w ⟨c1, c2⟩ hl hz h
  · exact walk3 k v1 l w ⟨c1, c2⟩ hl hz h

theorem own : ownKnob Tryz.prog.godebug = none := by kernel_rfl
theorem laidOut : laidOutB Tryz.prog = true := by kernel_rfl

set_option maxRecDepth 100000 in
theorem lifted (os : Os) (started : os.Started) (H : Type) (enc : TypeId × Value → H) :
    ReturnsInHanded {} Tryz.checked os 15 .any (Rows.allOrderSpec.pre6 enc Tryz.prog Tryz.f15 Rows.allOrderRow.domain false) (Rows.allOrderSpec.post enc Tryz.prog Tryz.f15 false true false false) := by
  refine returnsInHanded_of_change_sized (C := Tryz.checked) own started (by kernel_rfl) Tryz.func15
    (ChangeSpec.witness6 (enc := enc) (C := Tryz.checked) false ⟨#[], #[.int .i64 0, .slice none 0 0], []⟩ 8 (by kernel_rfl) (by kernel_rfl) (by kernel_rfl) (by kernel_rfl)) ?_
  intro W base args ds gs before hval0 hW hcnd hsz _
  have hval : ∀ (j : Nat) t v, Tryz.f15.params[j]? = some t → args[j]? = some v → Value.okWide Tryz.prog W .any base t v := hval0
  have hW' := hW
  obtain ⟨p, q, hA0, hV, rfl, hfz, hnd⟩ := hW
  have hA : DataW.TrodAll enc Tryz.prog W 0 (fun _ => true) true Tryz.f15.params.toList args.toList ds p := hA0
  rw [Tryz.params15] at hA hval
  obtain ⟨v0, vs0, d0, ds0, p0, q0, hargs, rfl, rfl, h0, r0⟩ := trodAll_cons hA
  obtain ⟨v1, vs1, d1, ds1, p1, q1, rfl, rfl, rfl, h1, r1⟩ := trodAll_cons r0
  obtain ⟨rfl, rfl, rfl⟩ := trodAll_nil r1
  obtain rfl : args = #[v0, v1] := by cases args; simp_all
  obtain ⟨rfl, rfl⟩ := trodVars_none hV
  have lt0 : ∀ x ∈ p0, x.block < W.heap.size := by obtain ⟨m, hm⟩ := h0; exact DataW.trod_lt m _ _ _ hm
  have g0 := shape_int (hval 0 3 v0 rfl rfl) h0
  have lt1 : ∀ x ∈ p1, x.block < W.heap.size := by obtain ⟨m, hm⟩ := h1; exact DataW.trod_lt m _ _ _ hm
  have g1 := shape_raws (hval 1 38 v1 rfl rfl) h1 (fun n hn => of_decide_eq_true (List.all_eq_true.1 hsz n (DataW.weights_mem_each (j := 1) rfl rfl n hn)))
  clear hA0 hval0
  refine (walk v0 v1 W g0 g1).mono fun e W' ⟨he, bel⟩ => ?_
  subst he
  exact ⟨_, rfl, _, _, _, [], _, [], hW', trodAll_mk1 (shut_bool Tryz.underlying4 _), (trodAll_cons_mk (Below.trod laidOut (by kernel_rfl) (of_decide_eq_true (by kernel_rfl)) h0 bel lt0) (trodAll_cons_mk (Below.trod laidOut (by kernel_rfl) (of_decide_eq_true (by kernel_rfl)) h1 bel lt1) trodAll_mk0)), rfl, bel.frame _, fun h => by cases h⟩

theorem over : Rows.allOrderRow.holds Tryz.pinned (OpenSpec.ofChange Rows.allOrderSpec) :=
  OpenClaim.holds_of_wide 15 Tryz.f15 rfl rfl rfl rfl rfl rfl rfl ⟨rfl, rfl, rfl, rfl, rfl⟩ rfl rfl rfl rfl rfl (by kernel_rfl) Tryz.func15 (by kernel_rfl)
    (of_decide_eq_true (by kernel_rfl)) (by unfold Func.isWrapper; first | (rw [if_pos (by decide +kernel)]; kernel_rfl) | (rw [if_neg (by decide +kernel)]; exact ⟨rfl, rfl⟩))
    (fun os started H enc _ => lifted os started H enc)

end Go.Proofs.YtndadgjidihfeaaGreat.allOrderDone
namespace Go.Proofs.YtndadgjidihfeaaGreat
theorem AllOrder_holds : Rows.AllOrderSaid := allOrderDone.over
end Go.Proofs.YtndadgjidihfeaaGreat
