/- The walk of AddSum: the loop, and the way out of it. -/
import Derived.Test.YtlfmpgemanbpeaaGreatKb
import Derived.Test.YtlfmpgemanbpeaaGreatOi
import Derived.Deep.DeepCutAuto
import Derived.Deep.RegionHeld3
namespace Go.Proofs.YtlfmpgemanbpeaaGreat.addSumDone
open Go.ChangeShapes Go.WideShapes Go.ChangeAt Go.RowKit
open Go.Proofs.YtlfmpgemanbpeaaGreat
set_option linter.unusedVariables false
set_option maxRecDepth 100000

/-- A value without elements or text. -/
def vs (kind count : Int) : Val := ⟨kind, ⟨#[]⟩, count, [], [], []⟩
/-- What the loop's value may be. -/
def St (kind sum : Int) : Prop := (kind = 0 ∧ sum = 0) ∨ (kind = 2 ∧ -1099511627776 ≤ sum ∧ sum ≤ 1099511627776)

theorem isCountB_of {n : Int} (h1 : -1099511627776 ≤ n) (h2 : n ≤ 1099511627776) : isCountB n = true := by simp [isCountB]; omega

/-- What a call of Do with an adding command comes to, all written out. -/
def Adds (kind sum k m code rn : Int) : Prop := ∀ (W : World) (v : Value), Reps W v (vs kind sum) → Calls Tryz.prog 20 #[v, cmdV 3 ⟨#[107]⟩ ⟨#[]⟩ ⟨#[]⟩ k] W fun e w' =>
  ∃ pa pc ia ic sa sc la lc, e = .returned (.tuple #[valV 2 ⟨#[]⟩ m (.slice pa 0 pc) (.slice ia 0 ic) (.slice sa 0 sc), repV code ⟨#[]⟩ rn (.slice la 0 lc), .int .i64 0]) ∧
    Reps w' (valV 2 ⟨#[]⟩ m (.slice pa 0 pc) (.slice ia 0 ic) (.slice sa 0 sc)) (vs 2 m) ∧ Below W.heap.size W w'

theorem adds_of {kind sum k m code rn : Int} (h : DoOk (vs kind sum) (cmdAdd k) (cnt m) { code := code, n := rn } 0) : Adds kind sum k m code rn := by
  intro W v hr
  refine (h W v hr).mono ?_
  rintro e w' ⟨v', u, rfl, hr', hu', hb⟩
  obtain ⟨pa, pc, ia, ic, sa, sc, rfl⟩ := hr'.reps.shapes
  obtain ⟨la, lc, rfl⟩ := hu'.rep.shapes
  exact ⟨pa, pc, ia, ic, sa, sc, la, lc, rfl, hr'.reps, hb⟩

theorem adds_fit {kind sum k : Int} (h : St kind sum) (k1 : -1099511627776 ≤ k) (k2 : k ≤ 1099511627776) (h1 : -1099511627776 ≤ sum + k) (h2 : sum + k ≤ 1099511627776) : Adds kind sum k (sum + k) 0 (sum + k) := by
  rcases h with ⟨rfl, rfl⟩ | ⟨rfl, s1, s2⟩
  · have := do_add_none k (isCountB_of k1 k2)
    rw [Int.zero_add]
    exact adds_of this
  · exact adds_of (do_add_cnt sum k (isCountB_of s1 s2) (isCountB_of k1 k2) (isCountB_of h1 h2))
theorem adds_over {kind sum k : Int} (h : St kind sum) (k1 : -1099511627776 ≤ k) (k2 : k ≤ 1099511627776) (h1 : sum + k < -1099511627776 ∨ 1099511627776 < sum + k) : kind = 2 ∧ Adds kind sum k sum 7 0 := by
  rcases h with ⟨rfl, rfl⟩ | ⟨rfl, s1, s2⟩
  · omega
  · exact ⟨rfl, adds_of (do_add_over sum k (isCountB_of s1 s2) (isCountB_of k1 k2) (by simp [isCountB]; omega))⟩

theorem row_grow {α : Type} {k : Nat} {enc : α → List Value} {w w' : World} {s : Value} (h : RowAt k enc w s ([] : List α)) (hs : w.heap.size ≤ w'.heap.size) : RowAt k enc w' s ([] : List α) := by
  obtain ⟨hl, a, cap, hs', h1, h2, h3⟩ := h
  refine ⟨hl, a, cap, hs', h1, h2, ?_⟩
  rcases h3 with h3 | ⟨b, off, ha, hbk, hc⟩
  · exact .inl h3
  · exact .inr ⟨b, off, ha, by omega, fun i hi => absurd hi (Nat.not_lt_zero i)⟩
theorem reps_grow {w w' : World} {v : Value} {kind sum : Int} (h : Reps w v (vs kind sum)) (hs : w.heap.size ≤ w'.heap.size) : Reps w' v (vs kind sum) := by
  obtain ⟨ps, is, ss, hv, hl⟩ := h
  exact ⟨ps, is, ss, hv, row_grow hl.p hs, row_grow hl.i hs, row_grow hl.s hs⟩

theorem setCell_same {w : World} {g o : Nat} {cs : Array Value} {t : TypeId} (v : Value) (h : w.heap[g]? = some (.cells cs t (0, 0))) : (w.setCell ⟨g, o, none⟩ v).heap[g]? = some (.cells (cs.setIfInBounds o v) t (0, 0)) := by
  rw [setCell_eq_setRow w g o cs t (0, 0) v h]
  exact setRow_heap w g cs _ t _ h

abbrev addedW (w1 : World) (g : Nat) (kind : Int) (text : ByteArray) (count : Int) (ps is ss : Value) (o1 o2 : Obj) : World :=
  (((((((w1.setCell ⟨g, 0, none⟩ (.int .i64 kind)).setCell ⟨g, 1, none⟩ (.string text)).setCell ⟨g, 2, none⟩ (.int .i64 count)).setCell ⟨g, 3, none⟩ ps).setCell ⟨g, 4, none⟩ is).setCell ⟨g, 5, none⟩ ss).alloc o1).alloc o2
theorem size_set (w : World) (a : Addr) (v : Value) : (w.setCell a v).heap.size = w.heap.size := by simp [World.setCell]
theorem added_block {w1 : World} {g : Nat} {kind kind' : Int} {text text' : ByteArray} {count count' : Int} {ps is ss ps' is' ss' : Value} {o1 o2 : Obj} (h : w1.heap[g]? = some (valO kind' text' count' ps' is' ss')) (hl : g < w1.heap.size) :
    (addedW w1 g kind text count ps is ss o1 o2).heap[g]? = some (valO kind text count ps is ss) := by
  rw [Below.heap_alloc _ _ _ (by simp; omega), Below.heap_alloc _ _ _ (by simp; omega)]
  exact setCell_same (o := 5) ss (setCell_same (o := 4) is (setCell_same (o := 3) ps (setCell_same (o := 2) (.int .i64 count) (setCell_same (o := 1) (.string text) (setCell_same (o := 0) (.int .i64 kind) h)))))
theorem added_below {w w1 : World} {kind : Int} {text : ByteArray} {count : Int} {ps is ss : Value} {o1 o2 : Obj} (h : Below w.heap.size w w1) : Below w.heap.size w (addedW w1 w.heap.size kind text count ps is ss o1 o2) := by
  have hs := h.size
  exact ((((((((h.setCell (by simp) _).setCell (by simp) _).setCell (by simp) _).setCell (by simp) _).setCell (by simp) _).setCell (by simp) _).alloc (by simp; omega) _).alloc (by simp; omega) _)

theorem below_of_drew {w w' : World} (h : Below w.drew.heap.size w.drew w') : Below w.heap.size w w' := bstep (Below.refl _ _).drew h

theorem Hid.in {p : Prop} (h : p) : Hid p := h

theorem size_d1 (w : World) (o : Obj) : w.heap.size ≤ (w.alloc o).drew.heap.size := by simp [World.drew]
theorem size_d2 (w : World) (o o' : Obj) : w.heap.size ≤ ((w.alloc o).alloc o').drew.heap.size := by simp [World.drew]; omega

theorem fresh1 {W w2 : World} {cs : Array Value} {t : TypeId} (hb : Below (W.alloc (.cells cs t (0, 0))).drew.heap.size (W.alloc (.cells cs t (0, 0))).drew w2) :
    (∀ o, w2.cell? ⟨W.heap.size, o, none⟩ = cs[o]?) ∧ (∀ o, w2.frozen? ⟨W.heap.size, o, none⟩ = false) :=
  block_cells ((hb.block W.heap.size (by simp [World.drew])).trans (show (W.alloc (.cells cs t (0, 0))).drew.heap[W.heap.size]? = some (.cells cs t (0, 0)) by show ((_ : Array Obj).push _)[_]? = _; simp))
theorem fresh2 {W w2 : World} {cs cs' : Array Value} {t t' : TypeId} (hb : Below ((W.alloc (.cells cs t (0, 0))).alloc (.cells cs' t' (0, 0))).drew.heap.size ((W.alloc (.cells cs t (0, 0))).alloc (.cells cs' t' (0, 0))).drew w2) :
    ((∀ o, w2.cell? ⟨W.heap.size, o, none⟩ = cs[o]?) ∧ (∀ o, w2.frozen? ⟨W.heap.size, o, none⟩ = false)) ∧ ((∀ o, w2.cell? ⟨W.heap.size + 1, o, none⟩ = cs'[o]?) ∧ (∀ o, w2.frozen? ⟨W.heap.size + 1, o, none⟩ = false)) :=
  ⟨block_cells ((hb.block W.heap.size (by simp [World.drew]; omega)).trans (two_new W _ _).1), block_cells ((hb.block (W.heap.size + 1) (by simp [World.drew])).trans (two_new W _ _).2)⟩

theorem size_g1 {W w2 : World} {o : Obj} (hb : Below (W.alloc o).drew.heap.size (W.alloc o).drew w2) : W.heap.size < w2.heap.size := by
  have := hb.size
  simp [World.drew] at this
  omega
theorem size_g2 {W w2 : World} {o o' : Obj} (hb : Below ((W.alloc o).alloc o').drew.heap.size ((W.alloc o).alloc o').drew w2) : W.heap.size + 1 < w2.heap.size := by
  have := hb.size
  simp [World.drew] at this
  omega

theorem reps_none (W : World) : Reps W (valV 0 ⟨#[]⟩ 0 (.slice none 0 0) (.slice none 0 0) (.slice none 0 0)) (vs 0 0) := ⟨_, _, _, rfl, Lists.empty W 0⟩

set_option maxHeartbeats 8000000 in
theorem walk0 (a : Option Addr) (len cap : Nat) (n : Int) (w : World) (hcap : len ≤ cap) (hmax : cap ≤ 9223372036854775807)
    (hrow : len = 0 ∨ ∃ b off, a = some ⟨b, off, none⟩ ∧ b < w.heap.size ∧ ∀ i, i < len → ∃ z, w.cell? ⟨b, off + i, none⟩ = some (.int .i64 z) ∧ -9223372036854775808 ≤ z ∧ z ≤ 9223372036854775807)
    (bn : -9223372036854775808 ≤ n ∧ n ≤ 9223372036854775807) :
    Calls Tryz.prog 5 #[.slice a len cap, .int .i64 n] w fun e w' => e = .returned (.bool true) ∧ Below w.heap.size w w' := by
  have p99 := fun W => picked_any n 99 W bn.1 bn.2 (by omega) (by omega)
  have l99 := pickedN_lt n (show 0 < 99 by omega)
  generalize pickedN n 99 = q at p99 l99
  have P : Hid (∀ W, Calls Tryz.prog 24 #[.int .i64 n, .int .i64 99] W fun e w' => e = .returned (.int .i64 (q : Nat)) ∧ W = w') := p99
  clear p99
  go_enter Tryz.func5, Tryz.ntmps5
  go_wp2_with fail
  go_loopw [6, 7] (fun sv iv wr => ∃ (m : Nat) (sum kind : Int) (pa : Option Addr) (pc : Nat) (ia : Option Addr) (ic : Nat) (sa : Option Addr) (sc : Nat), iv = .int .i64 (m : Int) ∧ sv = .int .i64 sum ∧ m ≤ len ∧ m ≤ 20 ∧ St kind sum ∧
      wr.heap[w.heap.size]? = some (valO kind ⟨#[]⟩ sum (.slice pa 0 pc) (.slice ia 0 ic) (.slice sa 0 sc)) ∧ Reps wr (valV kind ⟨#[]⟩ sum (.slice pa 0 pc) (.slice ia 0 ic) (.slice sa 0 sc)) (vs kind sum) ∧ Below w.heap.size w wr)
    (fun _ c _ => 20 - (intOf c).toNat)
  case atStart =>
    exact ⟨0, 0, 0, none, 0, none, 0, none, 0, rfl, rfl, by omega, by omega, .inl ⟨rfl, rfl⟩, by show ((_ : Array Obj).push _)[_]? = _; simp, reps_none _, balloc _ _⟩
  case round =>
    obtain ⟨m, sum, kind, pa, pc, ia, ic, sa, sc, rfl, rfl, hm, hm20, hst, hblk, hrep, hb⟩ := hrel
    by_cases hlt : m < len ∧ m < 20
    · obtain ⟨hl1, hl2⟩ := hlt
      rcases hrow with h0 | ⟨b, off, rfl, hbk, hc⟩
      · omega
      · obtain ⟨z, cz, z1, z2⟩ := hc m hl1
        have cz' := (hb.cell (p := ⟨b, off + m, none⟩) hbk).trans cz
        obtain ⟨hv, hvf⟩ := block_cells hblk
        have hwsz := hb.size
        have hwz : w.heap.size < wr.heap.size := by
          have := (Array.getElem?_eq_some_iff.1 hblk).1
          exact this
        have bk : -549755813888 ≤ z.tmod 549755813888 ∧ z.tmod 549755813888 ≤ 549755813888 := by have := Int.natAbs_tmod z 549755813888; have := Nat.mod_lt z.natAbs (show 0 < (549755813888 : Int).natAbs by decide); omega
        have hq : IntKind.i64.wrap (z.tmod 549755813888) = z.tmod 549755813888 := by rw [IntKind.wrap_i64]; omega
        have hi : (m : Int) < (len : Int) := by omega
        have hi2 : (m : Int) < 20 := by omega
        have bs : -1099511627776 ≤ sum ∧ sum ≤ 1099511627776 := by rcases hst with ⟨-, rfl⟩ | ⟨-, h1, h2⟩ <;> omega
        clear hc cz
        have hws : IntKind.i64.wrap (sum + z.tmod 549755813888) = sum + z.tmod 549755813888 := by rw [IntKind.wrap_i64]; omega
        by_cases hfit : -1099511627776 ≤ sum + z.tmod 549755813888 ∧ sum + z.tmod 549755813888 ≤ 1099511627776
        · obtain ⟨f1, f2⟩ := hfit
          have D := adds_fit hst (by omega) (by omega) f1 f2
          have g1 : decide (1099511627776 < sum + z.tmod 549755813888) = false := by rw [decide_eq_false_iff_not]; omega
          have g2 : decide (sum + z.tmod 549755813888 < -1099511627776) = false := by rw [decide_eq_false_iff_not]; omega
          clear bk bs
          go_wp2_with fail
          refine (D _ _ hrep).mono ?_
          rintro e w1 ⟨pa', pc', ia', ic', sa', sc', la, lc, rfl, hr1, hb1⟩
          have sz1 := hb1.size
          have hblk1 := (hb1.block _ hwz).trans hblk
          clear hv hvf hblk cz' D
          obtain ⟨hv1, hvf1⟩ := block_cells hblk1
          have l5 : w.heap.size < w1.heap.size := by omega
          go_wp2_with fail
          refine ⟨⟨m + 1, sum + z.tmod 549755813888, 2, pa', pc', ia', ic', sa', sc', by go_num, rfl, by omega, by omega, .inr ⟨rfl, f1, f2⟩, ?_, ?_, ?_⟩, by simp [intOf]; omega⟩
          · exact added_block hblk1 l5
          · exact reps_grow hr1 (by simp <;> omega)
          · exact added_below (bstep hb hb1)
        · by_cases hhi : 1099511627776 < sum + z.tmod 549755813888
          · obtain ⟨rfl, D⟩ := adds_over hst (k := z.tmod 549755813888) (by omega) (by omega) (.inr hhi)
            have g1 : decide (1099511627776 < sum + z.tmod 549755813888) = true := by rw [decide_eq_true_eq]; exact hhi
            clear bk hfit hhi
            go_wp2_with fail
            refine (D _ _ hrep).mono ?_
            rintro e w1 ⟨pa', pc', ia', ic', sa', sc', la, lc, rfl, hr1, hb1⟩
            have sz1 := hb1.size
            have hblk1 := (hb1.block _ hwz).trans hblk
            clear hv hvf hblk cz' D
            obtain ⟨hv1, hvf1⟩ := block_cells hblk1
            have l5 : w.heap.size < w1.heap.size := by omega
            go_wp2_with fail
            refine ⟨⟨m + 1, sum, 2, pa', pc', ia', ic', sa', sc', by go_num, rfl, by omega, by omega, .inr ⟨rfl, bs.1, bs.2⟩, ?_, ?_, ?_⟩, by simp [intOf]; omega⟩
            · exact added_block hblk1 l5
            · exact reps_grow hr1 (by simp <;> omega)
            · exact added_below (bstep hb hb1)
          · have hlo : sum + z.tmod 549755813888 < -1099511627776 := by omega
            obtain ⟨rfl, D⟩ := adds_over hst (k := z.tmod 549755813888) (by omega) (by omega) (.inl hlo)
            have g1 : decide (1099511627776 < sum + z.tmod 549755813888) = false := by rw [decide_eq_false_iff_not]; exact hhi
            have g2 : decide (sum + z.tmod 549755813888 < -1099511627776) = true := by rw [decide_eq_true_eq]; exact hlo
            clear bk hfit hhi hlo
            go_wp2_with fail
            refine (D _ _ hrep).mono ?_
            rintro e w1 ⟨pa', pc', ia', ic', sa', sc', la, lc, rfl, hr1, hb1⟩
            have sz1 := hb1.size
            have hblk1 := (hb1.block _ hwz).trans hblk
            clear hv hvf hblk cz' D
            obtain ⟨hv1, hvf1⟩ := block_cells hblk1
            have l5 : w.heap.size < w1.heap.size := by omega
            go_wp2_with fail
            refine ⟨⟨m + 1, sum, 2, pa', pc', ia', ic', sa', sc', by go_num, rfl, by omega, by omega, .inr ⟨rfl, bs.1, bs.2⟩, ?_, ?_, ?_⟩, by simp [intOf]; omega⟩
            · exact added_block hblk1 l5
            · exact reps_grow hr1 (by simp <;> omega)
            · exact added_below (bstep hb hb1)
    · have D1 : Adds 0 0 1099511627776 1099511627776 0 1099511627776 := adds_of (do_add_none 1099511627776 (by decide))
      have D2 : Adds 2 1099511627776 (1 + (q : Int)) 1099511627776 7 0 := (adds_over (.inr ⟨rfl, by omega, by omega⟩) (by omega) (by omega) (.inr (by omega))).2
      have hwq : IntKind.i64.wrap (1 + (q : Int)) = 1 + (q : Int) := by rw [IntKind.wrap_i64]; omega
      have hwz : w.heap.size < wr.heap.size := (Array.getElem?_eq_some_iff.1 hblk).1
      clear hrow hst hrep
      have hx : (¬ (m : Int) < (len : Int)) ∨ ((m : Int) < (len : Int) ∧ ¬ (m : Int) < 20) := by omega
      rcases hx with hx | ⟨hx, hy⟩
      · go_wp2_with fail
        refine (D1 _ _ (reps_none _)).mono ?_
        rintro e w1 ⟨pa1, pc1, ia1, ic1, sa1, sc1, la1, lc1, rfl, hr1, hb1⟩
        have sz1 := hb1.size
        have hB1 := bstep hb hb1
        have hblk1 := (hb1.block _ hwz).trans hblk
        go_upto_region 17 with fail
        obtain ⟨n1, m1⟩ := two_new w1 (valO 2 ⟨#[]⟩ 1099511627776 (.slice pa1 0 pc1) (.slice ia1 0 ic1) (.slice sa1 0 sc1)) (repO 0 ⟨#[]⟩ 1099511627776 (.slice la1 0 lc1))
        have hl1 : Below w1.heap.size w1 ((w1.alloc (valO 2 ⟨#[]⟩ 1099511627776 (.slice pa1 0 pc1) (.slice ia1 0 ic1) (.slice sa1 0 sc1))).alloc (repO 0 ⟨#[]⟩ 1099511627776 (.slice la1 0 lc1))) := (balloc _ _).alloc (by simp) _
        have hz1 : ((w1.alloc (valO 2 ⟨#[]⟩ 1099511627776 (.slice pa1 0 pc1) (.slice ia1 0 ic1) (.slice sa1 0 sc1))).alloc (repO 0 ⟨#[]⟩ 1099511627776 (.slice la1 0 lc1))).heap.size = w1.heap.size + 2 := by simp
        generalize (w1.alloc (valO 2 ⟨#[]⟩ 1099511627776 (.slice pa1 0 pc1) (.slice ia1 0 ic1) (.slice sa1 0 sc1))).alloc (repO 0 ⟨#[]⟩ 1099511627776 (.slice la1 0 lc1)) = W1 at n1 m1 hl1 hz1 ⊢
        have hr1 := hr1.below hl1
        have hB2 := bstep hB1 hl1
        have hblk2 := (hl1.block w.heap.size (by omega)).trans hblk1
        obtain ⟨c1, f1⟩ := block_cells n1
        have HD : Hid (∀ W, W1.heap.size ≤ W.heap.size → Calls Tryz.prog 20 #[valV 2 ⟨#[]⟩ 1099511627776 (.slice pa1 0 pc1) (.slice ia1 0 ic1) (.slice sa1 0 sc1), cmdV 3 ⟨#[107]⟩ ⟨#[]⟩ ⟨#[]⟩ (1 + (q : Int))] W fun e w' =>
            ∃ pa pc ia ic sa sc la lc, e = .returned (.tuple #[valV 2 ⟨#[]⟩ 1099511627776 (.slice pa 0 pc) (.slice ia 0 ic) (.slice sa 0 sc), repV 7 ⟨#[]⟩ 0 (.slice la 0 lc), .int .i64 0]) ∧ Below W.heap.size W w') := by
          refine Hid.in fun W hW => (D2 _ _ (reps_grow hr1 hW)).mono ?_
          rintro e w' ⟨pa, pc, ia, ic, sa, sc, la, lc, he, -, hb⟩
          exact ⟨pa, pc, ia, ic, sa, sc, la, lc, he, hb⟩
        have hlt1 : w1.heap.size < W1.heap.size := by omega
        have hltw : w.heap.size < W1.heap.size := by omega
        clear m1 hblk hblk1 hb hb1 D1 D2 hz1
        obtain ⟨s0, s1, s2, s3, s4, s5⟩ : W1.cell? ⟨w1.heap.size, 0, none⟩ = some (.int .i64 2) ∧ W1.cell? ⟨w1.heap.size, 1, none⟩ = some (.string ⟨#[]⟩) ∧ W1.cell? ⟨w1.heap.size, 2, none⟩ = some (.int .i64 1099511627776) ∧ W1.cell? ⟨w1.heap.size, 3, none⟩ = some (.slice pa1 0 pc1) ∧ W1.cell? ⟨w1.heap.size, 4, none⟩ = some (.slice ia1 0 ic1) ∧ W1.cell? ⟨w1.heap.size, 5, none⟩ = some (.slice sa1 0 sc1) := ⟨c1 0, c1 1, c1 2, c1 3, c1 4, c1 5⟩
        clear c1
        have s6 : W1.cell? ⟨w.heap.size, 2, none⟩ = some (.int .i64 sum) := (block_cells hblk2).1 2
        have z5 : ¬ W1.heap.size = w.heap.size := by omega
        have z6 : ¬ w.heap.size = W1.heap.size := by omega
        have z7 : ¬ W1.heap.size + 1 = w.heap.size := by omega
        have z8 : ¬ w.heap.size = W1.heap.size + 1 := by omega
        have z1 : ¬ W1.heap.size = w1.heap.size := by omega
        have z2 : ¬ w1.heap.size = W1.heap.size := by omega
        have z3 : ¬ W1.heap.size + 1 = w1.heap.size := by omega
        have z4 : ¬ w1.heap.size = W1.heap.size + 1 := by omega
        go_region_held3 (fun w' => w'.cell? ⟨w1.heap.size, 0, none⟩ = some (.int .i64 2) ∧ w'.cell? ⟨w1.heap.size, 1, none⟩ = some (.string ⟨#[]⟩) ∧ w'.cell? ⟨w1.heap.size, 2, none⟩ = some (.int .i64 1099511627776) ∧ w'.cell? ⟨w1.heap.size, 3, none⟩ = some (.slice pa1 0 pc1) ∧ w'.cell? ⟨w1.heap.size, 4, none⟩ = some (.slice ia1 0 ic1) ∧ w'.cell? ⟨w1.heap.size, 5, none⟩ = some (.slice sa1 0 sc1) ∧ w'.cell? ⟨w.heap.size, 2, none⟩ = some (.int .i64 sum)) (go_keep) (first
          | (go_at_call 24; refine (P.out _).mono ?_; rintro e w2 ⟨rfl, rfl⟩)
          | (go_at_call 20; refine (HD.out _ ?_).mono ?_; (first | exact Nat.le_refl _ | exact size_d1 _ _ | exact size_d2 _ _ _); rintro e w2 ⟨pa2, pc2, ia2, ic2, sa2, sc2, la2, lc2, rfl, hb2⟩; obtain ⟨e1, e2⟩ := same_block (hb2.block w1.heap.size (by simp; omega)); obtain ⟨e3, e4⟩ := same_block (hb2.block w.heap.size (by simp; omega)); (first | (obtain ⟨⟨d1, d2⟩, d3, d4⟩ := fresh2 hb2; have sz2 := size_g2 hb2) | (obtain ⟨d1, d2⟩ := fresh1 hb2; have sz2 := size_g1 hb2) | (have sz2 := hb2.size)); have y0 : w1.heap.size < w2.heap.size := Nat.lt_of_lt_of_le (by simp; omega) hb2.size; have y1 : ¬ w2.heap.size = w1.heap.size := (by omega); have y2 : ¬ w1.heap.size = w2.heap.size := (by omega); have y3 : ¬ w2.heap.size + 1 = w1.heap.size := (by omega); have y4 : ¬ w1.heap.size = w2.heap.size + 1 := (by omega); have y5 : ¬ w2.heap.size = w.heap.size := (by omega); have y6 : ¬ w.heap.size = w2.heap.size := (by omega); have y7 : ¬ w2.heap.size + 1 = w.heap.size := (by omega); have y8 : ¬ w.heap.size = w2.heap.size + 1 := (by omega)))
        all_goals
          have hB3 : Below w.heap.size w w2 := by first | exact bstep hB2.drew hb2 | exact bstep (hB2.alloc hB2.size _).drew hb2 | exact bstep ((hB2.alloc hB2.size _).alloc (Nat.le_trans hB2.size (by simp)) _).drew hb2
          have hB3s := hB3.size
          clear hb2
          go_wp2_with fail
          go_ret
          refine ⟨rfl, ?_⟩
          repeat' (first | with_reducible exact hB3 | with_reducible refine Below.drew ?_ | (with_reducible refine Below.setCell ?_ ?_ _) | (with_reducible refine Below.alloc ?_ ?_ _) | (simp; done) | omega | (simp; omega))
      · go_wp2_with fail
        refine (D1 _ _ (reps_none _)).mono ?_
        rintro e w1 ⟨pa1, pc1, ia1, ic1, sa1, sc1, la1, lc1, rfl, hr1, hb1⟩
        have sz1 := hb1.size
        have hB1 := bstep hb hb1
        have hblk1 := (hb1.block _ hwz).trans hblk
        go_upto_region 17 with fail
        obtain ⟨n1, m1⟩ := two_new w1 (valO 2 ⟨#[]⟩ 1099511627776 (.slice pa1 0 pc1) (.slice ia1 0 ic1) (.slice sa1 0 sc1)) (repO 0 ⟨#[]⟩ 1099511627776 (.slice la1 0 lc1))
        have hl1 : Below w1.heap.size w1 ((w1.alloc (valO 2 ⟨#[]⟩ 1099511627776 (.slice pa1 0 pc1) (.slice ia1 0 ic1) (.slice sa1 0 sc1))).alloc (repO 0 ⟨#[]⟩ 1099511627776 (.slice la1 0 lc1))) := (balloc _ _).alloc (by simp) _
        have hz1 : ((w1.alloc (valO 2 ⟨#[]⟩ 1099511627776 (.slice pa1 0 pc1) (.slice ia1 0 ic1) (.slice sa1 0 sc1))).alloc (repO 0 ⟨#[]⟩ 1099511627776 (.slice la1 0 lc1))).heap.size = w1.heap.size + 2 := by simp
        generalize (w1.alloc (valO 2 ⟨#[]⟩ 1099511627776 (.slice pa1 0 pc1) (.slice ia1 0 ic1) (.slice sa1 0 sc1))).alloc (repO 0 ⟨#[]⟩ 1099511627776 (.slice la1 0 lc1)) = W1 at n1 m1 hl1 hz1 ⊢
        have hr1 := hr1.below hl1
        have hB2 := bstep hB1 hl1
        have hblk2 := (hl1.block w.heap.size (by omega)).trans hblk1
        obtain ⟨c1, f1⟩ := block_cells n1
        have HD : Hid (∀ W, W1.heap.size ≤ W.heap.size → Calls Tryz.prog 20 #[valV 2 ⟨#[]⟩ 1099511627776 (.slice pa1 0 pc1) (.slice ia1 0 ic1) (.slice sa1 0 sc1), cmdV 3 ⟨#[107]⟩ ⟨#[]⟩ ⟨#[]⟩ (1 + (q : Int))] W fun e w' =>
            ∃ pa pc ia ic sa sc la lc, e = .returned (.tuple #[valV 2 ⟨#[]⟩ 1099511627776 (.slice pa 0 pc) (.slice ia 0 ic) (.slice sa 0 sc), repV 7 ⟨#[]⟩ 0 (.slice la 0 lc), .int .i64 0]) ∧ Below W.heap.size W w') := by
          refine Hid.in fun W hW => (D2 _ _ (reps_grow hr1 hW)).mono ?_
          rintro e w' ⟨pa, pc, ia, ic, sa, sc, la, lc, he, -, hb⟩
          exact ⟨pa, pc, ia, ic, sa, sc, la, lc, he, hb⟩
        have hlt1 : w1.heap.size < W1.heap.size := by omega
        have hltw : w.heap.size < W1.heap.size := by omega
        clear m1 hblk hblk1 hb hb1 D1 D2 hz1
        obtain ⟨s0, s1, s2, s3, s4, s5⟩ : W1.cell? ⟨w1.heap.size, 0, none⟩ = some (.int .i64 2) ∧ W1.cell? ⟨w1.heap.size, 1, none⟩ = some (.string ⟨#[]⟩) ∧ W1.cell? ⟨w1.heap.size, 2, none⟩ = some (.int .i64 1099511627776) ∧ W1.cell? ⟨w1.heap.size, 3, none⟩ = some (.slice pa1 0 pc1) ∧ W1.cell? ⟨w1.heap.size, 4, none⟩ = some (.slice ia1 0 ic1) ∧ W1.cell? ⟨w1.heap.size, 5, none⟩ = some (.slice sa1 0 sc1) := ⟨c1 0, c1 1, c1 2, c1 3, c1 4, c1 5⟩
        clear c1
        have s6 : W1.cell? ⟨w.heap.size, 2, none⟩ = some (.int .i64 sum) := (block_cells hblk2).1 2
        have z5 : ¬ W1.heap.size = w.heap.size := by omega
        have z6 : ¬ w.heap.size = W1.heap.size := by omega
        have z7 : ¬ W1.heap.size + 1 = w.heap.size := by omega
        have z8 : ¬ w.heap.size = W1.heap.size + 1 := by omega
        have z1 : ¬ W1.heap.size = w1.heap.size := by omega
        have z2 : ¬ w1.heap.size = W1.heap.size := by omega
        have z3 : ¬ W1.heap.size + 1 = w1.heap.size := by omega
        have z4 : ¬ w1.heap.size = W1.heap.size + 1 := by omega
        go_region_held3 (fun w' => w'.cell? ⟨w1.heap.size, 0, none⟩ = some (.int .i64 2) ∧ w'.cell? ⟨w1.heap.size, 1, none⟩ = some (.string ⟨#[]⟩) ∧ w'.cell? ⟨w1.heap.size, 2, none⟩ = some (.int .i64 1099511627776) ∧ w'.cell? ⟨w1.heap.size, 3, none⟩ = some (.slice pa1 0 pc1) ∧ w'.cell? ⟨w1.heap.size, 4, none⟩ = some (.slice ia1 0 ic1) ∧ w'.cell? ⟨w1.heap.size, 5, none⟩ = some (.slice sa1 0 sc1) ∧ w'.cell? ⟨w.heap.size, 2, none⟩ = some (.int .i64 sum)) (go_keep) (first
          | (go_at_call 24; refine (P.out _).mono ?_; rintro e w2 ⟨rfl, rfl⟩)
          | (go_at_call 20; refine (HD.out _ ?_).mono ?_; (first | exact Nat.le_refl _ | exact size_d1 _ _ | exact size_d2 _ _ _); rintro e w2 ⟨pa2, pc2, ia2, ic2, sa2, sc2, la2, lc2, rfl, hb2⟩; obtain ⟨e1, e2⟩ := same_block (hb2.block w1.heap.size (by simp; omega)); obtain ⟨e3, e4⟩ := same_block (hb2.block w.heap.size (by simp; omega)); (first | (obtain ⟨⟨d1, d2⟩, d3, d4⟩ := fresh2 hb2; have sz2 := size_g2 hb2) | (obtain ⟨d1, d2⟩ := fresh1 hb2; have sz2 := size_g1 hb2) | (have sz2 := hb2.size)); have y0 : w1.heap.size < w2.heap.size := Nat.lt_of_lt_of_le (by simp; omega) hb2.size; have y1 : ¬ w2.heap.size = w1.heap.size := (by omega); have y2 : ¬ w1.heap.size = w2.heap.size := (by omega); have y3 : ¬ w2.heap.size + 1 = w1.heap.size := (by omega); have y4 : ¬ w1.heap.size = w2.heap.size + 1 := (by omega); have y5 : ¬ w2.heap.size = w.heap.size := (by omega); have y6 : ¬ w.heap.size = w2.heap.size := (by omega); have y7 : ¬ w2.heap.size + 1 = w.heap.size := (by omega); have y8 : ¬ w.heap.size = w2.heap.size + 1 := (by omega)))
        all_goals
          have hB3 : Below w.heap.size w w2 := by first | exact bstep hB2.drew hb2 | exact bstep (hB2.alloc hB2.size _).drew hb2 | exact bstep ((hB2.alloc hB2.size _).alloc (Nat.le_trans hB2.size (by simp)) _).drew hb2
          have hB3s := hB3.size
          clear hb2
          go_wp2_with fail
          go_ret
          refine ⟨rfl, ?_⟩
          repeat' (first | with_reducible exact hB3 | with_reducible refine Below.drew ?_ | (with_reducible refine Below.setCell ?_ ?_ _) | (with_reducible refine Below.alloc ?_ ?_ _) | (simp; done) | omega | (simp; omega))

end Go.Proofs.YtlfmpgemanbpeaaGreat.addSumDone
