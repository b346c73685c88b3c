/- A member stands by its last number, those of the same by their texts, and its rank is its place: of a rank of raw numbers every member is told its place, and who is none is told so: for all raw numbers the law returns true. No condition. -/
import Derived.Test.YtgpdnhammdgndaaGreatMy
import Derived.Deep.DeepCutAuto
import Derived.Deep.RegionHeld3
import Derived.Sort.OwnSorted
namespace Go.Proofs.YtgpdnhammdgndaaGreat.rankModelDone
open Go.ChangeShapes Go.WideShapes Go.ChangeAt Go.RowKit
open Go.Proofs.YtgpdnhammdgndaaGreat
set_option linter.unusedVariables false
set_option maxRecDepth 100000

theorem rank_ofM {x : Val} (hok : OkVal x) (hk : x.kind = 6) : ∃ L, 1 ≤ L.length ∧ RankL L ∧ x = rankX L := by
  rcases hok.cases with ⟨t, -, rfl⟩ | ⟨n, -, rfl⟩ | ⟨l, -, -, -, -, rfl⟩ | ⟨l, -, -, -, rfl⟩ | ⟨l, -, -, -, -, rfl⟩ | ⟨l, h1, h2, h3, h4, h5, h6, rfl⟩
  · simp at hk
  · simp at hk
  · simp at hk
  · simp at hk
  · simp at hk
  · exact ⟨l, h1, ⟨h2, h3, h4, h5, h6⟩, rfl⟩
theorem rowM_cell {w : World} {a : Option Addr} {n c : Nat} {l : List (ByteArray × Int)} (h : RowAt 2 encS w (.slice a n c) l) (hp : 0 < l.length) :
    ∃ b off, a = some ⟨b, off, none⟩ ∧ b < w.heap.size ∧ ∀ m (hm : m < l.length), w.cell? ⟨b, off + m * 2, none⟩ = some (.string l[m].1) ∧ w.cell? ⟨b, off + m * 2 + 1, none⟩ = some (.int .i64 l[m].2) := by
  obtain ⟨-, a', c', hs, h1, h2, h3⟩ := h
  simp only [Value.slice.injEq] at hs
  obtain ⟨rfl, rfl, rfl⟩ := hs
  rcases h3 with ⟨-, rfl, -⟩ | ⟨b, off, rfl, hb, hc⟩
  · simp at hp
  · exact ⟨b, off, rfl, hb, fun m hm => ⟨hc m hm 0 (by omega), hc m hm 1 (by omega)⟩⟩
abbrev longT : ByteArray := ⟨#[110, 111, 98, 111, 100, 121, 32, 105, 115, 32, 115, 111, 32, 108, 111, 110, 103]⟩

/- What a call's answer leaves in two boxes, by when these were laid: the reply's box, and what was there. -/
theorem ar1 {B w2 : World} {oV oR : Obj} (h : Below B.heap.size B w2) : ((w2.alloc oV).alloc oR).heap[w2.heap.size + 1]? = some oR ∧ Below B.heap.size B ((w2.alloc oV).alloc oR) :=
  ⟨(two_new w2 oV oR).2, (h.alloc h.size _).alloc (by have := h.size; simp; omega) _⟩
theorem ar2 {B w2 : World} {oV oR : Obj} (h : Below B.heap.size B w2) : ((w2.alloc oR).alloc oV).heap[w2.heap.size]? = some oR ∧ Below B.heap.size B ((w2.alloc oR).alloc oV) :=
  ⟨(two_new w2 oR oV).1, (h.alloc h.size _).alloc (by have := h.size; simp; omega) _⟩
theorem ar3 {B w2 : World} {g : Nat} {kind : Int} {text : ByteArray} {count : Int} {ps is ss : Value} {oR : Obj} (h : Below B.heap.size B w2) (hg : B.heap.size ≤ g) :
    ((storedV w2 g kind text count ps is ss).alloc oR).heap[w2.heap.size]? = some oR ∧ Below B.heap.size B ((storedV w2 g kind text count ps is ss).alloc oR) := by
  have hz := sizeV w2 g kind text count ps is ss
  refine ⟨?_, (storedV_below h hg).alloc (by have := h.size; omega) _⟩
  have := alloc_here (storedV w2 g kind text count ps is ss) oR
  rwa [hz] at this
theorem storedR_at {w1 : World} {g : Nat} {code n code' n' : Int} {text text' : ByteArray} {ls ls' : Value} (h : w1.heap[g]? = some (repO code' text' n' ls')) : (storedR w1 g code text n ls).heap[g]? = some (repO code text n ls) :=
  setCell_sameV (o := 3) ls (setCell_sameV (o := 2) (.int .i64 n) (setCell_sameV (o := 1) (.string text) (setCell_sameV (o := 0) (.int .i64 code) h)))
theorem storedR_below {B : Nat} {w w1 : World} {g : Nat} {code n : Int} {text : ByteArray} {ls : Value} (h : Below B w w1) (hg : B ≤ g) : Below B w (storedR w1 g code text n ls) :=
  (((h.setCell hg _).setCell hg _).setCell hg _).setCell hg _
theorem ar4 {B w2 : World} {g : Nat} {code n code' n' : Int} {text text' : ByteArray} {ls ls' : Value} {oV : Obj} (h : Below B.heap.size B w2) (hg : B.heap.size ≤ g) (hr : w2.heap[g]? = some (repO code' text' n' ls')) :
    ((storedR w2 g code text n ls).alloc oV).heap[g]? = some (repO code text n ls) ∧ Below B.heap.size B ((storedR w2 g code text n ls).alloc oV) := by
  have hz := sizeR w2 g code text n ls
  have hl := lt_at hr
  exact ⟨((balloc _ _).block g (by omega)).trans (storedR_at hr), (storedR_below h hg).alloc (by have := h.size; omega) _⟩
theorem ar5 {B w2 : World} {g g' : Nat} {kind count code n code' n' : Int} {text tx tx' : ByteArray} {ps is ss ls ls' : Value} (h : Below B.heap.size B w2) (hg : B.heap.size ≤ g) (hg' : B.heap.size ≤ g') (hne : g' ≠ g) (hr : w2.heap[g']? = some (repO code' tx' n' ls')) :
    (storedR (storedV w2 g kind text count ps is ss) g' code tx n ls).heap[g']? = some (repO code tx n ls) ∧ Below B.heap.size B (storedR (storedV w2 g kind text count ps is ss) g' code tx n ls) :=
  ⟨storedR_at ((keepV hne).trans hr), storedR_below (storedV_below h hg) hg'⟩

set_option maxHeartbeats 8000000 in
theorem walk0 (s : Value) (l : List Raw) (w : World) (hl : RawsAt w s l) (hz : l.length * 48 ≤ reachBytes) :
    Calls Tryz.prog 7 #[s] w fun e w' => e = .returned (.bool true) ∧ Below w.heap.size w w' := by
  have hF := full_any 5 s l w (by omega) hl hz
  rw [show pickedN 5 6 = 5 from picked_self 5 6 (by omega)] at hF
  obtain ⟨hok, hkd⟩ := fullFor_ok 5 (by omega) l
  have hshort := fullFor_short 5 l
  generalize fullFor 5 l = x at hF hok hkd hshort
  obtain ⟨L, h1, hRk, rfl⟩ := rank_ofM hok (by omega)
  have h20 := hRk.1
  have hA := fun i (hi : i < L.length) => zrank_acts hRk i hi
  have hN := zrank_none hRk h1 longT (by decide +kernel) (fun hm => by
    obtain ⟨a, ha, e⟩ := List.mem_map.1 hm
    have := hshort a ha
    rw [e] at this
    exact absurd this (by decide +kernel))
  have hlt : ∀ m (hm : m + 1 < L.length), ltSc (L[m]'(by omega)) L[m + 1] = true := fun m hm => List.pairwise_iff_getElem.1 hRk.2.2.2.1 m (m + 1) (by omega) hm (by omega)
  have HF : Hid (Calls Tryz.prog 19 #[.int .i64 5, s] w fun e w' => ∃ v, e = .returned v ∧ RepsF w.heap.size w' v (rankX L) ∧ Below w.heap.size w w') := hF
  have HA : Hid (∀ i (hi : i < L.length), Acts (rankX L) (zrankC L[i].1) (rankX L) { n := (i : Int) } 0) := hA
  have HN : Hid (Acts (rankX L) (zrankC longT) (rankX L) { code := 5 } 0) := hN
  have HLT : Hid (∀ m (hm : m + 1 < L.length), ltSc (L[m]'(by omega)) L[m + 1] = true) := hlt
  have hL0 : 0 < L.length := by omega
  clear hF hA hN hlt hok hkd hRk hshort hl hz h1
  go_enter Tryz.func7, Tryz.ntmps7
  go_wp2_with fail
  refine HF.out.mono ?_
  rintro e w1 ⟨v, rfl, hr, hB⟩
  clear HF
  obtain ⟨ps, is, ss, rfl, hv, -⟩ := hr
  obtain ⟨pa, pc, ia, ic, sa, sc, rfl, rfl, rfl, -⟩ := hv.lens
  simp only [List.length_nil] at hv ⊢
  go_wp2_with fail
  have nv := alloc_at w1 (valO 6 ⟨#[]⟩ 0 (.slice pa 0 pc) (.slice ia 0 ic) (.slice sa L.length sc))
  have hbx := balloc w1 (valO 6 ⟨#[]⟩ 0 (.slice pa 0 pc) (.slice ia 0 ic) (.slice sa L.length sc))
  replace hv := hv.below hbx
  replace hB := hB.alloc hB.size (valO 6 ⟨#[]⟩ 0 (.slice pa 0 pc) (.slice ia 0 ic) (.slice sa L.length sc))
  clear hbx
  generalize w1.alloc (valO 6 ⟨#[]⟩ 0 (.slice pa 0 pc) (.slice ia 0 ic) (.slice sa L.length sc)) = V1 at nv hv hB ⊢
  generalize w1.heap.size = bv at nv ⊢
  obtain ⟨b, off, hsa, hbb, hcc⟩ := rowM_cell hv.s hL0
  subst hsa
  have HCC : Hid (∀ m (hm : m < L.length), V1.cell? ⟨b, off + m * 2, none⟩ = some (.string L[m].1) ∧ V1.cell? ⟨b, off + m * 2 + 1, none⟩ = some (.int .i64 L[m].2)) := hcc
  have HNV : Hid (V1.heap[bv]? = some (valO 6 ⟨#[]⟩ 0 (.slice pa 0 pc) (.slice ia 0 ic) (.slice (some ⟨b, off, none⟩) L.length sc))) := nv
  have HV : Hid (Lists V1 (.slice pa 0 pc) (.slice ia 0 ic) (.slice (some ⟨b, off, none⟩) L.length sc) (rankX L)) := hv
  have HB : Hid (Below w.heap.size w V1) := hB
  clear hcc nv hv hB
  go_wp2_with fail
  go_loopw [4] (fun c wr => ∃ m : Nat, c = .int .i64 (m : Int) ∧ 1 ≤ m ∧ m ≤ L.length ∧ Below V1.heap.size V1 wr) (fun c _ => L.length - (intOf c).toNat)
  case atStart => exact ⟨1, rfl, by omega, by omega, Below.refl _ _⟩
  case round =>
    obtain ⟨m, rfl, hm1, hm, hb⟩ := hrel
    have nv := (hb.block _ (lt_at HNV.out)).trans HNV.out
    obtain ⟨c1, f1⟩ := cellsB nv
    have hlv := lt_at nv
    have hbw := Nat.lt_of_lt_of_le hbb hb.size
    by_cases hlt : m < L.length
    · have hi0 : (m : Int) < (L.length : Int) := by omega
      obtain ⟨e0, e1⟩ := HCC.out (m - 1) (by omega)
      obtain ⟨e2, e3⟩ := HCC.out m hlt
      replace e0 := (hb.cell (p := ⟨b, off + (m - 1) * 2, none⟩) hbb).trans e0
      replace e1 := (hb.cell (p := ⟨b, off + (m - 1) * 2 + 1, none⟩) hbb).trans e1
      replace e2 := (hb.cell (p := ⟨b, off + m * 2, none⟩) hbb).trans e2
      replace e3 := (hb.cell (p := ⟨b, off + m * 2 + 1, none⟩) hbb).trans e3
      have hlt' : ltSc (L[m - 1]'(by omega)) L[m] = true := by
        have := HLT.out (m - 1) (by omega)
        simpa [show m - 1 + 1 = m by omega] using this
      replace hlt' := (ltSc_iff _ _).1 hlt'
      generalize L[m - 1]'(by omega) = u at *
      generalize L[m] = u' at *
      obtain ⟨t, z⟩ := u
      obtain ⟨t', z'⟩ := u'
      simp only at *
      have hx1 : IntKind.i64.wrap ((m : Int) - 1) = ((m - 1 : Nat) : Int) := by rw [IntKind.wrap_i64]; omega
      have hx2 : ((m - 1 : Nat) : Int) < (L.length : Int) := by omega
      have hend := (hb.alloc hb.size (.cells #[.string t, .int .i64 z] 53)).alloc (by have := hb.size; simp; omega) (.cells #[.string t', .int .i64 z'] 53)
      have HE : Hid (Below V1.heap.size V1 ((wr.alloc (.cells #[.string t, .int .i64 z] 53)).alloc (.cells #[.string t', .int .i64 z'] 53))) := hend
      clear HN HA HNV HB HV nv hend
      rcases hlt' with h | ⟨h, ht⟩
      · have g1 : decide (z' < z) = false := decide_eq_false (by omega)
        have g2 : (z == z') = false := by rw [beq_eq_false_iff_ne]; omega
        clear h
        go_wp2_with fail
        exact ⟨⟨m + 1, by go_num, by omega, by omega, HE.out⟩, by simp [intOf]; omega⟩
      · subst h
        have hbl : Op.bytesLess t.toList t'.toList = true := ht
        clear ht
        go_wp2_with fail
        exact ⟨⟨m + 1, by go_num, by omega, by omega, HE.out⟩, by simp [intOf]; omega⟩
    · have hge : ¬ (m : Int) < (L.length : Int) := by omega
      have hB := bstep HB.out hb
      have hv := HV.out.below hb
      have HCW : Hid (∀ m (hm : m < L.length), wr.cell? ⟨b, off + m * 2, none⟩ = some (.string L[m].1)) := fun m hm => (hb.cell (p := ⟨b, off + m * 2, none⟩) hbb).trans (HCC.out m hm).1
      have HNW : Hid (wr.heap[bv]? = some (valO 6 ⟨#[]⟩ 0 (.slice pa 0 pc) (.slice ia 0 ic) (.slice (some ⟨b, off, none⟩) L.length sc))) := nv
      have HBW : Hid (Below w.heap.size w wr) := hB
      have HVW : Hid (Lists wr (.slice pa 0 pc) (.slice ia 0 ic) (.slice (some ⟨b, off, none⟩) L.length sc) (rankX L)) := hv
      clear HNV HB HV HCC hB hv hb hbb
      go_wp2_with fail
      clear c1 f1 nv hge hm hlt hm1 HLT
      clear hlv hbw
      generalize wr = V2 at *
      have hbv : bv < V2.heap.size := lt_at HNW.out
      go_loopw [7] (fun c wr => ∃ m : Nat, c = .int .i64 (m : Int) ∧ m ≤ L.length ∧ Below V2.heap.size V2 wr) (fun c _ => L.length - (intOf c).toNat)
      case atStart => exact ⟨0, rfl, by omega, Below.refl _ _⟩
      case round =>
        obtain ⟨m, rfl, hm, hb⟩ := hrel
        have nv := (hb.block _ (lt_at HNW.out)).trans HNW.out
        have hlv := lt_at nv
        by_cases hlt : m < L.length
        · have hi0 : (m : Int) < (L.length : Int) := by omega
          have hbb : b < V2.heap.size := by
            obtain ⟨-, a', c', he, -, -, q3⟩ := HVW.out.s
            simp only [Value.slice.injEq] at he
            obtain ⟨rfl, -, -⟩ := he
            rcases q3 with ⟨h, -⟩ | ⟨b', off', h, hb', -⟩
            · cases h
            · simp only [Option.some.injEq, Addr.mk.injEq] at h; rw [h.1]; exact hb'
          have hbw : b < wr.heap.size := Nat.lt_of_lt_of_le hbb hb.size
          have e0 := (hb.cell (p := ⟨b, off + m * 2, none⟩) hbb).trans (HCW.out m hlt)
          have hA := fun W (hW : Below wr.heap.size wr W) => HA.out m hlt W _ _ _ (HVW.out.below (bstep hb hW))
          generalize L[m].1 = M at *
          have HD : Hid (∀ W, Below wr.heap.size wr W → Calls Tryz.prog 11 #[valV 6 ⟨#[]⟩ 0 (.slice pa 0 pc) (.slice ia 0 ic) (.slice (some ⟨b, off, none⟩) L.length sc), cmdV 16 ⟨#[107]⟩ ⟨#[]⟩ M 0] W fun e w' =>
              ∃ pa pc ia ic sa sc la lc, e = .returned (.tuple #[valV 6 ⟨#[]⟩ 0 (.slice pa 0 pc) (.slice ia 0 ic) (.slice sa L.length sc), repV 0 ⟨#[]⟩ (m : Int) (.slice la 0 lc), .int .i64 0]) ∧ Below W.heap.size W w') := fun W hW => (hA W hW).mono (by
            rintro e w' ⟨pa, pc, ia, ic, sa, sc, la, lc, rfl, -, -, h⟩
            exact ⟨pa, pc, ia, ic, sa, sc, la, lc, rfl, h⟩)
          obtain ⟨c1, f1⟩ := cellsB nv
          obtain ⟨s0, s1, s2, s3, s4, s5⟩ : wr.cell? ⟨bv, 0, none⟩ = some (.int .i64 6) ∧ wr.cell? ⟨bv, 1, none⟩ = some (.string ⟨#[]⟩) ∧ wr.cell? ⟨bv, 2, none⟩ = some (.int .i64 0) ∧ wr.cell? ⟨bv, 3, none⟩ = some (.slice pa 0 pc) ∧ wr.cell? ⟨bv, 4, none⟩ = some (.slice ia 0 ic) ∧ wr.cell? ⟨bv, 5, none⟩ = some (.slice (some ⟨b, off, none⟩) L.length sc) := ⟨c1 0, c1 1, c1 2, c1 3, c1 4, c1 5⟩
          have HSZ : Hid (V2.heap.size ≤ wr.heap.size) := hb.size
          have HBB : Hid (Below V2.heap.size V2 wr) := hb
          clear c1 hA HA HCW HVW HNW hbb nv hb
          go_wp2_with fail
          go_cut [9, 10] from 53 to 85 (fun s9 s10 wx => ∃ g la lc, s9 = .pointer (some ⟨g, 0, none⟩) ∧ s10 = .int .i64 0 ∧ wx.heap[g]? = some (repO 0 ⟨#[]⟩ (m : Int) (.slice la 0 lc)) ∧ Below V2.heap.size V2 wx)
          case first =>
            go_region_held3 (fun w' => w'.cell? ⟨bv, 0, none⟩ = some (.int .i64 6) ∧ w'.cell? ⟨bv, 1, none⟩ = some (.string ⟨#[]⟩) ∧ w'.cell? ⟨bv, 2, none⟩ = some (.int .i64 0) ∧ w'.cell? ⟨bv, 3, none⟩ = some (.slice pa 0 pc) ∧ w'.cell? ⟨bv, 4, none⟩ = some (.slice ia 0 ic) ∧ w'.cell? ⟨bv, 5, none⟩ = some (.slice (some ⟨b, off, none⟩) L.length sc) ∧ w'.cell? ⟨b, off + m * 2, none⟩ = some (.string M)) (go_keep) (first
              | (go_at_call 11; (first
                | ((with_reducible refine (HD.out _ (Below.refl _ _).drew).mono ?_); rintro e w2 ⟨pa2, pc2, ia2, ic2, sa2, sc2, la2, lc2, rfl, hb2⟩; have u2 : Below wr.heap.size wr w2 := (by with_reducible exact bstep (Below.refl _ _).drew hb2); have z2 := u2.size; have y1 : ¬ bv = w2.heap.size := (by omega); have x1 : ¬ w2.heap.size = bv := (by omega); have y2 : ¬ bv = w2.heap.size + 1 := (by omega); have x2 : ¬ w2.heap.size + 1 = bv := (by omega); have y3 : ¬ b = w2.heap.size := (by omega); have x3 : ¬ w2.heap.size = b := (by omega); have y4 : ¬ b = w2.heap.size + 1 := (by omega); have x4 : ¬ w2.heap.size + 1 = b := (by omega))
                | ((with_reducible refine (HD.out _ (balloc _ _).drew).mono ?_); rintro e w2 ⟨pa2, pc2, ia2, ic2, sa2, sc2, la2, lc2, rfl, hb2⟩; have u2 : Below wr.heap.size wr w2 := (by with_reducible exact bstep (balloc _ _).drew hb2); have m7 := boxD1 hb2; have sz2 := sizeD1 hb2; obtain ⟨p1, p2⟩ := block_cells m7; have z2 := u2.size; have y1 : ¬ bv = w2.heap.size := (by omega); have x1 : ¬ w2.heap.size = bv := (by omega); have y2 : ¬ bv = wr.heap.size := (by omega); have x2 : ¬ wr.heap.size = bv := (by omega); have y3 : ¬ b = w2.heap.size := (by omega); have x3 : ¬ w2.heap.size = b := (by omega); have y4 : ¬ b = wr.heap.size := (by omega); have x4 : ¬ wr.heap.size = b := (by omega); have y5 : ¬ wr.heap.size = w2.heap.size := (by omega); have x5 : ¬ w2.heap.size = wr.heap.size := (by omega))
                | ((with_reducible refine (HD.out _ ((balloc _ _).alloc (Nat.le_of_lt (size_a1 _ _)) _).drew).mono ?_); rintro e w2 ⟨pa2, pc2, ia2, ic2, sa2, sc2, la2, lc2, rfl, hb2⟩; have u2 : Below wr.heap.size wr w2 := (by with_reducible exact bstep ((balloc _ _).alloc (Nat.le_of_lt (size_a1 _ _)) _).drew hb2); obtain ⟨m7, m8⟩ := boxD2 hb2; have sz2 := sizeD2 hb2; obtain ⟨p1, p2⟩ := block_cells m7; obtain ⟨p3, p4⟩ := block_cells m8; have z2 := u2.size; have y2 : ¬ bv = wr.heap.size := (by omega); have x2 : ¬ wr.heap.size = bv := (by omega); have y1 : ¬ bv = wr.heap.size + 1 := (by omega); have x1 : ¬ wr.heap.size + 1 = bv := (by omega); have y4 : ¬ b = wr.heap.size := (by omega); have x4 : ¬ wr.heap.size = b := (by omega); have y3 : ¬ b = wr.heap.size + 1 := (by omega); have x3 : ¬ wr.heap.size + 1 = b := (by omega))); obtain ⟨e1, e2⟩ := same_block (u2.block bv hlv); obtain ⟨e3, e4⟩ := same_block (u2.block b hbw)))
            all_goals
              have HBX := bstep HBB.out u2
              go_wp2_with fail
              go_meet
              have hsz := HSZ.out
              refine ⟨_, la2, lc2, rfl, rfl, ?_⟩
              first
                | with_reducible exact ar1 HBX
                | with_reducible exact ar2 HBX
                | with_reducible exact ar3 HBX hsz
                | with_reducible exact ar4 HBX hsz m7
                | with_reducible exact ar5 HBX hsz (Nat.le_succ_of_le hsz) (Nat.succ_ne_self _) m8
                | with_reducible exact ar5 HBX (Nat.le_succ_of_le hsz) hsz (Nat.succ_ne_self _).symm m7
          case rest =>
            obtain ⟨g, la, lc, rfl, rfl, hg, hbx⟩ := hcut
            obtain ⟨c1, f1⟩ := cellsB hg
            have hlg := lt_at hg
            have hmm : ((m : Int) != (m : Int)) = false := by simp
            clear hg s0 s1 s2 s3 s4 s5 e0 f1
            go_wp2_with fail
            exact ⟨⟨m + 1, by go_num, by omega, hbx⟩, by simp [intOf]; omega⟩
        · have hge : ¬ (m : Int) < (L.length : Int) := by omega
          have hB := bstep HBW.out hb
          have hv := HVW.out.below hb
          obtain ⟨c1, f1⟩ := cellsB nv
          have hL0' : (0 : Int) < (L.length : Int) := by omega
          clear HCW HVW HNW HBW
          go_wp2_with fail
          refine (HN.out _ _ _ _ hv).mono ?_
          rintro e w5 ⟨pa3, pc3, ia3, ic3, sa3, sc3, la3, lc3, rfl, -, -, hb5⟩
          clear c1 f1 hv
          replace nv := (hb5.block _ (lt_at nv)).trans nv
          replace hB := bstep hB hb5
          clear hb5
          obtain ⟨c1, f1⟩ := cellsB nv
          have hlw := lt_at nv
          simp only [List.length_nil]
          go_wp2_with fail
          go_ret
          exact ⟨rfl, (hB.alloc hB.size _).alloc (by have := hB.size; simp; omega) _⟩

theorem walk (v0 : Value) (w : World) (h0 : IsRaws w v0) :
    Calls Tryz.prog 7 #[v0] w fun e w' => e = .returned (.bool true) ∧ Below w.heap.size w w' := by
  obtain ⟨l, hl, hz⟩ := h0
  exact walk0 v0 l w hl hz

theorem own : ownKnob Tryz.prog.godebug = none := by kernel_rfl
theorem laidOut : laidOutB Tryz.prog = true := by kernel_rfl

set_option maxRecDepth 100000 in
theorem lifted (os : Os) (started : os.Started) (H : Type) (enc : TypeId × Value → H) :
    ReturnsInHanded {} Tryz.checked os 7 .any (Rows.rankModelSpec.pre6 enc Tryz.prog Tryz.f7 Rows.rankModelRow.domain false) (Rows.rankModelSpec.post enc Tryz.prog Tryz.f7 false true false false) := by
  refine returnsInHanded_of_change_sized (C := Tryz.checked) own started (by kernel_rfl) Tryz.func7
    (ChangeSpec.witness6 (enc := enc) (C := Tryz.checked) false ⟨#[], #[.slice none 0 0], []⟩ 8 (by kernel_rfl) (by kernel_rfl) (by kernel_rfl) (by kernel_rfl)) ?_
  intro W base args ds gs before hval0 hW hcnd hsz _
  have hval : ∀ (j : Nat) t v, Tryz.f7.params[j]? = some t → args[j]? = some v → Value.okWide Tryz.prog W .any base t v := hval0
  have hW' := hW
  obtain ⟨p, q, hA0, hV, rfl, hfz, hnd⟩ := hW
  have hA : DataW.TrodAll enc Tryz.prog W 0 (fun _ => true) true Tryz.f7.params.toList args.toList ds p := hA0
  rw [Tryz.params7] at hA hval
  obtain ⟨v0, vs0, d0, ds0, p0, q0, hargs, rfl, rfl, h0, r0⟩ := trodAll_cons hA
  obtain ⟨rfl, rfl, rfl⟩ := trodAll_nil r0
  obtain rfl : args = #[v0] := by cases args; simp_all
  obtain ⟨rfl, rfl⟩ := trodVars_none hV
  have lt0 : ∀ x ∈ p0, x.block < W.heap.size := by obtain ⟨m, hm⟩ := h0; exact DataW.trod_lt m _ _ _ hm
  have g0 := shape_raws (hval 0 38 v0 rfl rfl) h0 (fun n hn => of_decide_eq_true (List.all_eq_true.1 hsz n (DataW.weights_mem_each (j := 0) rfl rfl n hn)))
  clear hA0 hval0
  refine (walk v0 W g0).mono fun e W' ⟨he, bel⟩ => ?_
  subst he
  exact ⟨_, rfl, _, _, _, [], _, [], hW', trodAll_mk1 (shut_bool Tryz.underlying4 _), (trodAll_cons_mk (Below.trod laidOut (by kernel_rfl) (of_decide_eq_true (by kernel_rfl)) h0 bel lt0) trodAll_mk0), rfl, bel.frame _, fun h => by cases h⟩

theorem over : Rows.rankModelRow.holds Tryz.pinned (OpenSpec.ofChange Rows.rankModelSpec) :=
  OpenClaim.holds_of_wide 7 Tryz.f7 rfl rfl rfl rfl rfl rfl rfl ⟨rfl, rfl, rfl, rfl, rfl⟩ rfl rfl rfl rfl rfl (by kernel_rfl) Tryz.func7 (by kernel_rfl)
    (of_decide_eq_true (by kernel_rfl)) (by unfold Func.isWrapper; first | (rw [if_pos (by decide +kernel)]; kernel_rfl) | (rw [if_neg (by decide +kernel)]; exact ⟨rfl, rfl⟩))
    (fun os started H enc _ => lifted os started H enc)

end Go.Proofs.YtgpdnhammdgndaaGreat.rankModelDone
namespace Go.Proofs.YtgpdnhammdgndaaGreat
theorem RankModel_holds : Rows.RankModelSaid := rankModelDone.over
end Go.Proofs.YtgpdnhammdgndaaGreat
