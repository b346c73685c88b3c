/- Texts, values that are the same: the law's own comparison says so. -/
import Derived.Test.YtndadgjidihfeaaGreatVbJ
import Derived.Deep.QuietTactic
import Derived.BigQuiet
namespace Go.Proofs.YtndadgjidihfeaaGreat
open Go.RowKit
set_option linter.unusedVariables false

set_option maxHeartbeats 2000000 in
theorem sameTexts_eq (s t : Value) (l : List ByteArray) (w : World) (hs : RowAt 1 encI w s l) (ht : RowAt 1 encI w t l) :
    Calls Tryz.prog 30 #[s, t] w fun e w' => e = .returned (.bool true) ∧ Below w.heap.size w w' := by
  obtain ⟨hl, a, cap, rfl, h1, h2, h3⟩ := hs
  obtain ⟨-, b, cap', rfl, k1, k2, k3⟩ := ht
  go_enter Tryz.func30, Tryz.ntmps30
  go_wp2
  go_loopw [5] (fun c wr => ∃ m : Nat, c = .int .i64 (m : Int) ∧ m ≤ l.length ∧ Below w.heap.size w wr) (fun c _ => l.length - (intOf c).toNat)
  case atStart => exact ⟨0, rfl, by omega, Below.refl _ _⟩
  case round =>
    obtain ⟨m, rfl, hm, hb⟩ := hrel
    by_cases hlt : m < l.length
    · rcases h3 with ⟨-, hn, -⟩ | ⟨g, off, rfl, hgk, hc⟩
      · rw [hn] at hlt; simp at hlt
      · rcases k3 with ⟨-, hn, -⟩ | ⟨g', off', rfl, hgk', hc'⟩
        · rw [hn] at hlt; simp at hlt
        · have c0 := (hb.cell (p := ⟨g, off + m * 1 + 0, none⟩) hgk).trans (hc m hlt 0 (by omega))
          have d0 := (hb.cell (p := ⟨g', off' + m * 1 + 0, none⟩) hgk').trans (hc' m hlt 0 (by omega))
          simp only [encI, List.getElem?_cons_zero, Nat.add_zero, Nat.mul_one] at c0 d0
          generalize l[m] = x at c0 d0
          clear hc hc'
          have hi : (m : Int) < (l.length : Int) := by omega
          go_wp2_with fail
          go_quiet (fail)
          go_wp2_with fail
          exact ⟨⟨m + 1, by go_num, by omega, below_drewN hb _⟩, by simp [intOf]; omega⟩
    · have hge : ¬ (m : Int) < (l.length : Int) := by omega
      go_wp2_with fail
      go_ret
      exact ⟨rfl, hb⟩

theorem block_cellsK {w : World} {b : Nat} {cs : Array Value} {t : TypeId} (h : w.heap[b]? = some (.cells cs t (0, 0))) : (∀ o, w.cell? ⟨b, o, none⟩ = cs[o]?) ∧ (∀ o, w.frozen? ⟨b, o, none⟩ = false) :=
  ⟨fun o => by unfold World.cell?; rw [h]; simp, fun o => by unfold World.frozen?; rw [h]; simp⟩

set_option maxHeartbeats 4000000 in
theorem sameValue_eq (u v : Value) (x : Val) (w : World) (hu : Reps w u x) (hv : Reps w v x) :
    Calls Tryz.prog 25 #[u, v] w fun e w' => e = .returned (.bool true) ∧ Below w.heap.size w w' := by
  obtain ⟨ps, is, ss, rfl, hl⟩ := hu
  obtain ⟨ps', is', ss', rfl, hl'⟩ := hv
  have ht := fun W (hb : Below w.heap.size w W) => sameTexts_eq is is' x.items W (hl.i.below hb) (hl'.i.below hb)
  obtain ⟨ia, ic, hia⟩ : ∃ ia ic, is = .slice ia x.items.length ic := by obtain ⟨-, a, c, h, -⟩ := hl.i; exact ⟨a, c, h⟩
  obtain ⟨ia', ic', hia'⟩ : ∃ ia ic, is' = .slice ia x.items.length ic := by obtain ⟨-, a, c, h, -⟩ := hl'.i; exact ⟨a, c, h⟩
  subst hia hia'
  have HT : Hid (∀ W, Below w.heap.size w W → Calls Tryz.prog 30 #[.slice ia x.items.length ic, .slice ia' x.items.length ic'] W fun e w' => e = .returned (.bool true) ∧ Below W.heap.size W w') := ht
  obtain ⟨hpl, pa, pcap, rfl, hp1, hp2, hp3⟩ := hl.p
  obtain ⟨-, pa', pcap', rfl, hp1', hp2', hp3'⟩ := hl'.p
  obtain ⟨hsl, sa, scap, rfl, hs1, hs2, hs3⟩ := hl.s
  obtain ⟨-, sa', scap', rfl, hs1', hs2', hs3'⟩ := hl'.s
  clear ht hl hl'
  generalize x.pairs = pl at *
  generalize x.scores = sl at *
  generalize x.items.length = ni at *
  generalize x.kind = kind at *
  generalize x.text = text at *
  generalize x.count = count at *
  have hb0 : Below w.heap.size w ((w.alloc (valO kind text count (.slice pa pl.length pcap) (.slice ia ni ic) (.slice sa sl.length scap))).alloc (valO kind text count (.slice pa' pl.length pcap') (.slice ia' ni ic') (.slice sa' sl.length scap'))) := (balloc _ _).alloc (by simp) _
  obtain ⟨hn0, hn1⟩ : ((w.alloc (valO kind text count (.slice pa pl.length pcap) (.slice ia ni ic) (.slice sa sl.length scap))).alloc (valO kind text count (.slice pa' pl.length pcap') (.slice ia' ni ic') (.slice sa' sl.length scap'))).heap[w.heap.size]? = some (valO kind text count (.slice pa pl.length pcap) (.slice ia ni ic) (.slice sa sl.length scap)) ∧ ((w.alloc (valO kind text count (.slice pa pl.length pcap) (.slice ia ni ic) (.slice sa sl.length scap))).alloc (valO kind text count (.slice pa' pl.length pcap') (.slice ia' ni ic') (.slice sa' sl.length scap'))).heap[w.heap.size + 1]? = some (valO kind text count (.slice pa' pl.length pcap') (.slice ia' ni ic') (.slice sa' sl.length scap')) := by
    constructor
    · rw [Below.heap_alloc _ _ _ (by simp)]
      show ((_ : Array Obj).push _)[_]? = _
      simp
    · show ((_ : Array Obj).push _)[_]? = _
      rw [Array.getElem?_push, if_pos (by simp)]
  have hz0 : ((w.alloc (valO kind text count (.slice pa pl.length pcap) (.slice ia ni ic) (.slice sa sl.length scap))).alloc (valO kind text count (.slice pa' pl.length pcap') (.slice ia' ni ic') (.slice sa' sl.length scap'))).heap.size = w.heap.size + 2 := by simp
  go_enter Tryz.func25, Tryz.ntmps25
  go_wp2_with fail
  generalize (w.alloc (valO kind text count (.slice pa pl.length pcap) (.slice ia ni ic) (.slice sa sl.length scap))).alloc (valO kind text count (.slice pa' pl.length pcap') (.slice ia' ni ic') (.slice sa' sl.length scap')) = w0 at hb0 hn0 hn1 hz0 ⊢
  refine (HT.out _ hb0).mono ?_
  rintro e w1 ⟨rfl, hb1⟩
  rw [hz0] at hb1
  obtain ⟨hx0, fx0⟩ := block_cellsK ((hb1.block w.heap.size (by omega)).trans hn0)
  obtain ⟨hx1, fx1⟩ := block_cellsK ((hb1.block (w.heap.size + 1) (by omega)).trans hn1)
  go_wp2_with fail
  clear hx0 fx0 hx1 fx1
  go_loopw [5] (fun c wr => ∃ m : Nat, c = .int .i64 (m : Int) ∧ m ≤ pl.length ∧ Below (w.heap.size + 2) w0 wr) (fun c _ => pl.length - (intOf c).toNat)
  case atStart => exact ⟨0, rfl, by omega, hb1⟩
  case round =>
    obtain ⟨m, rfl, hm, hb⟩ := hrel
    obtain ⟨hx0, fx0⟩ := block_cellsK ((hb.block w.heap.size (by omega)).trans hn0)
    obtain ⟨hx1, fx1⟩ := block_cellsK ((hb.block (w.heap.size + 1) (by omega)).trans hn1)
    by_cases hlt : m < pl.length
    · rcases hp3 with ⟨-, hn, -⟩ | ⟨g, off, rfl, hgk, hc⟩
      · rw [hn] at hlt; simp at hlt
      · rcases hp3' with ⟨-, hn, -⟩ | ⟨g', off', rfl, hgk', hc'⟩
        · rw [hn] at hlt; simp at hlt
        · have c0 := (hb.cell (p := ⟨g, off + m * 2 + 0, none⟩) (show g < _ by omega)).trans ((hb0.cell (p := ⟨g, off + m * 2 + 0, none⟩) hgk).trans (hc m hlt 0 (by omega)))
          have c1 := (hb.cell (p := ⟨g, off + m * 2 + 1, none⟩) (show g < _ by omega)).trans ((hb0.cell (p := ⟨g, off + m * 2 + 1, none⟩) hgk).trans (hc m hlt 1 (by omega)))
          have d0 := (hb.cell (p := ⟨g', off' + m * 2 + 0, none⟩) (show g' < _ by omega)).trans ((hb0.cell (p := ⟨g', off' + m * 2 + 0, none⟩) hgk').trans (hc' m hlt 0 (by omega)))
          have d1 := (hb.cell (p := ⟨g', off' + m * 2 + 1, none⟩) (show g' < _ by omega)).trans ((hb0.cell (p := ⟨g', off' + m * 2 + 1, none⟩) hgk').trans (hc' m hlt 1 (by omega)))
          simp only [encP, List.getElem?_cons_zero, List.getElem?_cons_succ, Nat.add_zero] at c0 c1 d0 d1
          generalize pl[m] = q at c0 c1 d0 d1
          obtain ⟨q1, q2⟩ := q
          clear hc hc'
          have hi : (m : Int) < (pl.length : Int) := by omega
          go_wp2_with fail
          go_quiet (fail)
          go_wp2_with fail
          exact ⟨⟨m + 1, by go_num, by omega, below_drewN hb _⟩, by simp [intOf]; omega⟩
    · have hge : ¬ (m : Int) < (pl.length : Int) := by omega
      go_wp2_with fail
      clear hx0 fx0 hx1 fx1
      go_loopw [6] (fun c wq => ∃ m : Nat, c = .int .i64 (m : Int) ∧ m ≤ sl.length ∧ Below (w.heap.size + 2) w0 wq) (fun c _ => sl.length - (intOf c).toNat)
      case atStart => exact ⟨0, rfl, by omega, hb⟩
      case round =>
        obtain ⟨m, rfl, hm, hb⟩ := hrel
        obtain ⟨hx0, fx0⟩ := block_cellsK ((hb.block w.heap.size (by omega)).trans hn0)
        obtain ⟨hx1, fx1⟩ := block_cellsK ((hb.block (w.heap.size + 1) (by omega)).trans hn1)
        by_cases hlt : m < sl.length
        · rcases hs3 with ⟨-, hn, -⟩ | ⟨g, off, rfl, hgk, hc⟩
          · rw [hn] at hlt; simp at hlt
          · rcases hs3' with ⟨-, hn, -⟩ | ⟨g', off', rfl, hgk', hc'⟩
            · rw [hn] at hlt; simp at hlt
            · have c0 := (hb.cell (p := ⟨g, off + m * 2 + 0, none⟩) (show g < _ by omega)).trans ((hb0.cell (p := ⟨g, off + m * 2 + 0, none⟩) hgk).trans (hc m hlt 0 (by omega)))
              have c1 := (hb.cell (p := ⟨g, off + m * 2 + 1, none⟩) (show g < _ by omega)).trans ((hb0.cell (p := ⟨g, off + m * 2 + 1, none⟩) hgk).trans (hc m hlt 1 (by omega)))
              have d0 := (hb.cell (p := ⟨g', off' + m * 2 + 0, none⟩) (show g' < _ by omega)).trans ((hb0.cell (p := ⟨g', off' + m * 2 + 0, none⟩) hgk').trans (hc' m hlt 0 (by omega)))
              have d1 := (hb.cell (p := ⟨g', off' + m * 2 + 1, none⟩) (show g' < _ by omega)).trans ((hb0.cell (p := ⟨g', off' + m * 2 + 1, none⟩) hgk').trans (hc' m hlt 1 (by omega)))
              simp only [encS, List.getElem?_cons_zero, List.getElem?_cons_succ, Nat.add_zero] at c0 c1 d0 d1
              generalize sl[m] = q at c0 c1 d0 d1
              obtain ⟨q1, q2⟩ := q
              clear hc hc'
              have hi : (m : Int) < (sl.length : Int) := by omega
              go_wp2_with fail
              go_quiet (fail)
              go_wp2_with fail
              exact ⟨⟨m + 1, by go_num, by omega, below_drewN hb _⟩, by simp [intOf]; omega⟩
        · have hge : ¬ (m : Int) < (sl.length : Int) := by omega
          go_wp2_with fail
          go_ret
          exact ⟨rfl, hb0.trans (hb.mono (by omega))⟩
end Go.Proofs.YtndadgjidihfeaaGreat
