/- Stores that are the same: rostrumkeep.sameStore. -/
import Derived.Test.YtfnephnecighaaaGreatEyJ
import Derived.Test.YtfnephnecighaaaGreatGwJ
namespace Go.Proofs.YtfnephnecighaaaGreat
open Go.RowKit
set_option linter.unusedVariables false
set_option maxRecDepth 100000

theorem StL.opened {w : World} {now : Int} {ea : Option Addr} {m ec : Nat} {L : List Kv} (h : StL w now ea m ec L) : ∃ E : List Ent, E.length = m ∧ RowAt 8 encE w (.slice ea m ec) E ∧ (∀ e ∈ E, Lists w e.ps e.is e.ss e.kv.x) ∧ E.map (·.kv) = L := by
  obtain ⟨es, E, he, h1, h2, h3⟩ := h
  have he' : es = .slice ea m ec := by simp at he; exact he.symm
  subst he'
  have h1' := h1
  obtain ⟨-, a, c, hs, -⟩ := h1'
  simp only [Value.slice.injEq] at hs
  exact ⟨E, hs.2.1.symm, h1, h2, h3⟩

set_option maxHeartbeats 8000000 in
theorem sameStore_eq (now : Int) (ea eb : Option Addr) (n ec fc : Nat) (L : List Kv) (w : World) (h1 : StL w now ea n ec L) (h2 : StL w now eb n fc L) :
    Calls Tryz.prog 26 #[stoV now (.slice ea n ec), stoV now (.slice eb n fc)] w fun e w' => e = .returned (.bool true) ∧ Below w.heap.size w w' := by
  obtain ⟨E, hEn, hrE, hlE, hEL⟩ := h1.opened
  obtain ⟨F, hFn, hrF, hlF, hFL⟩ := h2.opened
  have hkv : ∀ j (h : j < E.length) (h' : j < F.length), F[j].kv = E[j].kv := fun j h h' => by
    have := congrArg (fun l => l[j]?) (hFL.trans hEL.symm)
    simpa [List.getElem?_map, List.getElem?_eq_getElem h, List.getElem?_eq_getElem h'] using this
  obtain ⟨hl1, a1, c1, hs1, k1, k2, k3⟩ := hrE
  obtain ⟨hl2, a2, c2, hs2, j1, j2, j3⟩ := hrF
  simp only [Value.slice.injEq] at hs1 hs2
  obtain ⟨rfl, -, rfl⟩ := hs1
  obtain ⟨rfl, -, rfl⟩ := hs2
  have HKV := hideE hkv
  have HLE := hideE hlE
  have HLF := hideE hlF
  have HN := hideE (show E.length = n ∧ F.length = n from ⟨hEn, hFn⟩)
  obtain ⟨n0, n1⟩ := two_new w (stoO now (.slice ea n ec)) (stoO now (.slice eb n fc))
  have hB0 : Below w.heap.size w ((w.alloc (stoO now (.slice ea n ec))).alloc (stoO now (.slice eb n fc))) := (balloc _ _).alloc (by simp) _
  have hn64 : (n : Int) ≤ 140737488355328 := by omega
  clear hkv hlE hlF hEL hFL h1 h2 hEn hFn
  go_enter Tryz.func26, Tryz.ntmps26
  go_upto_region 1 with fail
  generalize (w.alloc (stoO now (.slice ea n ec))).alloc (stoO now (.slice eb n fc)) = V at n0 n1 hB0 ⊢
  have HV : Hid (V.heap[w.heap.size]? = some (stoO now (.slice ea n ec)) ∧ V.heap[w.heap.size + 1]? = some (stoO now (.slice eb n fc)) ∧ Below w.heap.size w V) := ⟨n0, n1, hB0⟩
  obtain ⟨c0, f0⟩ := cellsB n0
  obtain ⟨d0, g0⟩ := cellsB n1
  clear n0 n1 hB0
  go_wp2_with fail
  clear c0 f0 d0 g0
  go_loopw [5] (fun c wr => ∃ k : Nat, k ≤ n ∧ c = .int .i64 k ∧ wr.heap[w.heap.size]? = some (stoO now (.slice ea n ec)) ∧ wr.heap[w.heap.size + 1]? = some (stoO now (.slice eb n fc)) ∧ Below w.heap.size w wr) (fun c _ => n - (intOf c).toNat)
  case atStart => exact ⟨0, Nat.zero_le _, rfl, HV.out.1, HV.out.2.1, HV.out.2.2⟩
  case round =>
    clear HV
    obtain ⟨k, hk, rfl, m0, m1, hB⟩ := hrel
    obtain ⟨c0, f0⟩ := cellsB m0
    obtain ⟨d0, g0⟩ := cellsB m1
    have l0 := lt_at m0
    have l1 := lt_at m1
    by_cases hlt : k < n
    · have hkE : k < E.length := by rw [HN.out.1]; exact hlt
      have hkF : k < F.length := by rw [HN.out.2]; exact hlt
      rcases k3 with ⟨-, h0, -⟩ | ⟨b, off, rfl, hbk, hc⟩
      · rw [h0] at hkE; simp at hkE
      rcases j3 with ⟨-, h0, -⟩ | ⟨b', off', rfl, hbk', hc'⟩
      · rw [h0] at hkF; simp at hkF
      have hcw : ∀ i (h : i < E.length) (c : Nat), c < 8 → wr.cell? ⟨b, off + i * 8 + c, none⟩ = (encE E[i])[c]? := fun i hi c hk => (hB.cell (p := ⟨b, off + i * 8 + c, none⟩) hbk).trans (hc i hi c hk)
      have hcw' : ∀ i (h : i < F.length) (c : Nat), c < 8 → wr.cell? ⟨b', off' + i * 8 + c, none⟩ = (encE F[i])[c]? := fun i hi c hk => (hB.cell (p := ⟨b', off' + i * 8 + c, none⟩) hbk').trans (hc' i hi c hk)
      obtain ⟨e0, e1, e2, e3, e4, e5, e6, e7⟩ := eightE hcw k hkE
      obtain ⟨x0, x1, x2, x3, x4, x5, x6, x7⟩ := eightE hcw' k hkF
      have hle := (HLE.out E[k] (List.getElem_mem hkE)).below hB
      have hlf := (HLF.out F[k] (List.getElem_mem hkF)).below hB
      have hkk := HKV.out k hkE hkF
      clear hcw hcw' hc hc'
      generalize E[k] = x at *
      generalize F[k] = y at *
      obtain ⟨⟨ekey, ⟨kind, text, count, pairs, items, scores⟩, til⟩, pa, pc, ia, ic, sa, sc⟩ := x
      obtain ⟨ykv, qa, qc, ja, jc, ta, tc⟩ := y
      simp only at hkk
      subst hkk
      simp only [Ent.ps, Ent.is, Ent.ss] at e0 e1 e2 e3 e4 e5 e6 e7 x0 x1 x2 x3 x4 x5 x6 x7 hle hlf
      have hki : (k : Int) < (n : Int) := by omega
      have hki0 : (0 : Int) ≤ (k : Int) := by omega
      have hbw : b < wr.heap.size := Nat.lt_of_lt_of_le hbk hB.size
      have hbw' : b' < wr.heap.size := Nat.lt_of_lt_of_le hbk' hB.size
      have HM : Hid (wr.heap[w.heap.size]? = some (stoO now (.slice (some ⟨b, off, none⟩) n ec)) ∧ wr.heap[w.heap.size + 1]? = some (stoO now (.slice (some ⟨b', off', none⟩) n fc)) ∧ Below w.heap.size w wr) := ⟨m0, m1, hB⟩
      have hb2 : Below wr.heap.size wr ((wr.alloc (entO ekey kind text count (.slice pa pairs.length pc) (.slice ia items.length ic) (.slice sa scores.length sc) til)).alloc (entO ekey kind text count (.slice qa pairs.length qc) (.slice ja items.length jc) (.slice ta scores.length tc) til)) := (balloc _ _).alloc (by simp) _
      have HS := hideE (sameValue_eq _ _ ⟨kind, text, count, pairs, items, scores⟩ _ ⟨_, _, _, rfl, hle.below hb2⟩ ⟨_, _, _, rfl, hlf.below hb2⟩)
      have HB2 := hideE hb2
      have hww : IntKind.i64.wrap ((k : Int) + 1) = (k : Int) + 1 := by rw [IntKind.wrap_i64]; omega
      clear m0 m1 hB hle hlf hb2
      go_wp2_with fail
      refine HS.out.mono ?_
      rintro e w2 ⟨rfl, hb3⟩
      have hb4 := bstep HB2.out hb3
      have p0 := (hb4.block _ l0).trans HM.out.1
      have p1 := (hb4.block _ l1).trans HM.out.2.1
      have hB := bstep HM.out.2.2 hb4
      clear e0 e1 e2 e3 e4 e5 e6 e7 x0 x1 x2 x3 x4 x5 x6 x7 c0 f0 d0 g0
      go_wp2_with fail
      go_roundw
      case rel => exact ⟨k + 1, by omega, by go_num, p0, p1, hB⟩
      case measure => simp [intOf]; omega
    · have hki : ¬ (k : Int) < (n : Int) := by omega
      go_wp2_with fail
      go_ret
      exact ⟨rfl, hB⟩
end Go.Proofs.YtfnephnecighaaaGreat
