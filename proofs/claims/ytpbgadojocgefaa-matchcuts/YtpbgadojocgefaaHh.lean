/- Items that are the same: sameItems at equal lists. -/
import Derived.Test.YtpbgadojocgefaaHa
import Derived.BigQuiet
import Derived.Deep.QuietTactic
namespace Go.Proofs.Ytpbgadojocgefaa
open Go.RowKit
set_option linter.unusedVariables false
set_option maxRecDepth 100000

set_option maxHeartbeats 4000000 in
theorem sameItemsK (s s' : Value) (l : List Itm) (w : World) (hr : RowI w s l) (hr' : RowI w s' l) :
    Calls Try.prog 14 #[s, s'] w fun e w' => e = .returned (.bool true) ∧ Below w.heap.size w w' := by
  obtain ⟨hl, a, cap, rfl, h1, h2, h3⟩ := hr
  obtain ⟨-, a', cap', rfl, h1', h2', h3'⟩ := hr'
  go_enter Try.func14, Try.ntmps14
  go_wp2
  go_loopw [5] (fun c wr => ∃ (m : Nat), c = .int .i64 (m : Int) ∧ m ≤ l.length ∧ Below w.heap.size w wr) (fun c _ => l.length - (intOf c).toNat)
  case atStart => exact ⟨0, by simp, by omega, Below.refl _ _⟩
  case round =>
    obtain ⟨m, rfl, hm, hb⟩ := hrel
    by_cases hlt : m < l.length
    · have hi0 : (m : Int) < (l.length : Int) := by omega
      rcases h3 with rfl | ⟨bk, off, rfl, hbk, hc⟩
      · simp at hlt
      · rcases h3' with rfl | ⟨bk', off', rfl, hbk', hc'⟩
        · simp at hlt
        · have hcw : ∀ i (h : i < l.length) (c : Nat), c < 10 → wr.cell? ⟨bk, off + i * 10 + c, none⟩ = (encIt l[i])[c]? := fun i hi c hk => (hb.cell (p := ⟨bk, off + i * 10 + c, none⟩) hbk).trans (hc i hi c hk)
          have hcw' : ∀ i (h : i < l.length) (c : Nat), c < 10 → wr.cell? ⟨bk', off' + i * 10 + c, none⟩ = (encIt l[i])[c]? := fun i hi c hk => (hb.cell (p := ⟨bk', off' + i * 10 + c, none⟩) hbk').trans (hc' i hi c hk)
          obtain ⟨c0, c1, c2, c3, c4, c5, c6, c7, c8, c9⟩ := RowAt.ten hcw m hlt
          obtain ⟨d0, d1, d2, d3, d4, d5, d6, d7, d8, d9⟩ := RowAt.ten hcw' m hlt
          clear hc hcw hc' hcw'
          generalize l[m] = x at *
          obtain ⟨xt, xu, xp, xcl, xseq, ck, ckey, cfld, ctxt, cn⟩ := x
          simp only at *
          go_wp2_with fail
          go_quiet (fail)
          go_wp2_with fail
          refine ⟨⟨m + 1, by go_num, by omega, ⟨hb.os, hb.tape, hb.output, hb.size, hb.block⟩⟩, by simp [intOf]; omega⟩
    · have hge : ¬ (m : Int) < (l.length : Int) := by omega
      clear h3 h3'
      go_wp2_with fail
      go_ret
      exact ⟨rfl, hb⟩
set_option maxHeartbeats 4000000 in
theorem sameItemsL (s s' : Value) (l : List Itm) (w : World) (hr : RowI w s l) (hr' : RowI w s' l) :
    Calls Try.prog 22 #[s, s'] w fun e w' => e = .returned (.bool true) ∧ Below w.heap.size w w' := by
  obtain ⟨hl, a, cap, rfl, h1, h2, h3⟩ := hr
  obtain ⟨-, a', cap', rfl, h1', h2', h3'⟩ := hr'
  go_enter Try.func22, Try.ntmps22
  go_wp2
  go_loopw [5] (fun c wr => ∃ (m : Nat), c = .int .i64 (m : Int) ∧ m ≤ l.length ∧ Below w.heap.size w wr) (fun c _ => l.length - (intOf c).toNat)
  case atStart => exact ⟨0, by simp, by omega, Below.refl _ _⟩
  case round =>
    obtain ⟨m, rfl, hm, hb⟩ := hrel
    by_cases hlt : m < l.length
    · have hi0 : (m : Int) < (l.length : Int) := by omega
      rcases h3 with rfl | ⟨bk, off, rfl, hbk, hc⟩
      · simp at hlt
      · rcases h3' with rfl | ⟨bk', off', rfl, hbk', hc'⟩
        · simp at hlt
        · have hcw : ∀ i (h : i < l.length) (c : Nat), c < 10 → wr.cell? ⟨bk, off + i * 10 + c, none⟩ = (encIt l[i])[c]? := fun i hi c hk => (hb.cell (p := ⟨bk, off + i * 10 + c, none⟩) hbk).trans (hc i hi c hk)
          have hcw' : ∀ i (h : i < l.length) (c : Nat), c < 10 → wr.cell? ⟨bk', off' + i * 10 + c, none⟩ = (encIt l[i])[c]? := fun i hi c hk => (hb.cell (p := ⟨bk', off' + i * 10 + c, none⟩) hbk').trans (hc' i hi c hk)
          obtain ⟨c0, c1, c2, c3, c4, c5, c6, c7, c8, c9⟩ := RowAt.ten hcw m hlt
          obtain ⟨d0, d1, d2, d3, d4, d5, d6, d7, d8, d9⟩ := RowAt.ten hcw' m hlt
          clear hc hcw hc' hcw'
          generalize l[m] = x at *
          obtain ⟨xt, xu, xp, xcl, xseq, ck, ckey, cfld, ctxt, cn⟩ := x
          simp only at *
          go_wp2_with fail
          go_quiet (fail)
          go_wp2_with fail
          refine ⟨⟨m + 1, by go_num, by omega, ⟨hb.os, hb.tape, hb.output, hb.size, hb.block⟩⟩, by simp [intOf]; omega⟩
    · have hge : ¬ (m : Int) < (l.length : Int) := by omega
      clear h3 h3'
      go_wp2_with fail
      go_ret
      exact ⟨rfl, hb⟩
end Go.Proofs.Ytpbgadojocgefaa
