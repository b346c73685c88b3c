/- Texts, values that are the same: the law's own comparison says so. -/
import Derived.Test.YtgpdnhammdgndaaGreatVcJ
import Derived.Deep.QuietTactic
import Derived.BigQuiet
namespace Go.Proofs.YtgpdnhammdgndaaGreat
open Go.RowKit
set_option linter.unusedVariables false

set_option maxHeartbeats 2000000 in
theorem sameTexts_eq (s t : Value) (l : List ByteArray) (w : World) (hs : RowAt 1 encI w s l) (ht : RowAt 1 encI w t l) :
    Calls Tryz.prog 18 #[s, t] w fun e w' => e = .returned (.bool true) ∧ Below w.heap.size w w' := by
  obtain ⟨hl, a, cap, rfl, h1, h2, h3⟩ := hs
  obtain ⟨-, b, cap', rfl, k1, k2, k3⟩ := ht
  go_enter Tryz.func18, Tryz.ntmps18
  go_wp2
  go_loopw [5] (fun c wr => ∃ m : Nat, c = .int .i64 (m : Int) ∧ m ≤ l.length ∧ Below w.heap.size w wr) (fun c _ => l.length - (intOf c).toNat)
  case atStart => exact ⟨0, rfl, by omega, Below.refl _ _⟩
  case round =>
    obtain ⟨m, rfl, hm, hb⟩ := hrel
    by_cases hlt : m < l.length
    · rcases h3 with ⟨-, hn, -⟩ | ⟨g, off, rfl, hgk, hc⟩
      · rw [hn] at hlt; simp at hlt
      · rcases k3 with ⟨-, hn, -⟩ | ⟨g', off', rfl, hgk', hc'⟩
        · rw [hn] at hlt; simp at hlt
        · have c0 := (hb.cell (p := ⟨g, off + m * 1 + 0, none⟩) hgk).trans (hc m hlt 0 (by omega))
          have d0 := (hb.cell (p := ⟨g', off' + m * 1 + 0, none⟩) hgk').trans (hc' m hlt 0 (by omega))
          simp only [encI, List.getElem?_cons_zero, Nat.add_zero, Nat.mul_one] at c0 d0
          generalize l[m] = x at c0 d0
          clear hc hc'
          have hi : (m : Int) < (l.length : Int) := by omega
          go_wp2_with fail
          go_quiet (fail)
          go_wp2_with fail
          exact ⟨⟨m + 1, by go_num, by omega, below_drewN hb _⟩, by simp [intOf]; omega⟩
    · have hge : ¬ (m : Int) < (l.length : Int) := by omega
      go_wp2_with fail
      go_ret
      exact ⟨rfl, hb⟩

theorem block_cellsK {w : World} {b : Nat} {cs : Array Value} {t : TypeId} (h : w.heap[b]? = some (.cells cs t (0, 0))) : (∀ o, w.cell? ⟨b, o, none⟩ = cs[o]?) ∧ (∀ o, w.frozen? ⟨b, o, none⟩ = false) :=
  ⟨fun o => by unfold World.cell?; rw [h]; simp, fun o => by unfold World.frozen?; rw [h]; simp⟩

end Go.Proofs.YtgpdnhammdgndaaGreat
