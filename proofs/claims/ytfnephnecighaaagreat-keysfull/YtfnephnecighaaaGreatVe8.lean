/- slices.IndexFunc, slices.ContainsFunc at entries, whatever the closure. -/
import Derived.Test.YtfnephnecighaaaGreatWcJ
namespace Go.Proofs.YtfnephnecighaaaGreat
open Go.RowKit
set_option linter.unusedVariables false

set_option maxHeartbeats 2000000 in
theorem indexFuncE (g : Nat) (lb : Array Value) (pr : Ent → Bool) (s : Value) (l : List Ent) (eg : ∀ args w, (callFunc g args).run Tryz.prog w = .ok (.enter g args) w)
    (w : World) (hs : RowAt 8 encE w s l) (hf : ∀ e ∈ l, ∀ W, Below w.heap.size w W → Calls Tryz.prog g (#[valE e] ++ lb) W fun r w' => r = .returned (.bool (pr e)) ∧ Below W.heap.size W w') :
    Calls Tryz.prog 86 #[s, .func (.func g) #[] lb] w fun e w' => e = .returned (.int .i64 (idxI pr l)) ∧ Below w.heap.size w w' := by
  obtain ⟨hl, a, cap, rfl, h1, h2, h3⟩ := hs
  have HF : Hid (∀ e ∈ l, ∀ W, Below w.heap.size w W → Calls Tryz.prog g (#[valE e] ++ lb) W fun r w' => r = .returned (.bool (pr e)) ∧ Below W.heap.size W w') := hf
  clear hf
  go_enter Tryz.func86, Tryz.ntmps86
  go_wp2
  go_loopw [5, 8] (fun _ c wr => ∃ k : Nat, k ≤ l.length ∧ c = .int .i64 k ∧ Below w.heap.size w wr ∧ ∀ j (hj : j < k) (hl : j < l.length), pr l[j] = false) (fun _ c _ => l.length - (intOf c).toNat)
  case atStart => exact ⟨0, Nat.zero_le _, rfl, Below.refl _ _, fun j hj => absurd hj (Nat.not_lt_zero _)⟩
  case round =>
    obtain ⟨k, hk, rfl, hb, hno⟩ := hrel
    have HN : Hid (∀ j (hj : j < k) (hl : j < l.length), pr l[j] = false) := hno
    clear hno
    by_cases hlt : k < l.length
    · rcases h3 with ⟨-, rfl, -⟩ | ⟨b, off, rfl, hbk, hc⟩
      · simp at hlt
      · have hcw : ∀ i (h : i < l.length) (c : Nat), c < 8 → wr.cell? ⟨b, off + i * 8 + c, none⟩ = (encE l[i])[c]? := fun i hi c hk => (hb.cell (p := ⟨b, off + i * 8 + c, none⟩) hbk).trans (hc i hi c hk)
        obtain ⟨c0, c1, c2, c3, c4, c5, c6, c7⟩ := eightE hcw k hlt
        clear hc hcw
        go_wp2_with fail
        refine (HF.out l[k] (List.getElem_mem hlt) _ hb).mono ?_
        rintro e w1 ⟨rfl, hb1⟩
        have hB1 := bstep hb hb1
        clear hb1
        by_cases hp : pr l[k] = true
        · go_wp2_with fail
          go_ret
          exact ⟨ret_int (idxI_found pr l k hlt (fun j hj => HN.out j hj (by omega)) hp).symm, hB1⟩
        · have hp : pr l[k] = false := by simpa using hp
          go_wp2_with fail
          go_roundw
          case rel => exact ⟨k + 1, by omega, by go_num, hB1, fun j hj hl => by
            by_cases e : j = k
            · subst e; exact hp
            · exact HN.out j (by omega) hl⟩
          case measure => simp [intOf]; omega
    · go_wp2_with fail
      go_ret
      exact ⟨ret_int (idxI_none pr l (fun j hj => HN.out j (by omega) hj)).symm, hb⟩

set_option maxHeartbeats 400000 in
theorem containsFuncE (g : Nat) (lb : Array Value) (pr : Ent → Bool) (s : Value) (l : List Ent) (eg : ∀ args w, (callFunc g args).run Tryz.prog w = .ok (.enter g args) w)
    (w : World) (hs : RowAt 8 encE w s l) (hf : ∀ e ∈ l, ∀ W, Below w.heap.size w W → Calls Tryz.prog g (#[valE e] ++ lb) W fun r w' => r = .returned (.bool (pr e)) ∧ Below W.heap.size W w') :
    Calls Tryz.prog 48 #[s, .func (.func g) #[] lb] w fun e w' => e = .returned (.bool (anyB pr l)) ∧ Below w.heap.size w w' := by
  go_enter Tryz.func48, Tryz.ntmps48
  go_wp2_with fail
  refine (indexFuncE g lb pr s l eg w hs hf).mono ?_
  rintro e w1 ⟨rfl, hb1⟩
  go_wp2_with fail
  go_ret
  exact ⟨ret_bool (idxI_any pr l), hb1⟩
end Go.Proofs.YtfnephnecighaaaGreat
