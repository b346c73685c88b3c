/- Whether elements rise, whatever the closure that tells which of two is below. -/
import Derived.Test.YtfnephnecighaaaGreatVd
import Derived.Deep.RegionWith
namespace Go.Proofs.YtfnephnecighaaaGreat
open Go.RowKit
set_option linter.unusedVariables false

def risesB {α : Type} (lt : α → α → Bool) : List α → Bool
  | a :: b :: r => lt a b && risesB lt (b :: r)
  | _ => true
theorem risesB_iff {α : Type} (lt : α → α → Bool) : ∀ l : List α, risesB lt l = true ↔ ∀ i (h : i + 1 < l.length), lt (l[i]'(by omega)) l[i + 1] = true
  | [] => by simp [risesB]
  | [a] => by simp [risesB]
  | a :: b :: r => by
    rw [risesB, Bool.and_eq_true, risesB_iff lt (b :: r)]
    constructor
    · rintro ⟨h0, h⟩ i hi
      cases i with
      | zero => simpa using h0
      | succ i => exact h i (by simpa using hi)
    · intro h
      exact ⟨by simpa using h 0 (by simp), fun i hi => h (i + 1) (by simpa using hi)⟩
theorem risesB_not {α : Type} (lt : α → α → Bool) (l : List α) (i : Nat) (h : i + 1 < l.length) (hn : lt (l[i]'(by omega)) l[i + 1] = false) : risesB lt l = false := by
  rw [Bool.eq_false_iff]
  intro ht
  rw [(risesB_iff lt l).1 ht i h] at hn
  cases hn

/-- A closure that tells of two elements whether lt holds; of old memory nothing turns. -/
def LessOf (P : Program) {α : Type} (val : α → Value) (lt : α → α → Bool) (g : Nat) (lb : Array Value) (w : World) : Prop :=
  ∀ x y W, Below w.heap.size w W → Calls P g (#[val x, val y] ++ lb) W fun e w' => e = .returned (.bool (lt x y)) ∧ Below W.heap.size W w'

set_option maxHeartbeats 2000000 in
theorem riseP (g : Nat) (lt : (ByteArray × ByteArray) → (ByteArray × ByteArray) → Bool) (eg : ∀ args w, (callFunc g args).run Tryz.prog w = .ok (.enter g args) w)
    (s : Value) (l : List (ByteArray × ByteArray)) (w : World) (hs : RowAt 2 encP w s l) (hf : LessOf Tryz.prog valP lt g #[] w) :
    Calls Tryz.prog 118 #[s, .func (.func g) #[] #[]] w fun e w' => e = .returned (.bool (risesB lt l)) ∧ Below w.heap.size w w' := by
  obtain ⟨hl, a, cap, rfl, h1, h2, h3⟩ := hs
  go_enter Tryz.func118, Tryz.ntmps118
  go_wp2
  go_loopw [5] (fun c wr => ∃ m : Nat, c = .int .i64 ((m : Int) + 1) ∧ m ≤ l.length ∧ Below w.heap.size w wr ∧ ∀ j (hj : j < m) (hl : j + 1 < l.length), lt (l[j]'(by omega)) l[j + 1] = true) (fun c _ => l.length + 1 - (intOf c).toNat)
  case atStart => exact ⟨0, by simp, by omega, Below.refl _ _, fun j hj => absurd hj (by omega)⟩
  case round =>
    obtain ⟨m, rfl, hkl, hb, hyes⟩ := hrel
    have HY : Hid (∀ j (hj : j < m) (hl : j + 1 < l.length), lt (l[j]'(by omega)) l[j + 1] = true) := hyes
    clear hyes
    by_cases hlt : m + 1 < l.length
    · rcases h3 with ⟨-, rfl, -⟩ | ⟨b, off, rfl, hbk, hc⟩
      · simp at hlt
      · have c0 := (hb.cell (p := ⟨b, off + m * 2 + 0, none⟩) hbk).trans (hc m (by omega) 0 (by omega))
        have c1 := (hb.cell (p := ⟨b, off + m * 2 + 1, none⟩) hbk).trans (hc m (by omega) 1 (by omega))
        have d0 := (hb.cell (p := ⟨b, off + (m + 1) * 2 + 0, none⟩) hbk).trans (hc (m + 1) hlt 0 (by omega))
        have d1 := (hb.cell (p := ⟨b, off + (m + 1) * 2 + 1, none⟩) hbk).trans (hc (m + 1) hlt 1 (by omega))
        simp only [encP, List.getElem?_cons_zero, List.getElem?_cons_succ, Nat.add_zero] at c0 c1 d0 d1
        clear hc
        have hi1 : (m : Int) + 1 < (l.length : Int) := by omega
        have hi0 : (m : Int) < (l.length : Int) := by omega
        have hw0 : IntKind.i64.wrap (m : Int) = (m : Int) := by rw [IntKind.wrap_i64]; omega
        have hw1 : IntKind.i64.wrap ((m : Int) + 1) = (m : Int) + 1 := by rw [IntKind.wrap_i64]; omega
        go_wp2_with fail
        go_region_with (go_at_fn g; refine (hf l[m] l[m + 1] _ ?_).mono ?_; exact hb.drew; rintro e w1 ⟨rfl, hb1⟩)
        all_goals
          have hB1 := bstep hb.drew hb1
          clear hb1
          go_wp2_with fail
          · have hp : lt l[m] l[m + 1] = false := by simpa using ‹(!lt l[m] l[m + 1]) = true›
            go_ret
            exact ⟨ret_bool (risesB_not lt l m hlt hp).symm, hB1⟩
          · have hp : lt l[m] l[m + 1] = true := by simpa using ‹(!lt l[m] l[m + 1]) = false›
            exact ⟨⟨m + 1, by go_num, by omega, hB1, fun j hj hl => by
              by_cases e : j = m
              · subst e; exact hp
              · exact HY.out j (by omega) hl⟩, by simp [intOf]; omega⟩
    · have hge : ¬ (m : Int) + 1 < (l.length : Int) := by omega
      go_wp2_with fail
      go_ret
      exact ⟨ret_bool ((risesB_iff lt l).2 (fun j hj => HY.out j (by omega) hj)).symm, hb⟩
set_option maxHeartbeats 2000000 in
theorem riseS (g : Nat) (lt : (ByteArray × Int) → (ByteArray × Int) → Bool) (eg : ∀ args w, (callFunc g args).run Tryz.prog w = .ok (.enter g args) w)
    (s : Value) (l : List (ByteArray × Int)) (w : World) (hs : RowAt 2 encS w s l) (hf : LessOf Tryz.prog valS lt g #[] w) :
    Calls Tryz.prog 124 #[s, .func (.func g) #[] #[]] w fun e w' => e = .returned (.bool (risesB lt l)) ∧ Below w.heap.size w w' := by
  obtain ⟨hl, a, cap, rfl, h1, h2, h3⟩ := hs
  go_enter Tryz.func124, Tryz.ntmps124
  go_wp2
  go_loopw [5] (fun c wr => ∃ m : Nat, c = .int .i64 ((m : Int) + 1) ∧ m ≤ l.length ∧ Below w.heap.size w wr ∧ ∀ j (hj : j < m) (hl : j + 1 < l.length), lt (l[j]'(by omega)) l[j + 1] = true) (fun c _ => l.length + 1 - (intOf c).toNat)
  case atStart => exact ⟨0, by simp, by omega, Below.refl _ _, fun j hj => absurd hj (by omega)⟩
  case round =>
    obtain ⟨m, rfl, hkl, hb, hyes⟩ := hrel
    have HY : Hid (∀ j (hj : j < m) (hl : j + 1 < l.length), lt (l[j]'(by omega)) l[j + 1] = true) := hyes
    clear hyes
    by_cases hlt : m + 1 < l.length
    · rcases h3 with ⟨-, rfl, -⟩ | ⟨b, off, rfl, hbk, hc⟩
      · simp at hlt
      · have c0 := (hb.cell (p := ⟨b, off + m * 2 + 0, none⟩) hbk).trans (hc m (by omega) 0 (by omega))
        have c1 := (hb.cell (p := ⟨b, off + m * 2 + 1, none⟩) hbk).trans (hc m (by omega) 1 (by omega))
        have d0 := (hb.cell (p := ⟨b, off + (m + 1) * 2 + 0, none⟩) hbk).trans (hc (m + 1) hlt 0 (by omega))
        have d1 := (hb.cell (p := ⟨b, off + (m + 1) * 2 + 1, none⟩) hbk).trans (hc (m + 1) hlt 1 (by omega))
        simp only [encS, List.getElem?_cons_zero, List.getElem?_cons_succ, Nat.add_zero] at c0 c1 d0 d1
        clear hc
        have hi1 : (m : Int) + 1 < (l.length : Int) := by omega
        have hi0 : (m : Int) < (l.length : Int) := by omega
        have hw0 : IntKind.i64.wrap (m : Int) = (m : Int) := by rw [IntKind.wrap_i64]; omega
        have hw1 : IntKind.i64.wrap ((m : Int) + 1) = (m : Int) + 1 := by rw [IntKind.wrap_i64]; omega
        go_wp2_with fail
        go_region_with (go_at_fn g; refine (hf l[m] l[m + 1] _ ?_).mono ?_; exact hb.drew; rintro e w1 ⟨rfl, hb1⟩)
        all_goals
          have hB1 := bstep hb.drew hb1
          clear hb1
          go_wp2_with fail
          · have hp : lt l[m] l[m + 1] = false := by simpa using ‹(!lt l[m] l[m + 1]) = true›
            go_ret
            exact ⟨ret_bool (risesB_not lt l m hlt hp).symm, hB1⟩
          · have hp : lt l[m] l[m + 1] = true := by simpa using ‹(!lt l[m] l[m + 1]) = false›
            exact ⟨⟨m + 1, by go_num, by omega, hB1, fun j hj hl => by
              by_cases e : j = m
              · subst e; exact hp
              · exact HY.out j (by omega) hl⟩, by simp [intOf]; omega⟩
    · have hge : ¬ (m : Int) + 1 < (l.length : Int) := by omega
      go_wp2_with fail
      go_ret
      exact ⟨ret_bool ((risesB_iff lt l).2 (fun j hj => HY.out j (by omega) hj)).symm, hb⟩
set_option maxHeartbeats 2000000 in
theorem riseI (g : Nat) (lt : ByteArray → ByteArray → Bool) (eg : ∀ args w, (callFunc g args).run Tryz.prog w = .ok (.enter g args) w)
    (s : Value) (l : List ByteArray) (w : World) (hs : RowAt 1 encI w s l) (hf : LessOf Tryz.prog valI lt g #[] w) :
    Calls Tryz.prog 120 #[s, .func (.func g) #[] #[]] w fun e w' => e = .returned (.bool (risesB lt l)) ∧ Below w.heap.size w w' := by
  obtain ⟨hl, a, cap, rfl, h1, h2, h3⟩ := hs
  go_enter Tryz.func120, Tryz.ntmps120
  go_wp2
  go_loopw [5] (fun c wr => ∃ m : Nat, c = .int .i64 ((m : Int) + 1) ∧ m ≤ l.length ∧ Below w.heap.size w wr ∧ ∀ j (hj : j < m) (hl : j + 1 < l.length), lt (l[j]'(by omega)) l[j + 1] = true) (fun c _ => l.length + 1 - (intOf c).toNat)
  case atStart => exact ⟨0, by simp, by omega, Below.refl _ _, fun j hj => absurd hj (by omega)⟩
  case round =>
    obtain ⟨m, rfl, hkl, hb, hyes⟩ := hrel
    have HY : Hid (∀ j (hj : j < m) (hl : j + 1 < l.length), lt (l[j]'(by omega)) l[j + 1] = true) := hyes
    clear hyes
    by_cases hlt : m + 1 < l.length
    · rcases h3 with ⟨-, rfl, -⟩ | ⟨b, off, rfl, hbk, hc⟩
      · simp at hlt
      · have c0 := (hb.cell (p := ⟨b, off + m * 1 + 0, none⟩) hbk).trans (hc m (by omega) 0 (by omega))
        have d0 := (hb.cell (p := ⟨b, off + (m + 1) * 1 + 0, none⟩) hbk).trans (hc (m + 1) hlt 0 (by omega))
        simp only [encI, List.getElem?_cons_zero, Nat.add_zero, Nat.mul_one] at c0 d0
        clear hc
        have hi1 : (m : Int) + 1 < (l.length : Int) := by omega
        have hi0 : (m : Int) < (l.length : Int) := by omega
        have hw0 : IntKind.i64.wrap (m : Int) = (m : Int) := by rw [IntKind.wrap_i64]; omega
        have hw1 : IntKind.i64.wrap ((m : Int) + 1) = (m : Int) + 1 := by rw [IntKind.wrap_i64]; omega
        go_wp2_with fail
        go_region_with (go_at_fn g; refine (hf l[m] l[m + 1] _ ?_).mono ?_; exact hb.drew; rintro e w1 ⟨rfl, hb1⟩)
        all_goals
          have hB1 := bstep hb.drew hb1
          clear hb1
          go_wp2_with fail
          · have hp : lt l[m] l[m + 1] = false := by simpa using ‹(!lt l[m] l[m + 1]) = true›
            go_ret
            exact ⟨ret_bool (risesB_not lt l m hlt hp).symm, hB1⟩
          · have hp : lt l[m] l[m + 1] = true := by simpa using ‹(!lt l[m] l[m + 1]) = false›
            exact ⟨⟨m + 1, by go_num, by omega, hB1, fun j hj hl => by
              by_cases e : j = m
              · subst e; exact hp
              · exact HY.out j (by omega) hl⟩, by simp [intOf]; omega⟩
    · have hge : ¬ (m : Int) + 1 < (l.length : Int) := by omega
      go_wp2_with fail
      go_ret
      exact ⟨ret_bool ((risesB_iff lt l).2 (fun j hj => HY.out j (by omega) hj)).symm, hb⟩
end Go.Proofs.YtfnephnecighaaaGreat
