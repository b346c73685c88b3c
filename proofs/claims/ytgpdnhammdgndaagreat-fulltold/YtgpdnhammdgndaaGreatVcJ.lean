/- slices.IndexFunc, slices.ContainsFunc at the three element types, whatever the closure. -/
import Derived.Test.YtgpdnhammdgndaaGreatVaJ
import Derived.Test.YtgpdnhammdgndaaGreatCbJ
namespace Go.Proofs.YtgpdnhammdgndaaGreat
open Go.RowKit
set_option linter.unusedVariables false

/-- The first place at which pr holds, or -1. -/
def idxI {α : Type} (pr : α → Bool) (l : List α) : Int := match l.findIdx? pr with | some i => (i : Int) | none => -1
theorem idxI_found {α : Type} (pr : α → Bool) (l : List α) (k : Nat) (hk : k < l.length) (h : ∀ j (hj : j < k), pr (l[j]'(by omega)) = false) (hp : pr l[k] = true) : idxI pr l = k := by
  have : l.findIdx? pr = some k := by
    rw [List.findIdx?_eq_some_iff_getElem]
    exact ⟨hk, hp, fun j hj => by simp [h j hj]⟩
  rw [idxI, this]
theorem idxI_none {α : Type} (pr : α → Bool) (l : List α) (h : ∀ j (hj : j < l.length), pr l[j] = false) : idxI pr l = -1 := by
  have : l.findIdx? pr = none := by
    rw [List.findIdx?_eq_none_iff]
    intro x hx
    obtain ⟨j, hj, rfl⟩ := List.getElem_of_mem hx
    exact h j hj
  rw [idxI, this]

/-- A closure that takes an element and answers whether pr holds; of old memory nothing turns. -/
def PredOf (P : Program) {α : Type} (val : α → Value) (pr : α → Bool) (g : Nat) (lb : Array Value) (w : World) : Prop :=
  ∀ x W, Below w.heap.size w W → Calls P g (#[val x] ++ lb) W fun e w' => e = .returned (.bool (pr x)) ∧ Below W.heap.size W w'

abbrev valP (x : ByteArray × ByteArray) : Value := .agg #[.string x.1, .string x.2]
abbrev valS (x : ByteArray × Int) : Value := .agg #[.string x.1, .int .i64 x.2]

def anyB {α : Type} (pr : α → Bool) (l : List α) : Bool := l.any pr
theorem idxI_any {α : Type} (pr : α → Bool) (l : List α) : decide (0 ≤ idxI pr l) = anyB pr l := by
  show _ = l.any pr
  rw [Bool.eq_iff_iff, decide_eq_true_iff]
  unfold idxI
  cases h : l.findIdx? pr with
  | none =>
    rw [List.findIdx?_eq_none_iff] at h
    simp only [List.any_eq_true]
    constructor
    · intro h0; omega
    · rintro ⟨x, hx, hp⟩; rw [h x hx] at hp; cases hp
  | some i =>
    rw [List.findIdx?_eq_some_iff_getElem] at h
    obtain ⟨hi, hp, -⟩ := h
    simp only [List.any_eq_true]
    exact ⟨fun _ => ⟨_, List.getElem_mem hi, hp⟩, fun _ => by omega⟩

abbrev valI (x : ByteArray) : Value := .string x

set_option maxHeartbeats 1000000 in
theorem indexFuncP (g : Nat) (lb : Array Value) (pr : ByteArray × ByteArray → Bool) (eg : ∀ args w, (callFunc g args).run Tryz.prog w = .ok (.enter g args) w)
    (s : Value) (l : List (ByteArray × ByteArray)) (w : World) (hs : RowAt 2 encP w s l) (hf : PredOf Tryz.prog valP pr g lb w) :
    Calls Tryz.prog 108 #[s, .func (.func g) #[] lb] w fun e w' => e = .returned (.int .i64 (idxI pr l)) ∧ Below w.heap.size w w' := by
  obtain ⟨hl, a, cap, rfl, h1, h2, h3⟩ := hs
  have HF : Hid _ := hf
  clear hf
  go_enter Tryz.func108, Tryz.ntmps108
  go_wp2
  go_loopw [5, 8] (fun _ c wr => ∃ k : Nat, k ≤ l.length ∧ c = .int .i64 k ∧ Below w.heap.size w wr ∧ ∀ j (hj : j < k) (hl : j < l.length), pr l[j] = false) (fun _ c _ => l.length - (intOf c).toNat)
  case atStart => exact ⟨0, Nat.zero_le _, rfl, Below.refl _ _, fun j hj => absurd hj (Nat.not_lt_zero _)⟩
  case round =>
    obtain ⟨k, hk, rfl, hb, hno⟩ := hrel
    have HN : Hid _ := hno
    clear hno
    by_cases hlt : k < l.length
    · rcases h3 with ⟨-, rfl, -⟩ | ⟨b, off, rfl, hbk, hc⟩
      · simp at hlt
      · have c0 := (hb.cell (p := ⟨b, off + k * 2 + 0, none⟩) hbk).trans (hc k hlt 0 (by omega))
        have c1 := (hb.cell (p := ⟨b, off + k * 2 + 1, none⟩) hbk).trans (hc k hlt 1 (by omega))
        simp only [encP, List.getElem?_cons_zero, List.getElem?_cons_succ, Nat.add_zero] at c0 c1
        clear hc
        go_wp2_with fail
        refine (HF.out l[k] _ hb).mono ?_
        rintro e w1 ⟨rfl, hb1⟩
        have hB1 := bstep hb hb1
        clear hb1
        by_cases hp : pr l[k] = true
        · go_wp2_with fail
          go_ret
          exact ⟨ret_int (idxI_found pr l k hlt (fun j hj => HN.out j hj (by omega)) hp).symm, hB1⟩
        · have hp : pr l[k] = false := by simpa using hp
          go_wp2_with fail
          go_roundw
          case rel => exact ⟨k + 1, by omega, by go_num, hB1, fun j hj hl => by
            by_cases e : j = k
            · subst e; exact hp
            · exact HN.out j (by omega) hl⟩
          case measure => simp [intOf]; omega
    · go_wp2_with fail
      go_ret
      exact ⟨ret_int (idxI_none pr l (fun j hj => HN.out j (by omega) hj)).symm, hb⟩

set_option maxHeartbeats 400000 in
theorem containsFuncP (g : Nat) (lb : Array Value) (pr : ByteArray × ByteArray → Bool) (eg : ∀ args w, (callFunc g args).run Tryz.prog w = .ok (.enter g args) w)
    (s : Value) (l : List (ByteArray × ByteArray)) (w : World) (hs : RowAt 2 encP w s l) (hf : PredOf Tryz.prog valP pr g lb w) :
    Calls Tryz.prog 76 #[s, .func (.func g) #[] lb] w fun e w' => e = .returned (.bool (anyB pr l)) ∧ Below w.heap.size w w' := by
  go_enter Tryz.func76, Tryz.ntmps76
  go_wp2_with fail
  refine (indexFuncP g lb pr eg s l w hs hf).mono ?_
  rintro e w1 ⟨rfl, hb1⟩
  go_wp2_with fail
  go_ret
  exact ⟨ret_bool (idxI_any pr l), hb1⟩

set_option maxHeartbeats 1000000 in
theorem indexFuncI (g : Nat) (lb : Array Value) (pr : ByteArray → Bool) (eg : ∀ args w, (callFunc g args).run Tryz.prog w = .ok (.enter g args) w)
    (s : Value) (l : List (ByteArray)) (w : World) (hs : RowAt 1 encI w s l) (hf : PredOf Tryz.prog valI pr g lb w) :
    Calls Tryz.prog 109 #[s, .func (.func g) #[] lb] w fun e w' => e = .returned (.int .i64 (idxI pr l)) ∧ Below w.heap.size w w' := by
  obtain ⟨hl, a, cap, rfl, h1, h2, h3⟩ := hs
  have HF : Hid _ := hf
  clear hf
  go_enter Tryz.func109, Tryz.ntmps109
  go_wp2
  go_loopw [5, 8] (fun _ c wr => ∃ k : Nat, k ≤ l.length ∧ c = .int .i64 k ∧ Below w.heap.size w wr ∧ ∀ j (hj : j < k) (hl : j < l.length), pr l[j] = false) (fun _ c _ => l.length - (intOf c).toNat)
  case atStart => exact ⟨0, Nat.zero_le _, rfl, Below.refl _ _, fun j hj => absurd hj (Nat.not_lt_zero _)⟩
  case round =>
    obtain ⟨k, hk, rfl, hb, hno⟩ := hrel
    have HN : Hid _ := hno
    clear hno
    by_cases hlt : k < l.length
    · rcases h3 with ⟨-, rfl, -⟩ | ⟨b, off, rfl, hbk, hc⟩
      · simp at hlt
      · have c0 := (hb.cell (p := ⟨b, off + k * 1 + 0, none⟩) hbk).trans (hc k hlt 0 (by omega))
        simp only [encI, List.getElem?_cons_zero, Nat.add_zero, Nat.mul_one] at c0
        clear hc
        go_wp2_with fail
        refine (HF.out l[k] _ hb).mono ?_
        rintro e w1 ⟨rfl, hb1⟩
        have hB1 := bstep hb hb1
        clear hb1
        by_cases hp : pr l[k] = true
        · go_wp2_with fail
          go_ret
          exact ⟨ret_int (idxI_found pr l k hlt (fun j hj => HN.out j hj (by omega)) hp).symm, hB1⟩
        · have hp : pr l[k] = false := by simpa using hp
          go_wp2_with fail
          go_roundw
          case rel => exact ⟨k + 1, by omega, by go_num, hB1, fun j hj hl => by
            by_cases e : j = k
            · subst e; exact hp
            · exact HN.out j (by omega) hl⟩
          case measure => simp [intOf]; omega
    · go_wp2_with fail
      go_ret
      exact ⟨ret_int (idxI_none pr l (fun j hj => HN.out j (by omega) hj)).symm, hb⟩

set_option maxHeartbeats 400000 in
theorem containsFuncI (g : Nat) (lb : Array Value) (pr : ByteArray → Bool) (eg : ∀ args w, (callFunc g args).run Tryz.prog w = .ok (.enter g args) w)
    (s : Value) (l : List (ByteArray)) (w : World) (hs : RowAt 1 encI w s l) (hf : PredOf Tryz.prog valI pr g lb w) :
    Calls Tryz.prog 77 #[s, .func (.func g) #[] lb] w fun e w' => e = .returned (.bool (anyB pr l)) ∧ Below w.heap.size w w' := by
  go_enter Tryz.func77, Tryz.ntmps77
  go_wp2_with fail
  refine (indexFuncI g lb pr eg s l w hs hf).mono ?_
  rintro e w1 ⟨rfl, hb1⟩
  go_wp2_with fail
  go_ret
  exact ⟨ret_bool (idxI_any pr l), hb1⟩

set_option maxHeartbeats 1000000 in
theorem indexFuncS (g : Nat) (lb : Array Value) (pr : ByteArray × Int → Bool) (eg : ∀ args w, (callFunc g args).run Tryz.prog w = .ok (.enter g args) w)
    (s : Value) (l : List (ByteArray × Int)) (w : World) (hs : RowAt 2 encS w s l) (hf : PredOf Tryz.prog valS pr g lb w) :
    Calls Tryz.prog 103 #[s, .func (.func g) #[] lb] w fun e w' => e = .returned (.int .i64 (idxI pr l)) ∧ Below w.heap.size w w' := by
  obtain ⟨hl, a, cap, rfl, h1, h2, h3⟩ := hs
  have HF : Hid _ := hf
  clear hf
  go_enter Tryz.func103, Tryz.ntmps103
  go_wp2
  go_loopw [5, 8] (fun _ c wr => ∃ k : Nat, k ≤ l.length ∧ c = .int .i64 k ∧ Below w.heap.size w wr ∧ ∀ j (hj : j < k) (hl : j < l.length), pr l[j] = false) (fun _ c _ => l.length - (intOf c).toNat)
  case atStart => exact ⟨0, Nat.zero_le _, rfl, Below.refl _ _, fun j hj => absurd hj (Nat.not_lt_zero _)⟩
  case round =>
    obtain ⟨k, hk, rfl, hb, hno⟩ := hrel
    have HN : Hid _ := hno
    clear hno
    by_cases hlt : k < l.length
    · rcases h3 with ⟨-, rfl, -⟩ | ⟨b, off, rfl, hbk, hc⟩
      · simp at hlt
      · have c0 := (hb.cell (p := ⟨b, off + k * 2 + 0, none⟩) hbk).trans (hc k hlt 0 (by omega))
        have c1 := (hb.cell (p := ⟨b, off + k * 2 + 1, none⟩) hbk).trans (hc k hlt 1 (by omega))
        simp only [encS, List.getElem?_cons_zero, List.getElem?_cons_succ, Nat.add_zero] at c0 c1
        clear hc
        go_wp2_with fail
        refine (HF.out l[k] _ hb).mono ?_
        rintro e w1 ⟨rfl, hb1⟩
        have hB1 := bstep hb hb1
        clear hb1
        by_cases hp : pr l[k] = true
        · go_wp2_with fail
          go_ret
          exact ⟨ret_int (idxI_found pr l k hlt (fun j hj => HN.out j hj (by omega)) hp).symm, hB1⟩
        · have hp : pr l[k] = false := by simpa using hp
          go_wp2_with fail
          go_roundw
          case rel => exact ⟨k + 1, by omega, by go_num, hB1, fun j hj hl => by
            by_cases e : j = k
            · subst e; exact hp
            · exact HN.out j (by omega) hl⟩
          case measure => simp [intOf]; omega
    · go_wp2_with fail
      go_ret
      exact ⟨ret_int (idxI_none pr l (fun j hj => HN.out j (by omega) hj)).symm, hb⟩

set_option maxHeartbeats 400000 in
theorem containsFuncS (g : Nat) (lb : Array Value) (pr : ByteArray × Int → Bool) (eg : ∀ args w, (callFunc g args).run Tryz.prog w = .ok (.enter g args) w)
    (s : Value) (l : List (ByteArray × Int)) (w : World) (hs : RowAt 2 encS w s l) (hf : PredOf Tryz.prog valS pr g lb w) :
    Calls Tryz.prog 78 #[s, .func (.func g) #[] lb] w fun e w' => e = .returned (.bool (anyB pr l)) ∧ Below w.heap.size w w' := by
  go_enter Tryz.func78, Tryz.ntmps78
  go_wp2_with fail
  refine (indexFuncS g lb pr eg s l w hs hf).mono ?_
  rintro e w1 ⟨rfl, hb1⟩
  go_wp2_with fail
  go_ret
  exact ⟨ret_bool (idxI_any pr l), hb1⟩

end Go.Proofs.YtgpdnhammdgndaaGreat

/- Commands as data; blocks that two worlds have in common. -/
namespace Go.Proofs.YtgpdnhammdgndaaGreat
open Go.RowKit
set_option linter.unusedVariables false

structure Cmd where
  k : Int
  key : ByteArray
  fld : ByteArray
  txt : ByteArray
  n : Int
abbrev Cmd.v (c : Cmd) : Value := cmdV c.k c.key c.fld c.txt c.n
def Cmd.fault (c : Cmd) : Int := cmdFault c.k c.key c.fld c.txt c.n


/-- A block that is one of two worlds' common ones: its cells and marks. -/
theorem same_block {w w' : World} {b : Nat} (h : w'.heap[b]? = w.heap[b]?) : (∀ o, w'.cell? ⟨b, o, none⟩ = w.cell? ⟨b, o, none⟩) ∧ (∀ o, w'.frozen? ⟨b, o, none⟩ = w.frozen? ⟨b, o, none⟩) :=
  ⟨fun o => World.cell?_of_block (a := ⟨b, o, none⟩) h, fun o => World.frozen?_of_block (a := ⟨b, o, none⟩) h⟩

end Go.Proofs.YtgpdnhammdgndaaGreat
