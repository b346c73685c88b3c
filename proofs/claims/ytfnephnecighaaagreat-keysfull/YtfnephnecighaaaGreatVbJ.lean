/- The small functions on values. -/
import Derived.Test.YtfnephnecighaaaGreatCbJ
namespace Go.Proofs.YtfnephnecighaaaGreat
open Go.RowKit
set_option linter.unusedVariables false

def Val.size (x : Val) : Nat := x.pairs.length + x.items.length + x.scores.length
def holdsB (k : Int) : Bool := decide (k = 3 ∨ k = 4 ∨ k = 5 ∨ k = 6)

/-- The lengths that the three slices of a value show. -/
theorem Lists.lens {w : World} {ps is ss : Value} {x : Val} (h : Lists w ps is ss x) :
    ∃ pa pc ia ic sa sc, ps = .slice pa x.pairs.length pc ∧ is = .slice ia x.items.length ic ∧ ss = .slice sa x.scores.length sc ∧
      x.pairs.length ≤ 140737488355328 ∧ x.items.length ≤ 140737488355328 ∧ x.scores.length ≤ 140737488355328 := by
  obtain ⟨⟨p1, pa, pc, p2, -⟩, ⟨i1, ia, ic, i2, -⟩, ⟨s1, sa, sc, s2, -⟩⟩ := h
  exact ⟨pa, pc, ia, ic, sa, sc, p2, i2, s2, p1, i1, s1⟩

set_option maxHeartbeats 400000 in
theorem elements_any (v : Value) (x : Val) (w : World) (h : Reps w v x) :
    Calls Tryz.prog 32 #[v] w fun e w' => e = .returned (.int .i64 (x.size : Nat)) ∧ Below w.heap.size w w' := by
  obtain ⟨ps, is, ss, rfl, hl⟩ := h
  obtain ⟨pa, pc, ia, ic, sa, sc, rfl, rfl, rfl, b1, b2, b3⟩ := hl.lens
  clear hl
  go_enter Tryz.func32, Tryz.ntmps32
  go_wp2
  go_ret
  exact ⟨ret_int (by simp [Val.size]), balloc _ _⟩

set_option maxHeartbeats 400000 in
theorem holdsElements_any (k : Int) (w : World) :
    Calls Tryz.prog 31 #[.int .i64 k] w fun e w' => e = .returned (.bool (holdsB k)) ∧ w = w' := by
  go_enter Tryz.func31, Tryz.ntmps31
  go_wp2
  all_goals (go_ret; exact ⟨ret_bool (by simp_all [holdsB]), rfl⟩)

def foreignN (kind : Int) (text : ByteArray) (count : Int) (np ni ns : Nat) : Bool :=
  (kind != 1 && !text.toList.isEmpty) || (kind != 2 && count != 0) || (kind != 3 && decide (0 < np)) || (kind != 4 && kind != 5 && decide (0 < ni)) || (kind != 6 && decide (0 < ns))
def Val.foreign (x : Val) : Bool := foreignN x.kind x.text x.count x.pairs.length x.items.length x.scores.length

set_option maxHeartbeats 2000000 in
theorem hasForeign_core (kind : Int) (text : ByteArray) (count : Int) (pa ia sa : Option Addr) (np pc ni ic ns sc : Nat) (w : World)
    (b1 : np ≤ 140737488355328) (b2 : ni ≤ 140737488355328) (b3 : ns ≤ 140737488355328) :
    Calls Tryz.prog 87 #[valV kind text count (.slice pa np pc) (.slice ia ni ic) (.slice sa ns sc)] w fun e w' => e = .returned (.bool (foreignN kind text count np ni ns)) ∧ Below w.heap.size w w' := by
  go_enter Tryz.func87, Tryz.ntmps87
  go_wp2
  all_goals (go_ret; exact ⟨ret_bool (by simp_all [foreignN] <;> omega), balloc _ _⟩)

theorem hasForeign_any (v : Value) (x : Val) (w : World) (h : Reps w v x) :
    Calls Tryz.prog 87 #[v] w fun e w' => e = .returned (.bool x.foreign) ∧ Below w.heap.size w w' := by
  obtain ⟨ps, is, ss, rfl, hl⟩ := h
  obtain ⟨pa, pc, ia, ic, sa, sc, rfl, rfl, rfl, b1, b2, b3⟩ := hl.lens
  exact hasForeign_core _ _ _ _ _ _ _ _ _ _ _ _ _ b1 b2 b3
end Go.Proofs.YtfnephnecighaaaGreat

/- slices.IndexFunc, slices.ContainsFunc at the three element types, whatever the closure. -/
namespace Go.Proofs.YtfnephnecighaaaGreat
open Go.RowKit
set_option linter.unusedVariables false

/-- The first place at which pr holds, or -1. -/
def idxI {α : Type} (pr : α → Bool) (l : List α) : Int := match l.findIdx? pr with | some i => (i : Int) | none => -1
theorem idxI_found {α : Type} (pr : α → Bool) (l : List α) (k : Nat) (hk : k < l.length) (h : ∀ j (hj : j < k), pr (l[j]'(by omega)) = false) (hp : pr l[k] = true) : idxI pr l = k := by
  have : l.findIdx? pr = some k := by
    rw [List.findIdx?_eq_some_iff_getElem]
    exact ⟨hk, hp, fun j hj => by simp [h j hj]⟩
  rw [idxI, this]
theorem idxI_none {α : Type} (pr : α → Bool) (l : List α) (h : ∀ j (hj : j < l.length), pr l[j] = false) : idxI pr l = -1 := by
  have : l.findIdx? pr = none := by
    rw [List.findIdx?_eq_none_iff]
    intro x hx
    obtain ⟨j, hj, rfl⟩ := List.getElem_of_mem hx
    exact h j hj
  rw [idxI, this]

/-- A closure that takes an element and answers whether pr holds; of old memory nothing turns. -/
def PredOf (P : Program) {α : Type} (val : α → Value) (pr : α → Bool) (g : Nat) (lb : Array Value) (w : World) : Prop :=
  ∀ x W, Below w.heap.size w W → Calls P g (#[val x] ++ lb) W fun e w' => e = .returned (.bool (pr x)) ∧ Below W.heap.size W w'

abbrev valP (x : ByteArray × ByteArray) : Value := .agg #[.string x.1, .string x.2]
abbrev valS (x : ByteArray × Int) : Value := .agg #[.string x.1, .int .i64 x.2]

def anyB {α : Type} (pr : α → Bool) (l : List α) : Bool := l.any pr
theorem idxI_any {α : Type} (pr : α → Bool) (l : List α) : decide (0 ≤ idxI pr l) = anyB pr l := by
  show _ = l.any pr
  rw [Bool.eq_iff_iff, decide_eq_true_iff]
  unfold idxI
  cases h : l.findIdx? pr with
  | none =>
    rw [List.findIdx?_eq_none_iff] at h
    simp only [List.any_eq_true]
    constructor
    · intro h0; omega
    · rintro ⟨x, hx, hp⟩; rw [h x hx] at hp; cases hp
  | some i =>
    rw [List.findIdx?_eq_some_iff_getElem] at h
    obtain ⟨hi, hp, -⟩ := h
    simp only [List.any_eq_true]
    exact ⟨fun _ => ⟨_, List.getElem_mem hi, hp⟩, fun _ => by omega⟩

abbrev valI (x : ByteArray) : Value := .string x

set_option maxHeartbeats 1000000 in
theorem indexFuncP (g : Nat) (lb : Array Value) (pr : ByteArray × ByteArray → Bool) (eg : ∀ args w, (callFunc g args).run Tryz.prog w = .ok (.enter g args) w)
    (s : Value) (l : List (ByteArray × ByteArray)) (w : World) (hs : RowAt 2 encP w s l) (hf : PredOf Tryz.prog valP pr g lb w) :
    Calls Tryz.prog 147 #[s, .func (.func g) #[] lb] w fun e w' => e = .returned (.int .i64 (idxI pr l)) ∧ Below w.heap.size w w' := by
  obtain ⟨hl, a, cap, rfl, h1, h2, h3⟩ := hs
  have HF : Hid _ := hf
  clear hf
  go_enter Tryz.func147, Tryz.ntmps147
  go_wp2
  go_loopw [5, 8] (fun _ c wr => ∃ k : Nat, k ≤ l.length ∧ c = .int .i64 k ∧ Below w.heap.size w wr ∧ ∀ j (hj : j < k) (hl : j < l.length), pr l[j] = false) (fun _ c _ => l.length - (intOf c).toNat)
  case atStart => exact ⟨0, Nat.zero_le _, rfl, Below.refl _ _, fun j hj => absurd hj (Nat.not_lt_zero _)⟩
  case round =>
    obtain ⟨k, hk, rfl, hb, hno⟩ := hrel
    have HN : Hid _ := hno
    clear hno
    by_cases hlt : k < l.length
    · rcases h3 with ⟨-, rfl, -⟩ | ⟨b, off, rfl, hbk, hc⟩
      · simp at hlt
      · have c0 := (hb.cell (p := ⟨b, off + k * 2 + 0, none⟩) hbk).trans (hc k hlt 0 (by omega))
        have c1 := (hb.cell (p := ⟨b, off + k * 2 + 1, none⟩) hbk).trans (hc k hlt 1 (by omega))
        simp only [encP, List.getElem?_cons_zero, List.getElem?_cons_succ, Nat.add_zero] at c0 c1
        clear hc
        go_wp2_with fail
        refine (HF.out l[k] _ hb).mono ?_
        rintro e w1 ⟨rfl, hb1⟩
        have hB1 := bstep hb hb1
        clear hb1
        by_cases hp : pr l[k] = true
        · go_wp2_with fail
          go_ret
          exact ⟨ret_int (idxI_found pr l k hlt (fun j hj => HN.out j hj (by omega)) hp).symm, hB1⟩
        · have hp : pr l[k] = false := by simpa using hp
          go_wp2_with fail
          go_roundw
          case rel => exact ⟨k + 1, by omega, by go_num, hB1, fun j hj hl => by
            by_cases e : j = k
            · subst e; exact hp
            · exact HN.out j (by omega) hl⟩
          case measure => simp [intOf]; omega
    · go_wp2_with fail
      go_ret
      exact ⟨ret_int (idxI_none pr l (fun j hj => HN.out j (by omega) hj)).symm, hb⟩

set_option maxHeartbeats 400000 in
theorem containsFuncP (g : Nat) (lb : Array Value) (pr : ByteArray × ByteArray → Bool) (eg : ∀ args w, (callFunc g args).run Tryz.prog w = .ok (.enter g args) w)
    (s : Value) (l : List (ByteArray × ByteArray)) (w : World) (hs : RowAt 2 encP w s l) (hf : PredOf Tryz.prog valP pr g lb w) :
    Calls Tryz.prog 113 #[s, .func (.func g) #[] lb] w fun e w' => e = .returned (.bool (anyB pr l)) ∧ Below w.heap.size w w' := by
  go_enter Tryz.func113, Tryz.ntmps113
  go_wp2_with fail
  refine (indexFuncP g lb pr eg s l w hs hf).mono ?_
  rintro e w1 ⟨rfl, hb1⟩
  go_wp2_with fail
  go_ret
  exact ⟨ret_bool (idxI_any pr l), hb1⟩

set_option maxHeartbeats 1000000 in
theorem indexFuncI (g : Nat) (lb : Array Value) (pr : ByteArray → Bool) (eg : ∀ args w, (callFunc g args).run Tryz.prog w = .ok (.enter g args) w)
    (s : Value) (l : List (ByteArray)) (w : World) (hs : RowAt 1 encI w s l) (hf : PredOf Tryz.prog valI pr g lb w) :
    Calls Tryz.prog 148 #[s, .func (.func g) #[] lb] w fun e w' => e = .returned (.int .i64 (idxI pr l)) ∧ Below w.heap.size w w' := by
  obtain ⟨hl, a, cap, rfl, h1, h2, h3⟩ := hs
  have HF : Hid _ := hf
  clear hf
  go_enter Tryz.func148, Tryz.ntmps148
  go_wp2
  go_loopw [5, 8] (fun _ c wr => ∃ k : Nat, k ≤ l.length ∧ c = .int .i64 k ∧ Below w.heap.size w wr ∧ ∀ j (hj : j < k) (hl : j < l.length), pr l[j] = false) (fun _ c _ => l.length - (intOf c).toNat)
  case atStart => exact ⟨0, Nat.zero_le _, rfl, Below.refl _ _, fun j hj => absurd hj (Nat.not_lt_zero _)⟩
  case round =>
    obtain ⟨k, hk, rfl, hb, hno⟩ := hrel
    have HN : Hid _ := hno
    clear hno
    by_cases hlt : k < l.length
    · rcases h3 with ⟨-, rfl, -⟩ | ⟨b, off, rfl, hbk, hc⟩
      · simp at hlt
      · have c0 := (hb.cell (p := ⟨b, off + k * 1 + 0, none⟩) hbk).trans (hc k hlt 0 (by omega))
        simp only [encI, List.getElem?_cons_zero, Nat.add_zero, Nat.mul_one] at c0
        clear hc
        go_wp2_with fail
        refine (HF.out l[k] _ hb).mono ?_
        rintro e w1 ⟨rfl, hb1⟩
        have hB1 := bstep hb hb1
        clear hb1
        by_cases hp : pr l[k] = true
        · go_wp2_with fail
          go_ret
          exact ⟨ret_int (idxI_found pr l k hlt (fun j hj => HN.out j hj (by omega)) hp).symm, hB1⟩
        · have hp : pr l[k] = false := by simpa using hp
          go_wp2_with fail
          go_roundw
          case rel => exact ⟨k + 1, by omega, by go_num, hB1, fun j hj hl => by
            by_cases e : j = k
            · subst e; exact hp
            · exact HN.out j (by omega) hl⟩
          case measure => simp [intOf]; omega
    · go_wp2_with fail
      go_ret
      exact ⟨ret_int (idxI_none pr l (fun j hj => HN.out j (by omega) hj)).symm, hb⟩

set_option maxHeartbeats 400000 in
theorem containsFuncI (g : Nat) (lb : Array Value) (pr : ByteArray → Bool) (eg : ∀ args w, (callFunc g args).run Tryz.prog w = .ok (.enter g args) w)
    (s : Value) (l : List (ByteArray)) (w : World) (hs : RowAt 1 encI w s l) (hf : PredOf Tryz.prog valI pr g lb w) :
    Calls Tryz.prog 114 #[s, .func (.func g) #[] lb] w fun e w' => e = .returned (.bool (anyB pr l)) ∧ Below w.heap.size w w' := by
  go_enter Tryz.func114, Tryz.ntmps114
  go_wp2_with fail
  refine (indexFuncI g lb pr eg s l w hs hf).mono ?_
  rintro e w1 ⟨rfl, hb1⟩
  go_wp2_with fail
  go_ret
  exact ⟨ret_bool (idxI_any pr l), hb1⟩

set_option maxHeartbeats 1000000 in
theorem indexFuncS (g : Nat) (lb : Array Value) (pr : ByteArray × Int → Bool) (eg : ∀ args w, (callFunc g args).run Tryz.prog w = .ok (.enter g args) w)
    (s : Value) (l : List (ByteArray × Int)) (w : World) (hs : RowAt 2 encS w s l) (hf : PredOf Tryz.prog valS pr g lb w) :
    Calls Tryz.prog 139 #[s, .func (.func g) #[] lb] w fun e w' => e = .returned (.int .i64 (idxI pr l)) ∧ Below w.heap.size w w' := by
  obtain ⟨hl, a, cap, rfl, h1, h2, h3⟩ := hs
  have HF : Hid _ := hf
  clear hf
  go_enter Tryz.func139, Tryz.ntmps139
  go_wp2
  go_loopw [5, 8] (fun _ c wr => ∃ k : Nat, k ≤ l.length ∧ c = .int .i64 k ∧ Below w.heap.size w wr ∧ ∀ j (hj : j < k) (hl : j < l.length), pr l[j] = false) (fun _ c _ => l.length - (intOf c).toNat)
  case atStart => exact ⟨0, Nat.zero_le _, rfl, Below.refl _ _, fun j hj => absurd hj (Nat.not_lt_zero _)⟩
  case round =>
    obtain ⟨k, hk, rfl, hb, hno⟩ := hrel
    have HN : Hid _ := hno
    clear hno
    by_cases hlt : k < l.length
    · rcases h3 with ⟨-, rfl, -⟩ | ⟨b, off, rfl, hbk, hc⟩
      · simp at hlt
      · have c0 := (hb.cell (p := ⟨b, off + k * 2 + 0, none⟩) hbk).trans (hc k hlt 0 (by omega))
        have c1 := (hb.cell (p := ⟨b, off + k * 2 + 1, none⟩) hbk).trans (hc k hlt 1 (by omega))
        simp only [encS, List.getElem?_cons_zero, List.getElem?_cons_succ, Nat.add_zero] at c0 c1
        clear hc
        go_wp2_with fail
        refine (HF.out l[k] _ hb).mono ?_
        rintro e w1 ⟨rfl, hb1⟩
        have hB1 := bstep hb hb1
        clear hb1
        by_cases hp : pr l[k] = true
        · go_wp2_with fail
          go_ret
          exact ⟨ret_int (idxI_found pr l k hlt (fun j hj => HN.out j hj (by omega)) hp).symm, hB1⟩
        · have hp : pr l[k] = false := by simpa using hp
          go_wp2_with fail
          go_roundw
          case rel => exact ⟨k + 1, by omega, by go_num, hB1, fun j hj hl => by
            by_cases e : j = k
            · subst e; exact hp
            · exact HN.out j (by omega) hl⟩
          case measure => simp [intOf]; omega
    · go_wp2_with fail
      go_ret
      exact ⟨ret_int (idxI_none pr l (fun j hj => HN.out j (by omega) hj)).symm, hb⟩

set_option maxHeartbeats 400000 in
theorem containsFuncS (g : Nat) (lb : Array Value) (pr : ByteArray × Int → Bool) (eg : ∀ args w, (callFunc g args).run Tryz.prog w = .ok (.enter g args) w)
    (s : Value) (l : List (ByteArray × Int)) (w : World) (hs : RowAt 2 encS w s l) (hf : PredOf Tryz.prog valS pr g lb w) :
    Calls Tryz.prog 115 #[s, .func (.func g) #[] lb] w fun e w' => e = .returned (.bool (anyB pr l)) ∧ Below w.heap.size w w' := by
  go_enter Tryz.func115, Tryz.ntmps115
  go_wp2_with fail
  refine (indexFuncS g lb pr eg s l w hs hf).mono ?_
  rintro e w1 ⟨rfl, hb1⟩
  go_wp2_with fail
  go_ret
  exact ⟨ret_bool (idxI_any pr l), hb1⟩

end Go.Proofs.YtfnephnecighaaaGreat

/- Commands as data; blocks that two worlds have in common. -/
namespace Go.Proofs.YtfnephnecighaaaGreat
open Go.RowKit
set_option linter.unusedVariables false

structure Cmd where
  k : Int
  key : ByteArray
  fld : ByteArray
  txt : ByteArray
  n : Int
abbrev Cmd.v (c : Cmd) : Value := cmdV c.k c.key c.fld c.txt c.n
def Cmd.fault (c : Cmd) : Int := cmdFault c.k c.key c.fld c.txt c.n


/-- A block that is one of two worlds' common ones: its cells and marks. -/
theorem same_block {w w' : World} {b : Nat} (h : w'.heap[b]? = w.heap[b]?) : (∀ o, w'.cell? ⟨b, o, none⟩ = w.cell? ⟨b, o, none⟩) ∧ (∀ o, w'.frozen? ⟨b, o, none⟩ = w.frozen? ⟨b, o, none⟩) :=
  ⟨fun o => World.cell?_of_block (a := ⟨b, o, none⟩) h, fun o => World.frozen?_of_block (a := ⟨b, o, none⟩) h⟩

end Go.Proofs.YtfnephnecighaaaGreat
