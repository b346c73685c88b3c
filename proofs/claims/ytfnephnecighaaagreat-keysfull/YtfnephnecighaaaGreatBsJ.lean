/- The library's binary searches: where the list falls into what is below and what is not, they tell the place, and whether the target stands there. -/
import Derived.Test.YtfnephnecighaaaGreatWgJ
import Derived.Deep.RegionHeld3
import Derived.Test.YtfnephnecighaaaGreatWcJ
import Derived.Test.YtfnephnecighaaaGreatLwJ
namespace Go.Proofs.YtfnephnecighaaaGreat
open Go.RowKit
set_option linter.unusedVariables false

/-- A closure that compares an element with the target. -/
def CmpOf (P : Program) {α : Type} (val : α → Value) (t : Value) (cm : α → Int) (g : Nat) (lb : Array Value) (w : World) : Prop :=
  ∀ x W, Below w.heap.size w W → Calls P g (#[val x, t] ++ lb) W fun e w' => e = .returned (.int .i64 (cm x)) ∧ Below W.heap.size W w'
/-- The place at which a list falls into what is below and what is not. -/
def Parts {α : Type} (cm : α → Int) (l : List α) (p : Nat) : Prop := p ≤ l.length ∧ ∀ a (h : a < l.length), cm l[a] < 0 ↔ a < p
def hitB {α : Type} (cm : α → Int) (l : List α) (p : Nat) : Bool := match l[p]? with | some x => decide (cm x = 0) | none => false

theorem mid_wrap (i j : Nat) (h : i + j ≤ 9223372036854775807) : IntKind.i64.wrap ((i : Int) + (j : Int)) = ((i + j : Nat) : Int) := by rw [IntKind.wrap_i64]; omega

set_option maxHeartbeats 2000000 in
theorem bsearchP (g : Nat) (lb : Array Value) (t : ByteArray) (cm : ByteArray × ByteArray → Int) (eg : ∀ args w, (callFunc g args).run Tryz.prog w = .ok (.enter g args) w)
    (s : Value) (l : List (ByteArray × ByteArray)) (p : Nat) (w : World) (hs : RowAt 2 encP w s l) (hf : CmpOf Tryz.prog valP (.string t) cm g lb w) (hp : Parts cm l p) :
    Calls Tryz.prog 129 #[s, .string t, .func (.func g) #[] lb] w fun e w' => e = .returned (.tuple #[.int .i64 p, .bool (hitB cm l p)]) ∧ Below w.heap.size w w' := by
  obtain ⟨hl, a, cap, rfl, h1, h2, h3⟩ := hs
  have HF : Hid _ := hf
  clear hf
  obtain ⟨hp1, hp2⟩ := hp
  have HP : Hid (∀ a (h : a < l.length), cm l[a] < 0 ↔ a < p) := hp2
  clear hp2
  go_enter Tryz.func129, Tryz.ntmps129
  go_wp2_with fail
  go_loopw [9, 10] (fun iv jv wr => ∃ i j : Nat, iv = .int .i64 i ∧ jv = .int .i64 j ∧ i ≤ p ∧ p ≤ j ∧ j ≤ l.length ∧ Below w.heap.size w wr) (fun iv jv _ => (intOf jv).toNat - (intOf iv).toNat)
  case atStart => exact ⟨0, l.length, rfl, rfl, Nat.zero_le _, hp1, Nat.le_refl _, Below.refl _ _⟩
  case round =>
    obtain ⟨i, j, rfl, rfl, hi, hj, hn, hb⟩ := hrel
    by_cases hlt : i < j
    · have hm : i ≤ (i + j) / 2 ∧ (i + j) / 2 < j := by omega
      have hml : (i + j) / 2 < l.length := by omega
      have hij : (i : Int) < (j : Int) := by omega
      rcases h3 with ⟨-, hnil, -⟩ | ⟨b, off, rfl, hbk, hc⟩
      · rw [hnil] at hml; simp at hml
      · have c0 := (hb.cell (p := ⟨b, off + (i + j) / 2 * 2 + 0, none⟩) hbk).trans (hc _ hml 0 (by omega))
        have c1 := (hb.cell (p := ⟨b, off + (i + j) / 2 * 2 + 1, none⟩) hbk).trans (hc _ hml 1 (by omega))
        simp only [encP, List.getElem?_cons_zero, List.getElem?_cons_succ, Nat.add_zero] at c0 c1
        clear hc
        have hw := mid_wrap i j (by omega)
        go_wp2_with fail
        refine (HF.out l[(i + j) / 2] _ hb).mono ?_
        rintro e w1 ⟨rfl, hb1⟩
        have hB1 := bstep hb hb1
        clear hb1 c0 c1
        have hq := HP.out _ hml
        generalize cm l[(i + j) / 2] = x at hq ⊢
        by_cases hx : x < 0
        · have hqp := hq.1 hx
          go_wp2_with fail
          go_roundw
          case rel => exact ⟨(i + j) / 2 + 1, j, by go_num, rfl, by omega, hj, hn, hB1⟩
          case measure => simp [intOf]; omega
        · have hqp : ¬ (i + j) / 2 < p := fun h => hx (hq.2 h)
          go_wp2_with fail
          go_roundw
          case rel => exact ⟨i, (i + j) / 2, rfl, by go_num, hi, by omega, by omega, hB1⟩
          case measure => simp [intOf]; omega
    · obtain rfl : i = p := by omega
      have hij : ¬ (i : Int) < (j : Int) := by omega
      by_cases hml : i < l.length
      · have hil : (i : Int) < (l.length : Int) := by omega
        rcases h3 with ⟨-, hnil, -⟩ | ⟨b, off, rfl, hbk, hc⟩
        · rw [hnil] at hml; simp at hml
        · have c0 := (hb.cell (p := ⟨b, off + i * 2 + 0, none⟩) hbk).trans (hc _ hml 0 (by omega))
          have c1 := (hb.cell (p := ⟨b, off + i * 2 + 1, none⟩) hbk).trans (hc _ hml 1 (by omega))
          simp only [encP, List.getElem?_cons_zero, List.getElem?_cons_succ, Nat.add_zero] at c0 c1
          clear hc
          have hh : hitB cm l i = decide (cm l[i] = 0) := by simp [hitB, hml]
          have HH : Hid (hitB cm l i = decide (cm l[i] = 0)) := hh
          clear hh
          go_wp2_with fail
          refine (HF.out l[i] _ hb).mono ?_
          rintro e w1 ⟨rfl, hb1⟩
          have hB1 := bstep hb hb1
          clear hb1 c0 c1
          go_wp2_with fail
          refine bodyPost_ret (v := .tuple #[.int .i64 i, .bool (decide (cm l[i] = 0))]) (by simp [results, Tryz.results129, go_sem]; exact Bool.eq_iff_iff.2 (by simp)) rfl ⟨by rw [HH.out], hB1⟩
      · have hil : ¬ (i : Int) < (l.length : Int) := by omega
        have hh : hitB cm l i = false := by simp [hitB, List.getElem?_eq_none (Nat.le_of_not_lt hml)]
        have HH : Hid (hitB cm l i = false) := hh
        clear hh
        go_wp2_with fail
        refine bodyPost_ret (v := .tuple #[.int .i64 i, .bool false]) (by simp [results, Tryz.results129, go_sem]) rfl ⟨by rw [HH.out], hb⟩
set_option maxHeartbeats 8000000 in
theorem bsearchS (g : Nat) (lb : Array Value) (t : ByteArray × Int) (cm : ByteArray × Int → Int) (eg : ∀ args w, (callFunc g args).run Tryz.prog w = .ok (.enter g args) w)
    (s : Value) (l : List (ByteArray × Int)) (p : Nat) (w : World) (hs : RowAt 2 encS w s l) (hf : CmpOf Tryz.prog valS (valS t) cm g lb w) (hp : Parts cm l p) :
    Calls Tryz.prog 156 #[s, valS t, .func (.func g) #[] lb] w fun e w' => e = .returned (.tuple #[.int .i64 p, .bool (hitB cm l p)]) ∧ Below w.heap.size w w' := by
  obtain ⟨hl, a, cap, rfl, h1, h2, h3⟩ := hs
  have HF : Hid _ := hf
  clear hf
  obtain ⟨hp1, hp2⟩ := hp
  have HP : Hid (∀ a (h : a < l.length), cm l[a] < 0 ↔ a < p) := hp2
  clear hp2
  go_enter Tryz.func156, Tryz.ntmps156
  go_wp2_with fail
  go_loopw [9, 10] (fun iv jv wr => ∃ i j : Nat, iv = .int .i64 i ∧ jv = .int .i64 j ∧ i ≤ p ∧ p ≤ j ∧ j ≤ l.length ∧ wr.heap[w.heap.size]? = some (.cells #[.string t.1, .int .i64 t.2] 69) ∧ Below w.heap.size w wr) (fun iv jv _ => (intOf jv).toNat - (intOf iv).toNat)
  case atStart => exact ⟨0, l.length, rfl, rfl, Nat.zero_le _, hp1, Nat.le_refl _, by show ((_ : Array Obj).push _)[_]? = _; simp, balloc _ _⟩
  case round =>
    obtain ⟨i, j, rfl, rfl, hi, hj, hn, hblk, hb⟩ := hrel
    obtain ⟨ct, ft⟩ := block_cells hblk
    have hwz : w.heap.size < wr.heap.size := (Array.getElem?_eq_some_iff.1 hblk).1
    by_cases hlt : i < j
    · have hm : i ≤ (i + j) / 2 ∧ (i + j) / 2 < j := by omega
      have hml : (i + j) / 2 < l.length := by omega
      have hij : (i : Int) < (j : Int) := by omega
      rcases h3 with ⟨-, hnil, -⟩ | ⟨b, off, rfl, hbk, hc⟩
      · rw [hnil] at hml; simp at hml
      · have c0 := (hb.cell (p := ⟨b, off + (i + j) / 2 * 2 + 0, none⟩) hbk).trans (hc _ hml 0 (by omega))
        have c1 := (hb.cell (p := ⟨b, off + (i + j) / 2 * 2 + 1, none⟩) hbk).trans (hc _ hml 1 (by omega))
        simp only [encS, List.getElem?_cons_zero, List.getElem?_cons_succ, Nat.add_zero] at c0 c1
        clear hc
        have hw := mid_wrap i j (by omega)
        have hq := HP.out _ hml
        have hF := fun W (h : Below w.heap.size w W) => HF.out l[(i + j) / 2] W h
        generalize l[(i + j) / 2] = y at c0 c1 hq hF
        have HG : Hid (∀ W, Below w.heap.size w W → Calls Tryz.prog g (#[.agg #[.string y.1, .int .i64 y.2], .agg #[.string t.1, .int .i64 t.2]] ++ lb) W fun e w' => e = .returned (.int .i64 (cm y)) ∧ Below W.heap.size W w') := hF
        clear hF HF
        generalize cm y = x at hq HG
        go_wp2_with fail
        go_region_with (go_at_fn g; refine (HG.out _ ?_).mono ?_; exact hb.drew; rintro e w1 ⟨rfl, hb1⟩)
        all_goals
          have hB1 := bstep hb.drew hb1
          have hblk1 := (hb1.block w.heap.size hwz).trans hblk
          clear hb1 c0 c1 ct ft HG
          by_cases hx : x < 0
          · have hqp := hq.1 hx
            go_wp2_with fail
            go_roundw
            case rel => exact ⟨(i + j) / 2 + 1, j, by go_num, rfl, by omega, hj, hn, hblk1, hB1⟩
            case measure => simp [intOf]; omega
          · have hqp : ¬ (i + j) / 2 < p := fun h => hx (hq.2 h)
            go_wp2_with fail
            go_roundw
            case rel => exact ⟨i, (i + j) / 2, rfl, by go_num, hi, by omega, by omega, hblk1, hB1⟩
            case measure => simp [intOf]; omega
    · obtain rfl : i = p := by omega
      have hij : ¬ (i : Int) < (j : Int) := by omega
      by_cases hml : i < l.length
      · have hil : (i : Int) < (l.length : Int) := by omega
        rcases h3 with ⟨-, hnil, -⟩ | ⟨b, off, rfl, hbk, hc⟩
        · rw [hnil] at hml; simp at hml
        · have c0 := (hb.cell (p := ⟨b, off + i * 2 + 0, none⟩) hbk).trans (hc _ hml 0 (by omega))
          have c1 := (hb.cell (p := ⟨b, off + i * 2 + 1, none⟩) hbk).trans (hc _ hml 1 (by omega))
          simp only [encS, List.getElem?_cons_zero, List.getElem?_cons_succ, Nat.add_zero] at c0 c1
          clear hc
          have hh : hitB cm l i = decide (cm l[i] = 0) := by simp [hitB, hml]
          have HH : Hid (hitB cm l i = decide (cm l[i] = 0)) := hh
          clear hh
          have hF := fun W (h : Below w.heap.size w W) => HF.out l[i] W h
          generalize l[i] = y at c0 c1 HH hF
          have HG : Hid (∀ W, Below w.heap.size w W → Calls Tryz.prog g (#[.agg #[.string y.1, .int .i64 y.2], .agg #[.string t.1, .int .i64 t.2]] ++ lb) W fun e w' => e = .returned (.int .i64 (cm y)) ∧ Below W.heap.size W w') := hF
          clear hF HF
          obtain ⟨ct0, ct1⟩ : wr.cell? ⟨w.heap.size, 0, none⟩ = some (.string t.1) ∧ wr.cell? ⟨w.heap.size, 1, none⟩ = some (.int .i64 t.2) := ⟨ct 0, ct 1⟩
          clear ct ft
          have hi0 : (0 : Int) ≤ (i : Int) := by omega
          go_wp2_with fail
          go_region_held3 (fun w' => w'.cell? ⟨b, off + i * 2, none⟩ = some (.string y.1) ∧ w'.cell? ⟨b, off + i * 2 + 1, none⟩ = some (.int .i64 y.2) ∧ w'.cell? ⟨w.heap.size, 0, none⟩ = some (.string t.1) ∧ w'.cell? ⟨w.heap.size, 1, none⟩ = some (.int .i64 t.2)) (go_keep)
            (first | (go_at_fn g; refine (HG.out _ ?_).mono ?_; exact hb.drew; rintro e w1 ⟨rfl, hb1⟩; obtain ⟨e1, e2⟩ := same_block (hb1.block b (by simp; omega)); obtain ⟨e3, e4⟩ := same_block (hb1.block w.heap.size (by simp; omega))))
          all_goals
            have hB1 := bstep hb.drew hb1
            clear hb1 c0 c1 HG
            go_wp2_with fail
            refine bodyPost_ret (v := .tuple #[.int .i64 i, .bool (decide (cm y = 0))]) (by simp [results, Tryz.results156, go_sem]; exact Bool.eq_iff_iff.2 (by simp)) rfl ⟨by rw [HH.out], hB1⟩
      · have hil : ¬ (i : Int) < (l.length : Int) := by omega
        have hh : hitB cm l i = false := by simp [hitB, List.getElem?_eq_none (Nat.le_of_not_lt hml)]
        have HH : Hid (hitB cm l i = false) := hh
        clear hh
        go_wp2_with fail
        go_region
        go_wp2_with fail
        refine bodyPost_ret (v := .tuple #[.int .i64 i, .bool false]) (by simp [results, Tryz.results156, go_sem]) rfl ⟨by rw [HH.out], by first | exact hb.drew | exact hb⟩
set_option maxHeartbeats 400000 in
theorem less_any (a b : ByteArray) (w : World) :
    Calls Tryz.prog 154 #[.string a, .string b] w fun e w' => e = .returned (.bool (ltS a b)) ∧ w = w' := by
  go_enter Tryz.func154, Tryz.ntmps154
  go_wp2
  all_goals (go_ret; refine ⟨ret_bool ?_, rfl⟩; simp_all [ltS])
theorem cmpS_neg (a b : ByteArray) : cmpS a b < 0 ↔ ltS a b = true := by
  unfold cmpS; (repeat' split) <;> simp_all
theorem cmpS_zero (a b : ByteArray) : cmpS a b = 0 ↔ (ltS a b = false ∧ (a.toList == b.toList) = true) := by
  unfold cmpS; (repeat' split) <;> simp_all

set_option maxHeartbeats 400000 in
theorem isNaN_any (a : ByteArray) (w : World) : Calls Tryz.prog 155 #[.string a] w fun e w' => e = .returned (.bool false) ∧ w = w' := by
  go_enter Tryz.func155, Tryz.ntmps155
  go_wp2
  go_ret
  exact ⟨rfl, rfl⟩

set_option maxHeartbeats 2000000 in
theorem bsearchI (t : ByteArray) (s : Value) (l : List ByteArray) (p : Nat) (w : World) (hs : RowAt 1 encI w s l) (hp : Parts (fun x => cmpS x t) l p) :
    Calls Tryz.prog 136 #[s, .string t] w fun e w' => e = .returned (.tuple #[.int .i64 p, .bool (hitB (fun x => cmpS x t) l p)]) ∧ Below w.heap.size w w' := by
  obtain ⟨hl, a, cap, rfl, h1, h2, h3⟩ := hs
  obtain ⟨hp1, hp2⟩ := hp
  have HP : Hid (∀ a (h : a < l.length), cmpS l[a] t < 0 ↔ a < p) := hp2
  clear hp2
  go_enter Tryz.func136, Tryz.ntmps136
  go_wp2_with fail
  go_loopw [7, 8] (fun iv jv wr => ∃ i j : Nat, iv = .int .i64 i ∧ jv = .int .i64 j ∧ i ≤ p ∧ p ≤ j ∧ j ≤ l.length ∧ Below w.heap.size w wr) (fun iv jv _ => (intOf jv).toNat - (intOf iv).toNat)
  case atStart => exact ⟨0, l.length, rfl, rfl, Nat.zero_le _, hp1, Nat.le_refl _, Below.refl _ _⟩
  case round =>
    obtain ⟨i, j, rfl, rfl, hi, hj, hn, hb⟩ := hrel
    by_cases hlt : i < j
    · have hm : i ≤ (i + j) / 2 ∧ (i + j) / 2 < j := by omega
      have hml : (i + j) / 2 < l.length := by omega
      have hij : (i : Int) < (j : Int) := by omega
      rcases h3 with ⟨-, hnil, -⟩ | ⟨b, off, rfl, hbk, hc⟩
      · rw [hnil] at hml; simp at hml
      · have c0 := (hb.cell (p := ⟨b, off + (i + j) / 2 * 1 + 0, none⟩) hbk).trans (hc _ hml 0 (by omega))
        simp only [encI, List.getElem?_cons_zero, Nat.add_zero, Nat.mul_one] at c0
        clear hc
        have hw := mid_wrap i j (by omega)
        have hq := HP.out _ hml
        rw [cmpS_neg] at hq
        generalize l[(i + j) / 2] = y at c0 hq
        go_wp2_with fail
        refine (less_any _ _ _).mono ?_
        rintro e w1 ⟨rfl, rfl⟩
        clear c0
        cases hx : ltS y t
        · rw [hx] at hq
          have hqp : ¬ (i + j) / 2 < p := fun h => by have := hq.2 h; cases this
          go_wp2_with fail
          go_roundw
          case rel => exact ⟨i, (i + j) / 2, rfl, by go_num, hi, by omega, by omega, hb⟩
          case measure => simp [intOf]; omega
        · have hqp := hq.1 hx
          go_wp2_with fail
          go_roundw
          case rel => exact ⟨(i + j) / 2 + 1, j, by go_num, rfl, by omega, hj, hn, hb⟩
          case measure => simp [intOf]; omega
    · obtain rfl : i = p := by omega
      have hij : ¬ (i : Int) < (j : Int) := by omega
      by_cases hml : i < l.length
      · have hil : (i : Int) < (l.length : Int) := by omega
        rcases h3 with ⟨-, hnil, -⟩ | ⟨b, off, rfl, hbk, hc⟩
        · rw [hnil] at hml; simp at hml
        · have c0 := (hb.cell (p := ⟨b, off + i * 1 + 0, none⟩) hbk).trans (hc _ hml 0 (by omega))
          simp only [encI, List.getElem?_cons_zero, Nat.add_zero, Nat.mul_one] at c0
          clear hc
          have hnl : ltS l[i] t = false := by
            have := (cmpS_neg l[i] t).symm.trans (HP.out i hml)
            cases hx : ltS l[i] t
            · rfl
            · exact absurd (this.1 hx) (Nat.lt_irrefl _)
          have hh : hitB (fun x => cmpS x t) l i = (l[i].toList == t.toList) := by
            rw [Bool.eq_iff_iff]
            simp [hitB, hml, cmpS_zero, hnl]
          have HH : Hid (hitB (fun x => cmpS x t) l i = (l[i].toList == t.toList)) := hh
          clear hh hnl
          generalize l[i] = y at c0 HH
          cases hy : (y.toList == t.toList)
          · rw [hy] at HH
            have hy' : ¬ y.toList = t.toList := by simpa using hy
            go_wp2_with (go_at_call 155; refine (isNaN_any _ _).mono ?_; rintro e w1 ⟨rfl, rfl⟩)
            refine bodyPost_ret (v := .tuple #[.int .i64 i, .bool false]) (by simp [results, Tryz.results136, go_sem]) rfl ⟨by rw [HH.out], hb⟩
          · rw [hy] at HH
            have hy' : y.toList = t.toList := by simpa using hy
            go_wp2_with fail
            refine bodyPost_ret (v := .tuple #[.int .i64 i, .bool true]) (by simp [results, Tryz.results136, go_sem]) rfl ⟨by rw [HH.out], hb⟩
      · have hil : ¬ (i : Int) < (l.length : Int) := by omega
        have hh : hitB (fun x => cmpS x t) l i = false := by simp [hitB, List.getElem?_eq_none (Nat.le_of_not_lt hml)]
        have HH : Hid (hitB (fun x => cmpS x t) l i = false) := hh
        clear hh
        go_wp2_with fail
        refine bodyPost_ret (v := .tuple #[.int .i64 i, .bool false]) (by simp [results, Tryz.results136, go_sem]) rfl ⟨by rw [HH.out], hb⟩
end Go.Proofs.YtfnephnecighaaaGreat

/- Entries: insertion into nil, a copy of a list, the binary search and its closure. -/
namespace Go.Proofs.YtfnephnecighaaaGreat
open Go.RowKit
set_option linter.unusedVariables false
set_option maxRecDepth 100000

set_option maxHeartbeats 1000000 in
theorem insertE_nil (s : Value) (x : Ent) (w : World) (h : RowAt 8 encE w s [x]) :
    Calls Tryz.prog 146 #[.slice none 0 0, .int .i64 0, s] w fun e w' => ∃ r, e = .returned r ∧ OwnL w.heap.size 57 8 encE w' r [x] ∧ Below w.heap.size w w' := by
  have hh := h
  obtain ⟨hl, a, cap, rfl, h1, h2, h3⟩ := hh
  rcases h3 with ⟨-, hnil, -⟩ | ⟨b, off, rfl, hbk, hc⟩
  · simp at hnil
  clear hc
  have H : Hid (RowAt 8 encE w (.slice (some ⟨b, off, none⟩) 1 cap) [x]) := h
  clear h
  go_enter Tryz.func146, Tryz.ntmps146
  go_wp2_with (at_builtin; refine wpList_append_row _ rfl _ _ 38 rfl w.heap.size 57 (.agg #[.string ByteArray.empty, .int .i64 0, .string ByteArray.empty, .int .i64 0, .slice none 0 0, .slice none 0 0, .slice none 0 0, .int .i64 0]) 8 128 Tryz.underlying38 info_entry rfl (by decide) encE lenE oneE (.slice none 0 0) 0 [] ?_ (World.ownsRow_nil _ _ _ _) _ [x] ?_ H.out ?_ ?_ ?_ ?_)
  · rfl
  · rfl
  · unfold maxLen; simp
  · simp
  · simp
  intro v1 w1 hown1 hg1
  obtain ⟨a1, c1, rfl⟩ := ownsRow_shape hown1
  have hb1 := grown_nil hg1
  have ho1 : OwnL w.heap.size 57 8 encE w1 (.slice a1 1 c1) [x] := ⟨by simpa using hown1, fun h => by cases h⟩
  clear hg1 hown1
  go_wp2_with fail
  go_ret
  exact ⟨_, rfl, ho1, hb1⟩
set_option maxHeartbeats 2000000 in
theorem listE_any (s : Value) (l : List (Ent)) (w : World) (h : RowAt 8 encE w s l) (hm : l.length ≤ 1048576) :
    Calls Tryz.prog 101 #[s] w fun e w' => ∃ r, e = .returned r ∧ OwnL w.heap.size 57 8 encE w' r l ∧ Below w.heap.size w w' := by
  go_enter Tryz.func101, Tryz.ntmps101
  go_wp2_with (at_builtin; refine wpList_append_row _ rfl _ _ 38 rfl w.heap.size 57 (.agg #[.string ByteArray.empty, .int .i64 0, .string ByteArray.empty, .int .i64 0, .slice none 0 0, .slice none 0 0, .slice none 0 0, .int .i64 0]) 8 128 Tryz.underlying38 info_entry rfl (by decide) encE lenE oneE (.slice none 0 0) 0 [] ?_ (World.ownsRow_nil _ _ _ _) s l ?_ h ?_ ?_ ?_ ?_)
  · rfl
  · rfl
  · unfold maxLen; omega
  · omega
  · simp
  intro v1 w1 hown1 hg1 hnil1
  obtain ⟨a1, c1, rfl⟩ := ownsRow_shape hown1
  have hb1 := grown_nil hg1
  have ho1 : OwnL w.heap.size 57 8 encE w1 (.slice a1 l.length c1) l := ⟨by simpa using hown1, by simpa using hnil1⟩
  clear hg1 hown1 hnil1
  go_wp2_with fail
  go_ret
  exact ⟨_, rfl, ho1, hb1⟩
set_option maxHeartbeats 2000000 in
theorem bsearchE (g : Nat) (lb : Array Value) (t : ByteArray) (cm : Ent → Int) (eg : ∀ args w, (callFunc g args).run Tryz.prog w = .ok (.enter g args) w)
    (s : Value) (l : List (Ent)) (p : Nat) (w : World) (hs : RowAt 8 encE w s l) (hf : CmpOf Tryz.prog valE (.string t) cm g lb w) (hp : Parts cm l p) :
    Calls Tryz.prog 76 #[s, .string t, .func (.func g) #[] lb] w fun e w' => e = .returned (.tuple #[.int .i64 p, .bool (hitB cm l p)]) ∧ Below w.heap.size w w' := by
  obtain ⟨hl, a, cap, rfl, h1, h2, h3⟩ := hs
  have HF : Hid _ := hf
  clear hf
  obtain ⟨hp1, hp2⟩ := hp
  have HP : Hid (∀ a (h : a < l.length), cm l[a] < 0 ↔ a < p) := hp2
  clear hp2
  go_enter Tryz.func76, Tryz.ntmps76
  go_wp2_with fail
  go_loopw [9, 10] (fun iv jv wr => ∃ i j : Nat, iv = .int .i64 i ∧ jv = .int .i64 j ∧ i ≤ p ∧ p ≤ j ∧ j ≤ l.length ∧ Below w.heap.size w wr) (fun iv jv _ => (intOf jv).toNat - (intOf iv).toNat)
  case atStart => exact ⟨0, l.length, rfl, rfl, Nat.zero_le _, hp1, Nat.le_refl _, Below.refl _ _⟩
  case round =>
    obtain ⟨i, j, rfl, rfl, hi, hj, hn, hb⟩ := hrel
    by_cases hlt : i < j
    · have hm : i ≤ (i + j) / 2 ∧ (i + j) / 2 < j := by omega
      have hml : (i + j) / 2 < l.length := by omega
      have hij : (i : Int) < (j : Int) := by omega
      rcases h3 with ⟨-, hnil, -⟩ | ⟨b, off, rfl, hbk, hc⟩
      · rw [hnil] at hml; simp at hml
      · have hcw : ∀ i (h : i < l.length) (c : Nat), c < 8 → wr.cell? ⟨b, off + i * 8 + c, none⟩ = (encE l[i])[c]? := fun i hi c hk => (hb.cell (p := ⟨b, off + i * 8 + c, none⟩) hbk).trans (hc i hi c hk)
        obtain ⟨c0, c1, c2, c3, c4, c5, c6, c7⟩ := eightE hcw ((i + j) / 2) hml
        clear hcw
        clear hc
        have hw := mid_wrap i j (by omega)
        go_wp2_with fail
        refine (HF.out l[(i + j) / 2] _ hb).mono ?_
        rintro e w1 ⟨rfl, hb1⟩
        have hB1 := bstep hb hb1
        clear hb1 c0 c1 c2 c3 c4 c5 c6 c7
        have hq := HP.out _ hml
        generalize cm l[(i + j) / 2] = x at hq ⊢
        by_cases hx : x < 0
        · have hqp := hq.1 hx
          go_wp2_with fail
          go_roundw
          case rel => exact ⟨(i + j) / 2 + 1, j, by go_num, rfl, by omega, hj, hn, hB1⟩
          case measure => simp [intOf]; omega
        · have hqp : ¬ (i + j) / 2 < p := fun h => hx (hq.2 h)
          go_wp2_with fail
          go_roundw
          case rel => exact ⟨i, (i + j) / 2, rfl, by go_num, hi, by omega, by omega, hB1⟩
          case measure => simp [intOf]; omega
    · obtain rfl : i = p := by omega
      have hij : ¬ (i : Int) < (j : Int) := by omega
      by_cases hml : i < l.length
      · have hil : (i : Int) < (l.length : Int) := by omega
        rcases h3 with ⟨-, hnil, -⟩ | ⟨b, off, rfl, hbk, hc⟩
        · rw [hnil] at hml; simp at hml
        · have hcw : ∀ i (h : i < l.length) (c : Nat), c < 8 → wr.cell? ⟨b, off + i * 8 + c, none⟩ = (encE l[i])[c]? := fun i hi c hk => (hb.cell (p := ⟨b, off + i * 8 + c, none⟩) hbk).trans (hc i hi c hk)
          obtain ⟨c0, c1, c2, c3, c4, c5, c6, c7⟩ := eightE hcw (i) hml
          clear hcw
          clear hc
          have hh : hitB cm l i = decide (cm l[i] = 0) := by simp [hitB, hml]
          have HH : Hid (hitB cm l i = decide (cm l[i] = 0)) := hh
          clear hh
          go_wp2_with fail
          refine (HF.out l[i] _ hb).mono ?_
          rintro e w1 ⟨rfl, hb1⟩
          have hB1 := bstep hb hb1
          clear hb1 c0 c1 c2 c3 c4 c5 c6 c7
          go_wp2_with fail
          refine bodyPost_ret (v := .tuple #[.int .i64 i, .bool (decide (cm l[i] = 0))]) (by simp [results, Tryz.results76, go_sem]; exact Bool.eq_iff_iff.2 (by simp)) rfl ⟨by rw [HH.out], hB1⟩
      · have hil : ¬ (i : Int) < (l.length : Int) := by omega
        have hh : hitB cm l i = false := by simp [hitB, List.getElem?_eq_none (Nat.le_of_not_lt hml)]
        have HH : Hid (hitB cm l i = false) := hh
        clear hh
        go_wp2_with fail
        refine bodyPost_ret (v := .tuple #[.int .i64 i, .bool false]) (by simp [results, Tryz.results76, go_sem]) rfl ⟨by rw [HH.out], hb⟩

set_option maxHeartbeats 1000000 in
theorem keyCmp_pred (key : ByteArray) (e : Ent) (w : World) :
    Calls Tryz.prog 77 #[valE e, .string key] w fun r w' => r = .returned (.int .i64 (cmpS e.kv.key key)) ∧ Below w.heap.size w w' := by
  obtain ⟨⟨k, ⟨kind, text, count, pairs, items, scores⟩, til⟩, pa, pc, ia, ic, sa, sc⟩ := e
  simp only
  have HC : Hid (∀ W, Calls Tryz.prog 78 #[.string k, .string key] W fun e w' => e = .returned (.int .i64 (cmpS k key)) ∧ W = w') := fun W => compareString_any k key W
  generalize cmpS k key = F at *
  go_enter Tryz.func77, Tryz.ntmps77
  go_wp2_with (go_at_call 78; refine (HC.out _).mono ?_; rintro e w' ⟨rfl, rfl⟩)
  go_ret
  exact ⟨rfl, balloc _ _⟩
theorem egB : ∀ args w, (callFunc 77 args).run Tryz.prog w = .ok (.enter 77 args) w := enters_of Tryz.func77 (by kernel_rfl) rfl
end Go.Proofs.YtfnephnecighaaaGreat
