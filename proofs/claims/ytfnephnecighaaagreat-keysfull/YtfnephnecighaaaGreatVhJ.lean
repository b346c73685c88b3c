/- Sorting texts; whether the order of a value may be; whether a value may be. -/
import Derived.Test.YtfnephnecighaaaGreatVfJ
import Derived.Test.YtfnephnecighaaaGreatFlJ
import Derived.Test.YtfnephnecighaaaGreatSh
import Derived.Sort.OwnSorted
import Derived.Laws.ResultCell
namespace Go.Proofs.YtfnephnecighaaaGreat
open Go.RowKit Go.Sort
set_option linter.unusedVariables false

def ofBytes (t : List UInt8) : ByteArray := ⟨t.toArray⟩
def sortT (l : List ByteArray) : List ByteArray := ((l.map fun s => s.data.toList).mergeSort fun x y => decide (x ≤ y)).map ofBytes
theorem length_sortT (l : List ByteArray) : (sortT l).length = l.length := by simp [sortT]

theorem flat_encI (l : List ByteArray) : l.flatMap encI = (l.map fun s => s.data.toList).map encStr := by
  induction l with
  | nil => rfl
  | cons s r ih =>
    rw [List.flatMap_cons, ih]
    simp [encI, encStr]
theorem flat_ofBytes (l : List (List UInt8)) : (l.map ofBytes).flatMap encI = l.map encStr := by
  rw [flat_encI]
  congr 1
  rw [List.map_map]
  conv => rhs; rw [← List.map_id l]
  apply List.map_congr_left
  intro a _
  simp [ofBytes]

set_option maxHeartbeats 400000 in
theorem sort_any (B : Nat) (r : Value) (l : List ByteArray) (w : World) (hown : w.ownsRow B 9 1 r l.length (l.flatMap encI)) (hl : l.length ≤ 1048576) :
    Calls Tryz.prog 121 #[r] w fun e w' => e = .returned (.tuple #[]) ∧ w'.ownsRow B 9 1 r (sortT l).length ((sortT l).flatMap encI) ∧ w.grownBy w' r.ownBlock := by
  rcases hown.2 with ⟨rfl, h0⟩ | ⟨g, cap, cur, rfl, hbase, hb, h1, h2, h3, h4⟩
  · have : l = [] := List.eq_nil_of_length_eq_zero h0
    subst this
    refine (Tryz.slices_Sort_string_none none 0 w).mono ?_
    rintro e w' ⟨rfl, rfl⟩
    exact ⟨rfl, by simpa [sortT] using World.ownsRow_nil _ _ _ _, World.grownBy.refl _ _⟩
  · generalize hss : (l.map fun s => s.data.toList) = ss
    have hlen : ss.length = l.length := by rw [← hss]; simp
    rw [flat_encI, hss, Nat.mul_one, ← hlen] at h4
    have hH := holds_of_block hb h4
    have hc := Tryz.slices_Sort_string g 0 cap ss w hH (Array.getElem?_eq_some_iff.1 hb).1 (by omega)
    rw [hlen] at hc
    refine hc.mono ?_
    rintro e w' ⟨rfl, n, os, rfl⟩
    refine ⟨rfl, ?_, grownBy_sorted _⟩
    have := ownsRow_sorted (base := B) (w := w) (n := n) (os := os) (ss := ss) (ts := ss.mergeSort fun x y => decide (x ≤ y)) (by simp) hbase hb (by omega) h2 h3
    rw [hlen] at this
    rw [length_sortT, sortT, hss, flat_ofBytes]
    exact this

def Val.orderB (x : Val) : Bool :=
  if x.kind = 3 then risesB ltP x.pairs else if x.kind = 5 then risesB ltS x.items else if x.kind = 6 then risesB ltSc x.scores && risesB ltS (sortT x.names) else true

theorem ego1 : ∀ args w, (callFunc 117 args).run Tryz.prog w = .ok (.enter 117 args) w := enters_of Tryz.func117 (by kernel_rfl) rfl
theorem ego2 : ∀ args w, (callFunc 119 args).run Tryz.prog w = .ok (.enter 119 args) w := enters_of Tryz.func119 (by kernel_rfl) rfl
theorem ego3 : ∀ args w, (callFunc 122 args).run Tryz.prog w = .ok (.enter 122 args) w := enters_of Tryz.func122 (by kernel_rfl) rfl

set_option maxHeartbeats 1000000 in
theorem orderMayBe_any (v : Value) (x : Val) (w : World) (h : Reps w v x) (hm : x.size ≤ 1048576) :
    Calls Tryz.prog 90 #[v] w fun e w' => e = .returned (.bool x.orderB) ∧ Below w.heap.size w w' := by
  have hnm := fun W (hb : Below w.heap.size w W) => names_any v x W (h.below hb) hm
  obtain ⟨ps, is, ss, rfl, hl⟩ := h
  have HN : Hid (∀ W, Below w.heap.size w W → Calls Tryz.prog 95 #[valV x.kind x.text x.count ps is ss] W fun e w' => ∃ r, e = .returned r ∧ w'.ownsRow W.heap.size 9 1 r x.names.length (x.names.flatMap encI) ∧ Below W.heap.size W w') := hnm
  clear hnm
  by_cases k3 : x.kind = 3
  · go_enter Tryz.func90, Tryz.ntmps90
    go_wp2_with (go_at_call 118; refine (riseP _ ltP ego2 _ _ _ (hl.p.below (balloc _ _)) (pairBelow_less _)).mono ?_; rintro e w1 ⟨rfl, hb1⟩)
    go_ret
    exact ⟨ret_bool (by rw [Val.orderB, if_pos k3]), bstep (balloc _ _) hb1⟩
  · by_cases k5 : x.kind = 5
    · go_enter Tryz.func90, Tryz.ntmps90
      go_wp2_with (go_at_call 120; refine (riseI _ ltS ego1 _ _ _ (hl.i.below (balloc _ _)) (textBelow_less _)).mono ?_; rintro e w1 ⟨rfl, hb1⟩)
      go_ret
      exact ⟨ret_bool (by rw [Val.orderB, if_neg k3, if_pos k5]), bstep (balloc _ _) hb1⟩
    · by_cases k6 : x.kind = 6
      · have n3 : (x.kind == 3) = false := by simpa using k3
        have n5 : (x.kind == 5) = false := by simpa using k5
        have n6 : (x.kind == 6) = true := by simpa using k6
        have hord : x.orderB = (risesB ltSc x.scores && risesB ltS (sortT x.names)) := by rw [Val.orderB, if_neg k3, if_neg k5, if_pos k6]
        have HO : Hid (x.orderB = (risesB ltSc x.scores && risesB ltS (sortT x.names))) := hord
        clear hord k3 k5 k6
        have hnl : x.names.length ≤ 1048576 := by simp [Val.names, Val.size] at hm ⊢; omega
        go_enter Tryz.func90, Tryz.ntmps90
        go_wp2_with fail
        refine (HN.out _ (balloc _ _)).mono ?_
        rintro e w1 ⟨r, rfl, hown1, hb1⟩
        have hbox1 := fun o => hb1.cell (p := ⟨w.heap.size, o, none⟩) (by simp)
        have hz1 : w.heap.size + 1 ≤ w1.heap.size := by simpa using hb1.size
        go_wp2_with fail
        refine (sort_any _ _ _ _ hown1 hnl).mono ?_
        rintro e w2 ⟨rfl, hown2, hg2⟩
        have hb2 := hb1.grown hg2 hb1.size (fun k hk => (hown1.lt k hk).1)
        clear hbox1
        have hbox2 := fun o => hb2.cell (p := ⟨w.heap.size, o, none⟩) (by simp)
        have hz2 : w.heap.size + 1 ≤ w2.heap.size := by simpa using hb2.size
        have hB2 := bstep (balloc _ _) hb2
        have hr2 := RowAt.ofOwn (enc := encI) (k := 1) lenI hown2 (by rw [length_sortT]; omega)
        clear hown1 hown2 hg2 hb1 hb2
        go_wp2_with fail
        refine (riseS _ ltSc ego3 _ _ _ (hl.s.below hB2) (scoreBelow_less _)).mono ?_
        rintro e w3 ⟨rfl, hb3⟩
        have hB3 := bstep hB2 hb3
        by_cases hs : risesB ltSc x.scores = true
        · go_wp2_with (go_at_call 120; refine (riseI _ ltS ego1 _ _ _ (hr2.below hb3) (textBelow_less _)).mono ?_; rintro e w4 ⟨rfl, hb4⟩)
          go_ret
          exact ⟨ret_bool (by rw [HO.out, hs, Bool.true_and]), bstep hB3 hb4⟩
        · have hs : risesB ltSc x.scores = false := by simpa using hs
          go_wp2_with fail
          go_ret
          exact ⟨ret_bool (by rw [HO.out, hs, Bool.false_and]), hB3⟩
      · have n3 : (x.kind == 3) = false := by simpa using k3
        have n5 : (x.kind == 5) = false := by simpa using k5
        have n6 : (x.kind == 6) = false := by simpa using k6
        go_enter Tryz.func90, Tryz.ntmps90
        go_wp2_with fail
        go_ret
        exact ⟨ret_bool (by rw [Val.orderB, if_neg k3, if_neg k5, if_neg k6]), balloc _ _⟩

def Val.fault (x : Val) : Int :=
  if x.kind < 1 ∨ 6 < x.kind then 3 else if x.foreign = true then 8 else if x.sizesB = false then 1 else if x.numbersB = false then 2 else if x.orderB = false then 10 else 0

theorem Val.size_small (x : Val) (h1 : 1 ≤ x.kind) (h6 : x.kind ≤ 6) (hf : x.foreign = false) (hs : x.sizesB = true) : x.size ≤ 1048576 := by
  by_cases hh : holdsB x.kind = true
  · simp [Val.sizesB, hh] at hs
    omega
  · have : x.kind = 1 ∨ x.kind = 2 := by simp [holdsB] at hh; omega
    simp [Val.foreign, foreignN] at hf
    unfold Val.size
    rcases this with h | h <;> simp [h] at hf <;> simp [hf]

set_option maxHeartbeats 1000000 in
theorem check_any (v : Value) (x : Val) (w : World) (h : Reps w v x) :
    Calls Tryz.prog 53 #[v] w fun e w' => e = .returned (.int .i64 x.fault) ∧ Below w.heap.size w w' := by
  have hf := fun W (hb : Below w.heap.size w W) => hasForeign_any v x W (h.below hb)
  have hs := fun W (hb : Below w.heap.size w W) => sizesMayBe_any v x W (h.below hb)
  have hn := fun W (hb : Below w.heap.size w W) => numbersMayBe_any v x W (h.below hb)
  have ho := fun W (hb : Below w.heap.size w W) => orderMayBe_any v x W (h.below hb)
  have hsm := x.size_small
  obtain ⟨ps, is, ss, rfl, hl⟩ := h
  have HF : Hid (∀ W, Below w.heap.size w W → Calls Tryz.prog 87 #[valV x.kind x.text x.count ps is ss] W fun e w' => e = .returned (.bool x.foreign) ∧ Below W.heap.size W w') := hf
  have HS : Hid (∀ W, Below w.heap.size w W → Calls Tryz.prog 88 #[valV x.kind x.text x.count ps is ss] W fun e w' => e = .returned (.bool x.sizesB) ∧ Below W.heap.size W w') := hs
  have HN : Hid (∀ W, Below w.heap.size w W → Calls Tryz.prog 89 #[valV x.kind x.text x.count ps is ss] W fun e w' => e = .returned (.bool x.numbersB) ∧ Below W.heap.size W w') := hn
  have HO : Hid (∀ W, Below w.heap.size w W → x.size ≤ 1048576 → Calls Tryz.prog 90 #[valV x.kind x.text x.count ps is ss] W fun e w' => e = .returned (.bool x.orderB) ∧ Below W.heap.size W w') := ho
  have HM : Hid (1 ≤ x.kind → x.kind ≤ 6 → x.foreign = false → x.sizesB = true → x.size ≤ 1048576) := hsm
  clear hf hs hn ho hsm hl
  have hfin : x.fault = if x.kind < 1 ∨ 6 < x.kind then 3 else if x.foreign = true then 8 else if x.sizesB = false then 1 else if x.numbersB = false then 2 else if x.orderB = false then 10 else 0 := rfl
  have HFIN : Hid (x.fault = if x.kind < 1 ∨ 6 < x.kind then 3 else if x.foreign = true then 8 else if x.sizesB = false then 1 else if x.numbersB = false then 2 else if x.orderB = false then 10 else 0) := hfin
  clear hfin
  generalize x.foreign = f at *
  generalize x.sizesB = s at *
  generalize x.numbersB = n at *
  generalize x.orderB = o at *
  generalize x.size = z at *
  by_cases hk : x.kind < 1 ∨ 6 < x.kind
  · go_enter Tryz.func53, Tryz.ntmps53
    go_wp2_with fail
    all_goals (go_ret; exact ⟨ret_int (by rw [HFIN.out, if_pos hk]), balloc _ _⟩)
  · have k1 : 1 ≤ x.kind := by omega
    have k6 : x.kind ≤ 6 := by omega
    have hdone : ∀ (F : Int), (if f = true then 8 else if s = false then 1 else if n = false then 2 else if o = false then 10 else (0 : Int)) = F → x.fault = F := by
      intro F hF
      rw [HFIN.out, if_neg hk, hF]
    have HD : Hid (∀ (F : Int), (if f = true then 8 else if s = false then 1 else if n = false then 2 else if o = false then 10 else (0 : Int)) = F → x.fault = F) := hdone
    clear hdone hk HFIN
    go_enter Tryz.func53, Tryz.ntmps53
    go_wp2_with fail
    refine (HF.out _ (balloc _ _)).mono ?_
    rintro e w1 ⟨rfl, hb1⟩
    have hB1 := bstep (balloc _ _) hb1
    have hbox1 := fun o => hb1.cell (p := ⟨w.heap.size, o, none⟩) (by simp)
    have hz1 : w.heap.size < w1.heap.size := bsize hb1 (by simp)
    clear hb1
    cases f
    case true =>
      go_wp2_with fail
      go_ret
      exact ⟨ret_int (HD.out 8 rfl).symm, hB1⟩
    case false =>
      go_wp2_with fail
      refine (HS.out _ hB1).mono ?_
      rintro e w2 ⟨rfl, hb2⟩
      have hB2 := bstep hB1 hb2
      have hbox2 := fun o => hb2.cell (p := ⟨w.heap.size, o, none⟩) hz1
      have hz2 : w.heap.size < w2.heap.size := bsize hb2 hz1
      clear hb2
      cases s
      case false =>
        go_wp2_with fail
        go_ret
        exact ⟨ret_int (HD.out 1 rfl).symm, hB2⟩
      case true =>
        have hm := HM.out k1 k6 (by first | trivial | rfl) (by first | trivial | rfl)
        go_wp2_with fail
        refine (HN.out _ hB2).mono ?_
        rintro e w3 ⟨rfl, hb3⟩
        have hB3 := bstep hB2 hb3
        have hbox3 := fun o => hb3.cell (p := ⟨w.heap.size, o, none⟩) hz2
        have hz3 : w.heap.size < w3.heap.size := bsize hb3 hz2
        clear hb3
        cases n
        case false =>
          go_wp2_with fail
          go_ret
          exact ⟨ret_int (HD.out 2 rfl).symm, hB3⟩
        case true =>
          go_wp2_with fail
          refine (HO.out _ hB3 hm).mono ?_
          rintro e w4 ⟨rfl, hb4⟩
          have hB4 := bstep hB3 hb4
          clear hb4
          cases o
          case false =>
            go_wp2_with fail
            go_ret
            exact ⟨ret_int (HD.out 10 rfl).symm, hB4⟩
          case true =>
            go_wp2_with fail
            go_ret
            exact ⟨ret_int (HD.out 0 rfl).symm, hB4⟩
end Go.Proofs.YtfnephnecighaaaGreat

/- What a command is tried with: small functions; a value's copy. -/
namespace Go.Proofs.YtfnephnecighaaaGreat
open Go.RowKit
set_option linter.unusedVariables false

def noneN (kind : Int) (text : ByteArray) (count : Int) (n : Nat) : Bool := kind == 0 && text.toList.isEmpty && count == 0 && n == 0
def Val.none (x : Val) : Bool := noneN x.kind x.text x.count x.size
def ofStoreB (k : Int) : Bool := decide (k = 19 ∨ k = 20 ∨ k = 21 ∨ k = 22)
def makesB (k : Int) : Bool := decide (k = 1 ∨ k = 3 ∨ k = 4 ∨ k = 7 ∨ k = 8 ∨ k = 11 ∨ k = 14)
def fitsB (kind k : Int) : Bool := if k = 1 then true else if k = 17 ∨ k = 18 then holdsB kind else decide (kind = kindOfI k)

set_option maxHeartbeats 1000000 in
theorem isOfStore_any (k : Int) (w : World) :
    Calls Tryz.prog 55 #[.int .i64 k] w fun e w' => e = .returned (.bool (ofStoreB k)) ∧ w = w' := by
  go_enter Tryz.func55, Tryz.ntmps55
  go_wp2
  all_goals (go_ret; exact ⟨ret_bool (by simp_all [ofStoreB]), rfl⟩)

set_option maxHeartbeats 1000000 in
theorem makes_any (k : Int) (w : World) :
    Calls Tryz.prog 56 #[.int .i64 k] w fun e w' => e = .returned (.bool (makesB k)) ∧ w = w' := by
  go_enter Tryz.func56, Tryz.ntmps56
  go_wp2
  all_goals (go_ret; exact ⟨ret_bool (by simp_all [makesB]), rfl⟩)

set_option maxHeartbeats 1000000 in
theorem fits_any (kind k : Int) (w : World) :
    Calls Tryz.prog 59 #[.int .i64 kind, .int .i64 k] w fun e w' => e = .returned (.bool (fitsB kind k)) ∧ w = w' := by
  go_enter Tryz.func59, Tryz.ntmps59
  go_wp2_with (first
    | (go_at_call 31; refine (holdsElements_any _ _).mono ?_; rintro e w' ⟨rfl, rfl⟩)
    | (go_at_call 58; refine (kindOf_any _ _).mono ?_; rintro e w' ⟨rfl, rfl⟩))
  all_goals (go_ret; refine ⟨ret_bool ?_, rfl⟩; simp_all [fitsB])
  all_goals (try (rw [Bool.eq_iff_iff]; simp))

set_option maxHeartbeats 400000 in
theorem number_any (b : Bool) (w : World) :
    Calls Tryz.prog 133 #[.bool b] w fun e w' => e = .returned (.int .i64 (if b = true then 1 else 0)) ∧ w = w' := by
  cases b
  · go_enter Tryz.func133, Tryz.ntmps133
    go_wp2
    go_ret
    exact ⟨ret_int (by simp), rfl⟩
  · go_enter Tryz.func133, Tryz.ntmps133
    go_wp2
    go_ret
    exact ⟨ret_int (by simp), rfl⟩

set_option maxHeartbeats 1000000 in
theorem isNone_core (kind : Int) (text : ByteArray) (count : Int) (ps is ss : Value) (n : Nat) (w : World)
    (HE : Hid (∀ W, Below w.heap.size w W → Calls Tryz.prog 32 #[valV kind text count ps is ss] W fun e w' => e = .returned (.int .i64 (n : Nat)) ∧ Below W.heap.size W w')) :
    Calls Tryz.prog 52 #[valV kind text count ps is ss] w fun e w' => e = .returned (.bool (noneN kind text count n)) ∧ Below w.heap.size w w' := by
  by_cases h1 : kind = 0
  · subst h1
    by_cases h2 : text.toList = []
    · by_cases h3 : count = 0
      · subst h3
        go_enter Tryz.func52, Tryz.ntmps52
        go_wp2_with fail
        refine (HE.out _ (balloc _ _)).mono ?_
        rintro e w1 ⟨rfl, hb1⟩
        have hB1 := bstep (balloc _ _) hb1
        clear hb1
        go_wp2_with fail
        go_ret
        exact ⟨ret_bool (by rw [Bool.eq_iff_iff]; simp [noneN, h2]), hB1⟩
      · have n3 : (count == 0) = false := by simpa using h3
        go_enter Tryz.func52, Tryz.ntmps52
        go_wp2_with fail
        go_ret
        exact ⟨ret_bool (by simp [noneN, n3]), balloc _ _⟩
    · go_enter Tryz.func52, Tryz.ntmps52
      go_wp2_with fail
      go_ret
      exact ⟨ret_bool (by simp [noneN, h2]), balloc _ _⟩
  · have n1 : (kind == 0) = false := by simpa using h1
    go_enter Tryz.func52, Tryz.ntmps52
    go_wp2_with fail
    go_ret
    exact ⟨ret_bool (by simp [noneN, n1]), balloc _ _⟩

theorem isNone_any (v : Value) (x : Val) (w : World) (h : Reps w v x) :
    Calls Tryz.prog 52 #[v] w fun e w' => e = .returned (.bool x.none) ∧ Below w.heap.size w w' := by
  have he := fun W (hb : Below w.heap.size w W) => elements_any v x W (h.below hb)
  obtain ⟨ps, is, ss, rfl, hl⟩ := h
  exact isNone_core _ _ _ _ _ _ _ _ he

set_option maxHeartbeats 400000 in
theorem isFull_any (v : Value) (x : Val) (w : World) (h : Reps w v x) :
    Calls Tryz.prog 141 #[v] w fun e w' => e = .returned (.bool (decide (20 ≤ x.size))) ∧ Below w.heap.size w w' := by
  have he := fun W (hb : Below w.heap.size w W) => elements_any v x W (h.below hb)
  obtain ⟨ps, is, ss, rfl, hl⟩ := h
  have HE : Hid (∀ W, Below w.heap.size w W → Calls Tryz.prog 32 #[valV x.kind x.text x.count ps is ss] W fun e w' => e = .returned (.int .i64 (x.size : Nat)) ∧ Below W.heap.size W w') := he
  clear he hl
  generalize x.size = n at HE ⊢
  go_enter Tryz.func141, Tryz.ntmps141
  go_wp2_with (go_at_call 32; refine (HE.out _ (balloc _ _)).mono ?_; rintro e w1 ⟨rfl, hb1⟩; have hB1 := bstep (balloc _ _) hb1; clear hb1)
  go_ret
  exact ⟨ret_bool (by rw [Bool.eq_iff_iff]; simp; omega), hB1⟩
end Go.Proofs.YtfnephnecighaaaGreat

/- A value's copy: its lists are rows of the call's own; what is empty is nil. -/
namespace Go.Proofs.YtfnephnecighaaaGreat
open Go.RowKit
set_option linter.unusedVariables false

structure OwnLists (B : Nat) (w : World) (ps is ss : Value) (x : Val) : Prop where
  p : OwnL B 67 2 encP w ps x.pairs
  i : OwnL B 9 1 encI w is x.items
  s : OwnL B 69 2 encS w ss x.scores
theorem OwnLists.kept {B : Nat} {w w' : World} {ps is ss : Value} {x : Val} (h : OwnLists B w ps is ss x) (hb : Below w.heap.size w w') : OwnLists B w' ps is ss x := ⟨h.p.kept hb, h.i.kept hb, h.s.kept hb⟩
theorem OwnLists.lists {B : Nat} {w : World} {ps is ss : Value} {x : Val} (h : OwnLists B w ps is ss x) (hm : x.size ≤ 1048576) : Lists w ps is ss x := by
  unfold Val.size at hm
  exact ⟨RowAt.ofOwn lenP h.p.1 (by omega), RowAt.ofOwn lenI h.i.1 (by omega), RowAt.ofOwn lenS h.s.1 (by omega)⟩

set_option maxHeartbeats 2000000 in
theorem copied_any (v : Value) (x : Val) (w : World) (h : Reps w v x) (hm : x.size ≤ 1048576) :
    Calls Tryz.prog 30 #[v] w fun e w' => ∃ ps is ss, e = .returned (valV x.kind x.text x.count ps is ss) ∧ OwnLists w.heap.size w' ps is ss x ∧ Below w.heap.size w w' := by
  obtain ⟨ps, is, ss, rfl, hl⟩ := h
  unfold Val.size at hm
  have hb0 := (balloc w (valO x.kind x.text x.count ps is ss)).alloc (by simp) (valO 0 ByteArray.empty 0 (.slice none 0 0) (.slice none 0 0) (.slice none 0 0))
  have hp0 := hl.p.below hb0
  go_enter Tryz.func30, Tryz.ntmps30
  go_wp2_with fail
  refine (listP_any _ _ _ hp0 (by omega)).mono ?_
  rintro e w1 ⟨v1, rfl, ho1, hb1⟩
  obtain ⟨a1, c1, rfl⟩ := ownsRow_shape ho1.1
  have hB1 := bstep hb0 hb1
  have ho1 := ho1.base (B' := w.heap.size + 2) (by simp)
  obtain ⟨hc1, hf1⟩ := same_block (hb1.block w.heap.size (by simp; omega))
  obtain ⟨hd1, he1⟩ := same_block (hb1.block (w.heap.size + 1) (by simp))
  have hz1 : w.heap.size + 2 ≤ w1.heap.size := by simpa using hb1.size
  clear hp0 hb1
  have hBs : ∀ u, Below w.heap.size w (w1.setCell ⟨w.heap.size, 3, none⟩ u) := fun u => hB1.setCell (by simp) u
  have hi1 := hl.i.below (hBs (.slice a1 x.pairs.length c1))
  go_wp2_with fail
  refine (listI_any _ _ _ hi1 (by omega)).mono ?_
  rintro e w2 ⟨v2, rfl, ho2, hb2⟩
  obtain ⟨a2, c2, rfl⟩ := ownsRow_shape ho2.1
  have hB2 := bstep (hBs (.slice a1 x.pairs.length c1)) hb2
  have hz1' : w.heap.size + 2 ≤ (w1.setCell ⟨w.heap.size, 3, none⟩ (.slice a1 x.pairs.length c1)).heap.size := by simpa [World.setCell] using hz1
  have ho2 := ho2.base (B' := w.heap.size + 2) hz1'
  have ho1 := (ho1.setCell (a := ⟨w.heap.size, 3, none⟩) (by simp) (.slice a1 x.pairs.length c1)).kept hb2
  obtain ⟨hc2, hf2⟩ := same_block (hb2.block w.heap.size (by omega))
  obtain ⟨hd2, he2⟩ := same_block (hb2.block (w.heap.size + 1) (by omega))
  have hz2 : w.heap.size + 2 ≤ w2.heap.size := Nat.le_trans hz1' hb2.size
  clear hi1 hb2 hBs hz1'
  have hBt : ∀ u, Below w.heap.size w (w2.setCell ⟨w.heap.size, 4, none⟩ u) := fun u => hB2.setCell (by simp) u
  have hs2 := hl.s.below (hBt (.slice a2 x.items.length c2))
  go_wp2_with fail
  refine (listS_any _ _ _ hs2 (by omega)).mono ?_
  rintro e w3 ⟨v3, rfl, ho3, hb3⟩
  obtain ⟨a3, c3, rfl⟩ := ownsRow_shape ho3.1
  have hB3 := bstep (hBt (.slice a2 x.items.length c2)) hb3
  have hz2' : w.heap.size + 2 ≤ (w2.setCell ⟨w.heap.size, 4, none⟩ (.slice a2 x.items.length c2)).heap.size := by simpa [World.setCell] using hz2
  have ho3 := ho3.base (B' := w.heap.size + 2) hz2'
  have ho1 := (ho1.setCell (a := ⟨w.heap.size, 4, none⟩) (by simp) (.slice a2 x.items.length c2)).kept hb3
  have ho2 := (ho2.setCell (a := ⟨w.heap.size, 4, none⟩) (by simp) (.slice a2 x.items.length c2)).kept hb3
  obtain ⟨hc3, hf3⟩ := same_block (hb3.block w.heap.size (by omega))
  obtain ⟨hd3, he3⟩ := same_block (hb3.block (w.heap.size + 1) (by omega))
  have hz3 : w.heap.size + 2 ≤ w3.heap.size := Nat.le_trans hz2' hb3.size
  clear hs2 hb3 hBt hz2'
  go_wp2_with fail
  refine bodyPost_ret (v := valV x.kind x.text x.count (.slice a1 x.pairs.length c1) (.slice a2 x.items.length c2) (.slice a3 x.scores.length c3)) (by simp [results, Tryz.results30, go_sem, hd3, hd2, hd1]) rfl ⟨_, _, _, rfl, ⟨?_, ?_, ?_⟩, ?_⟩
  · refine OwnL.base (B := w.heap.size + 2) ?_ (by omega)
    repeat (refine OwnL.setCell ?_ (by simp) _)
    exact ho1
  · refine OwnL.base (B := w.heap.size + 2) ?_ (by omega)
    repeat (refine OwnL.setCell ?_ (by simp) _)
    exact ho2
  · refine OwnL.base (B := w.heap.size + 2) ?_ (by omega)
    repeat (refine OwnL.setCell ?_ (by simp) _)
    exact ho3
  · repeat (refine Below.setCell ?_ (by simp) _)
    exact hB3
end Go.Proofs.YtfnephnecighaaaGreat
