/- A value's copy: its lists are rows of the call's own; what is empty is nil. -/
import Derived.Test.YtndadgjidihfeaaGreatVhJ
import Derived.Laws.ResultCell
import Derived.Test.YtndadgjidihfeaaGreatCdJ
namespace Go.Proofs.YtndadgjidihfeaaGreat
open Go.RowKit
set_option linter.unusedVariables false

structure OwnLists (B : Nat) (w : World) (ps is ss : Value) (x : Val) : Prop where
  p : OwnL B 52 2 encP w ps x.pairs
  i : OwnL B 9 1 encI w is x.items
  s : OwnL B 57 2 encS w ss x.scores
theorem OwnLists.kept {B : Nat} {w w' : World} {ps is ss : Value} {x : Val} (h : OwnLists B w ps is ss x) (hb : Below w.heap.size w w') : OwnLists B w' ps is ss x := ⟨h.p.kept hb, h.i.kept hb, h.s.kept hb⟩
theorem OwnLists.lists {B : Nat} {w : World} {ps is ss : Value} {x : Val} (h : OwnLists B w ps is ss x) (hm : x.size ≤ 1048576) : Lists w ps is ss x := by
  unfold Val.size at hm
  exact ⟨RowAt.ofOwn lenP h.p.1 (by omega), RowAt.ofOwn lenI h.i.1 (by omega), RowAt.ofOwn lenS h.s.1 (by omega)⟩

set_option maxHeartbeats 2000000 in
theorem copied_any (v : Value) (x : Val) (w : World) (h : Reps w v x) (hm : x.size ≤ 1048576) :
    Calls Tryz.prog 35 #[v] w fun e w' => ∃ ps is ss, e = .returned (valV x.kind x.text x.count ps is ss) ∧ OwnLists w.heap.size w' ps is ss x ∧ Below w.heap.size w w' := by
  obtain ⟨ps, is, ss, rfl, hl⟩ := h
  unfold Val.size at hm
  have hb0 := (balloc w (valO x.kind x.text x.count ps is ss)).alloc (by simp) (valO 0 ByteArray.empty 0 (.slice none 0 0) (.slice none 0 0) (.slice none 0 0))
  have hp0 := hl.p.below hb0
  go_enter Tryz.func35, Tryz.ntmps35
  go_wp2_with fail
  refine (listP_any _ _ _ hp0 (by omega)).mono ?_
  rintro e w1 ⟨v1, rfl, ho1, hb1⟩
  obtain ⟨a1, c1, rfl⟩ := ownsRow_shape ho1.1
  have hB1 := bstep hb0 hb1
  have ho1 := ho1.base (B' := w.heap.size + 2) (by simp)
  obtain ⟨hc1, hf1⟩ := same_block (hb1.block w.heap.size (by simp; omega))
  obtain ⟨hd1, he1⟩ := same_block (hb1.block (w.heap.size + 1) (by simp))
  have hz1 : w.heap.size + 2 ≤ w1.heap.size := by simpa using hb1.size
  clear hp0 hb1
  have hBs : ∀ u, Below w.heap.size w (w1.setCell ⟨w.heap.size, 3, none⟩ u) := fun u => hB1.setCell (by simp) u
  have hi1 := hl.i.below (hBs (.slice a1 x.pairs.length c1))
  go_wp2_with fail
  refine (listI_any _ _ _ hi1 (by omega)).mono ?_
  rintro e w2 ⟨v2, rfl, ho2, hb2⟩
  obtain ⟨a2, c2, rfl⟩ := ownsRow_shape ho2.1
  have hB2 := bstep (hBs (.slice a1 x.pairs.length c1)) hb2
  have hz1' : w.heap.size + 2 ≤ (w1.setCell ⟨w.heap.size, 3, none⟩ (.slice a1 x.pairs.length c1)).heap.size := by simpa [World.setCell] using hz1
  have ho2 := ho2.base (B' := w.heap.size + 2) hz1'
  have ho1 := (ho1.setCell (a := ⟨w.heap.size, 3, none⟩) (by simp) (.slice a1 x.pairs.length c1)).kept hb2
  obtain ⟨hc2, hf2⟩ := same_block (hb2.block w.heap.size (by omega))
  obtain ⟨hd2, he2⟩ := same_block (hb2.block (w.heap.size + 1) (by omega))
  have hz2 : w.heap.size + 2 ≤ w2.heap.size := Nat.le_trans hz1' hb2.size
  clear hi1 hb2 hBs hz1'
  have hBt : ∀ u, Below w.heap.size w (w2.setCell ⟨w.heap.size, 4, none⟩ u) := fun u => hB2.setCell (by simp) u
  have hs2 := hl.s.below (hBt (.slice a2 x.items.length c2))
  go_wp2_with fail
  refine (listS_any _ _ _ hs2 (by omega)).mono ?_
  rintro e w3 ⟨v3, rfl, ho3, hb3⟩
  obtain ⟨a3, c3, rfl⟩ := ownsRow_shape ho3.1
  have hB3 := bstep (hBt (.slice a2 x.items.length c2)) hb3
  have hz2' : w.heap.size + 2 ≤ (w2.setCell ⟨w.heap.size, 4, none⟩ (.slice a2 x.items.length c2)).heap.size := by simpa [World.setCell] using hz2
  have ho3 := ho3.base (B' := w.heap.size + 2) hz2'
  have ho1 := (ho1.setCell (a := ⟨w.heap.size, 4, none⟩) (by simp) (.slice a2 x.items.length c2)).kept hb3
  have ho2 := (ho2.setCell (a := ⟨w.heap.size, 4, none⟩) (by simp) (.slice a2 x.items.length c2)).kept hb3
  obtain ⟨hc3, hf3⟩ := same_block (hb3.block w.heap.size (by omega))
  obtain ⟨hd3, he3⟩ := same_block (hb3.block (w.heap.size + 1) (by omega))
  have hz3 : w.heap.size + 2 ≤ w3.heap.size := Nat.le_trans hz2' hb3.size
  clear hs2 hb3 hBt hz2'
  go_wp2_with fail
  refine bodyPost_ret (v := valV x.kind x.text x.count (.slice a1 x.pairs.length c1) (.slice a2 x.items.length c2) (.slice a3 x.scores.length c3)) (by simp [results, Tryz.results35, go_sem, hd3, hd2, hd1]) rfl ⟨_, _, _, rfl, ⟨?_, ?_, ?_⟩, ?_⟩
  · refine OwnL.base (B := w.heap.size + 2) ?_ (by omega)
    repeat (refine OwnL.setCell ?_ (by simp) _)
    exact ho1
  · refine OwnL.base (B := w.heap.size + 2) ?_ (by omega)
    repeat (refine OwnL.setCell ?_ (by simp) _)
    exact ho2
  · refine OwnL.base (B := w.heap.size + 2) ?_ (by omega)
    repeat (refine OwnL.setCell ?_ (by simp) _)
    exact ho3
  · repeat (refine Below.setCell ?_ (by simp) _)
    exact hB3
end Go.Proofs.YtndadgjidihfeaaGreat

/- Commands and replies as data; why a command can't be tried at all; adding. -/
namespace Go.Proofs.YtndadgjidihfeaaGreat
open Go.RowKit
set_option linter.unusedVariables false

structure Rep where
  code : Int := 0
  text : ByteArray := ⟨#[]⟩
  n : Int := 0
  list : List ByteArray := []
abbrev repV (code : Int) (text : ByteArray) (n : Int) (ls : Value) : Value := .agg #[.int .i64 code, .string text, .int .i64 n, ls]
/-- A reply that lies in memory as r. -/
def RepR (w : World) (v : Value) (r : Rep) : Prop := ∃ ls, v = repV r.code r.text r.n ls ∧ RowAt 1 encI w ls r.list
theorem RepR.below {w w' : World} {v : Value} {r : Rep} (h : RepR w v r) (hb : Below w.heap.size w w') : RepR w' v r := by
  obtain ⟨ls, hv, hl⟩ := h
  exact ⟨ls, hv, hl.below hb⟩

/-- A slice whose row, if it has one, lies from a block number on. -/
def From (B : Nat) (s : Value) : Prop := ∀ a n c, s = .slice (some a) n c → B ≤ a.block
theorem From.nil (B : Nat) : From B (.slice none 0 0) := by intro a n c h; cases h
theorem From.mono {B B' : Nat} {s : Value} (h : From B s) (hb : B' ≤ B) : From B' s := fun a n c e => Nat.le_trans hb (h a n c e)
theorem From.own {w : World} {B : Nat} {e : TypeId} {k n : Nat} {s : Value} {xs : List Value} (h : w.ownsRow B e k s n xs) : From B s := by
  intro a m c hs
  rcases h.2 with ⟨h1, _⟩ | ⟨g, cap, cur, h1, h2, _⟩
  · rw [h1] at hs; cases hs
  · rw [h1] at hs; cases hs; exact h2

theorem RowAt.setCell {α : Type} {k : Nat} {enc : α → List Value} {w : World} {s : Value} {l : List α} {B : Nat} (h : RowAt k enc w s l) (hf : From B s) {p : Addr} (hp : p.block < B) (u : Value) : RowAt k enc (w.setCell p u) s l := by
  obtain ⟨hl, a, cap, hs, h1, h2, h3⟩ := h
  refine ⟨hl, a, cap, hs, h1, h2, ?_⟩
  rcases h3 with h3 | ⟨b, off, ha, hbk, hc⟩
  · exact .inl h3
  · have hB : B ≤ b := by subst ha; exact hf _ _ _ hs
    refine .inr ⟨b, off, ha, by simpa [World.setCell] using hbk, fun i hi c hk => ?_⟩
    rw [← hc i hi c hk]
    exact World.cell?_of_block (a := ⟨b, off + i * k + c, none⟩) (Below.heap_setCell w p u b (by omega))

/-- A value that lies in memory as x, its rows from a block number on. -/
def RepsF (B : Nat) (w : World) (v : Value) (x : Val) : Prop := ∃ ps is ss, v = valV x.kind x.text x.count ps is ss ∧ Lists w ps is ss x ∧ From B ps ∧ From B is ∧ From B ss
def RepRF (B : Nat) (w : World) (v : Value) (r : Rep) : Prop := ∃ ls, v = repV r.code r.text r.n ls ∧ RowAt 1 encI w ls r.list ∧ From B ls
theorem RepsF.reps {B : Nat} {w : World} {v : Value} {x : Val} (h : RepsF B w v x) : Reps w v x := by
  obtain ⟨ps, is, ss, h1, h2, -⟩ := h
  exact ⟨ps, is, ss, h1, h2⟩
theorem RepRF.rep {B : Nat} {w : World} {v : Value} {r : Rep} (h : RepRF B w v r) : RepR w v r := by
  obtain ⟨ls, h1, h2, -⟩ := h
  exact ⟨ls, h1, h2⟩
theorem RepsF.mono {B B' : Nat} {w : World} {v : Value} {x : Val} (h : RepsF B w v x) (hb : B' ≤ B) : RepsF B' w v x := by
  obtain ⟨ps, is, ss, h1, h2, h3, h4, h5⟩ := h
  exact ⟨ps, is, ss, h1, h2, h3.mono hb, h4.mono hb, h5.mono hb⟩
theorem RepRF.mono {B B' : Nat} {w : World} {v : Value} {r : Rep} (h : RepRF B w v r) (hb : B' ≤ B) : RepRF B' w v r := by
  obtain ⟨ls, h1, h2, h3⟩ := h
  exact ⟨ls, h1, h2, h3.mono hb⟩
theorem RepsF.below {B : Nat} {w w' : World} {v : Value} {x : Val} (h : RepsF B w v x) (hb : Below w.heap.size w w') : RepsF B w' v x := by
  obtain ⟨ps, is, ss, h1, h2, h3⟩ := h
  exact ⟨ps, is, ss, h1, h2.below hb, h3⟩
theorem RepRF.below {B : Nat} {w w' : World} {v : Value} {r : Rep} (h : RepRF B w v r) (hb : Below w.heap.size w w') : RepRF B w' v r := by
  obtain ⟨ls, h1, h2, h3⟩ := h
  exact ⟨ls, h1, h2.below hb, h3⟩
theorem RepsF.setCell {B : Nat} {w : World} {v : Value} {x : Val} (h : RepsF B w v x) {p : Addr} (hp : p.block < B) (u : Value) : RepsF B (w.setCell p u) v x := by
  obtain ⟨ps, is, ss, h1, h2, h3, h4, h5⟩ := h
  exact ⟨ps, is, ss, h1, ⟨h2.p.setCell h3 hp u, h2.i.setCell h4 hp u, h2.s.setCell h5 hp u⟩, h3, h4, h5⟩
theorem RepRF.setCell {B : Nat} {w : World} {v : Value} {r : Rep} (h : RepRF B w v r) {p : Addr} (hp : p.block < B) (u : Value) : RepRF B (w.setCell p u) v r := by
  obtain ⟨ls, h1, h2, h3⟩ := h
  exact ⟨ls, h1, h2.setCell h3 hp u, h3⟩

def emptyVal (kind : Int) : Val := ⟨kind, ⟨#[]⟩, 0, [], [], []⟩
theorem Lists.empty (w : World) (kind : Int) : Lists w (.slice none 0 0) (.slice none 0 0) (.slice none 0 0) (emptyVal kind) := ⟨RowAt.nil _ _ _, RowAt.nil _ _ _, RowAt.nil _ _ _⟩
theorem OwnLists.empty (B : Nat) (w : World) (kind : Int) : OwnLists B w (.slice none 0 0) (.slice none 0 0) (.slice none 0 0) (emptyVal kind) :=
  ⟨⟨World.ownsRow_nil _ _ _ _, fun _ => rfl⟩, ⟨World.ownsRow_nil _ _ _ _, fun _ => rfl⟩, ⟨World.ownsRow_nil _ _ _ _, fun _ => rfl⟩⟩

def refusalI (x : Val) (c : Cmd) : Int :=
  if x.none = false ∧ x.fault ≠ 0 then x.fault else if c.fault ≠ 0 then c.fault else if ofStoreB c.k = true then 3 else 0

set_option maxHeartbeats 2000000 in
theorem refusal_any (v : Value) (x : Val) (c : Cmd) (w : World) (h : Reps w v x) :
    Calls Tryz.prog 33 #[v, c.v] w fun e w' => e = .returned (.int .i64 (refusalI x c)) ∧ Below w.heap.size w w' := by
  have hn := fun W (hb : Below w.heap.size w W) => isNone_any v x W (h.below hb)
  have hk := fun W (hb : Below w.heap.size w W) => check_any v x W (h.below hb)
  obtain ⟨ps, is, ss, rfl, hl⟩ := h
  have HN : Hid (∀ W, Below w.heap.size w W → Calls Tryz.prog 48 #[valV x.kind x.text x.count ps is ss] W fun e w' => e = .returned (.bool x.none) ∧ Below W.heap.size W w') := hn
  have HK : Hid (∀ W, Below w.heap.size w W → Calls Tryz.prog 23 #[valV x.kind x.text x.count ps is ss] W fun e w' => e = .returned (.int .i64 x.fault) ∧ Below W.heap.size W w') := hk
  have hd : ∀ F : Int, (if x.none = false ∧ x.fault ≠ 0 then x.fault else if c.fault ≠ 0 then c.fault else if ofStoreB c.k = true then 3 else (0 : Int)) = F → refusalI x c = F := fun F h => h
  have HD : Hid (∀ F : Int, (if x.none = false ∧ x.fault ≠ 0 then x.fault else if c.fault ≠ 0 then c.fault else if ofStoreB c.k = true then 3 else (0 : Int)) = F → refusalI x c = F) := hd
  have hcc : cmdFault c.k c.key c.fld c.txt c.n = c.fault := rfl
  have HCC : Hid (cmdFault c.k c.key c.fld c.txt c.n = c.fault) := hcc
  clear hn hk hl hd hcc
  generalize x.none = nn at HN HD
  generalize x.fault = xf at HK HD
  go_enter Tryz.func33, Tryz.ntmps33
  have hb0 := (balloc w (valO x.kind x.text x.count ps is ss)).alloc (by simp) (.cells #[.int .i64 c.k, .string c.key, .string c.fld, .string c.txt, .int .i64 c.n] 28)
  go_wp2_with fail
  refine (HN.out _ hb0).mono ?_
  rintro e w1 ⟨rfl, hb1⟩
  have hB1 := bstep hb0 hb1
  obtain ⟨hc1, hf1⟩ := same_block (hb1.block w.heap.size (by simp; omega))
  obtain ⟨hd1, he1⟩ := same_block (hb1.block (w.heap.size + 1) (by simp))
  have hz1 : w.heap.size + 2 ≤ w1.heap.size := by simpa using hb1.size
  clear hb1
  cases nn
  · go_wp2_with fail
    refine (HK.out _ hB1).mono ?_
    rintro e w2 ⟨rfl, hb2⟩
    have hB2 := bstep hB1 hb2
    obtain ⟨hd2, he2⟩ := same_block (hb2.block (w.heap.size + 1) (by omega))
    have hz2 : w.heap.size + 2 ≤ w2.heap.size := Nat.le_trans hz1 hb2.size
    clear hb2
    by_cases hx : xf = 0
    · subst hx
      go_wp2_with fail
      refine (checkCommand_any _ _ _ _ _ _).mono ?_
      rintro e w3 ⟨rfl, hb3⟩
      have hB3 := bstep hB2 hb3
      obtain ⟨hd3, he3⟩ := same_block (hb3.block (w.heap.size + 1) (by omega))
      clear hb3
      rw [HCC.out]
      generalize c.fault = cf at HD
      by_cases hcf : cf = 0
      · subst hcf
        go_wp2_with (go_at_call 50; refine (isOfStore_any _ _).mono ?_; rintro e w4 ⟨rfl, rfl⟩)
        all_goals
          go_ret
          refine ⟨ret_int (HD.out _ ?_).symm, hB3⟩
          simp_all
      · have n1 : (cf != 0) = true := by simpa using hcf
        go_wp2_with fail
        go_ret
        exact ⟨ret_int (HD.out _ (by simp [hcf])).symm, hB3⟩
    · have n1 : (xf != 0) = true := by simpa using hx
      go_wp2_with fail
      go_ret
      exact ⟨ret_int (HD.out _ (by simp [hx])).symm, hB2⟩
  · go_wp2_with fail
    refine (checkCommand_any _ _ _ _ _ _).mono ?_
    rintro e w3 ⟨rfl, hb3⟩
    have hB3 := bstep hB1 hb3
    obtain ⟨hd3, he3⟩ := same_block (hb3.block (w.heap.size + 1) (by omega))
    clear hb3
    rw [HCC.out]
    generalize c.fault = cf at HD
    by_cases hcf : cf = 0
    · subst hcf
      go_wp2_with (go_at_call 50; refine (isOfStore_any _ _).mono ?_; rintro e w4 ⟨rfl, rfl⟩)
      all_goals
        go_ret
        refine ⟨ret_int (HD.out _ ?_).symm, hB3⟩
        simp_all
    · have n1 : (cf != 0) = true := by simpa using hcf
      go_wp2_with fail
      go_ret
      exact ⟨ret_int (HD.out _ (by simp [hcf])).symm, hB3⟩
end Go.Proofs.YtndadgjidihfeaaGreat
