/- Commands and replies as data; why a command can't be tried at all; adding. -/
import Derived.Test.YtfnephnecighaaaGreatWb
import Derived.Test.YtfnephnecighaaaGreatCd
namespace Go.Proofs.YtfnephnecighaaaGreat
open Go.RowKit
set_option linter.unusedVariables false

structure Rep where
  code : Int := 0
  text : ByteArray := ⟨#[]⟩
  n : Int := 0
  list : List ByteArray := []
abbrev repV (code : Int) (text : ByteArray) (n : Int) (ls : Value) : Value := .agg #[.int .i64 code, .string text, .int .i64 n, ls]
/-- A reply that lies in memory as r. -/
def RepR (w : World) (v : Value) (r : Rep) : Prop := ∃ ls, v = repV r.code r.text r.n ls ∧ RowAt 1 encI w ls r.list
theorem RepR.below {w w' : World} {v : Value} {r : Rep} (h : RepR w v r) (hb : Below w.heap.size w w') : RepR w' v r := by
  obtain ⟨ls, hv, hl⟩ := h
  exact ⟨ls, hv, hl.below hb⟩

/-- A slice whose row, if it has one, lies from a block number on. -/
def From (B : Nat) (s : Value) : Prop := ∀ a n c, s = .slice (some a) n c → B ≤ a.block
theorem From.nil (B : Nat) : From B (.slice none 0 0) := by intro a n c h; cases h
theorem From.mono {B B' : Nat} {s : Value} (h : From B s) (hb : B' ≤ B) : From B' s := fun a n c e => Nat.le_trans hb (h a n c e)
theorem From.own {w : World} {B : Nat} {e : TypeId} {k n : Nat} {s : Value} {xs : List Value} (h : w.ownsRow B e k s n xs) : From B s := by
  intro a m c hs
  rcases h.2 with ⟨h1, _⟩ | ⟨g, cap, cur, h1, h2, _⟩
  · rw [h1] at hs; cases hs
  · rw [h1] at hs; cases hs; exact h2

theorem RowAt.setCell {α : Type} {k : Nat} {enc : α → List Value} {w : World} {s : Value} {l : List α} {B : Nat} (h : RowAt k enc w s l) (hf : From B s) {p : Addr} (hp : p.block < B) (u : Value) : RowAt k enc (w.setCell p u) s l := by
  obtain ⟨hl, a, cap, hs, h1, h2, h3⟩ := h
  refine ⟨hl, a, cap, hs, h1, h2, ?_⟩
  rcases h3 with h3 | ⟨b, off, ha, hbk, hc⟩
  · exact .inl h3
  · have hB : B ≤ b := by subst ha; exact hf _ _ _ hs
    refine .inr ⟨b, off, ha, by simpa [World.setCell] using hbk, fun i hi c hk => ?_⟩
    rw [← hc i hi c hk]
    exact World.cell?_of_block (a := ⟨b, off + i * k + c, none⟩) (Below.heap_setCell w p u b (by omega))

/-- A value that lies in memory as x, its rows from a block number on. -/
def RepsF (B : Nat) (w : World) (v : Value) (x : Val) : Prop := ∃ ps is ss, v = valV x.kind x.text x.count ps is ss ∧ Lists w ps is ss x ∧ From B ps ∧ From B is ∧ From B ss
def RepRF (B : Nat) (w : World) (v : Value) (r : Rep) : Prop := ∃ ls, v = repV r.code r.text r.n ls ∧ RowAt 1 encI w ls r.list ∧ From B ls
theorem RepsF.reps {B : Nat} {w : World} {v : Value} {x : Val} (h : RepsF B w v x) : Reps w v x := by
  obtain ⟨ps, is, ss, h1, h2, -⟩ := h
  exact ⟨ps, is, ss, h1, h2⟩
theorem RepRF.rep {B : Nat} {w : World} {v : Value} {r : Rep} (h : RepRF B w v r) : RepR w v r := by
  obtain ⟨ls, h1, h2, -⟩ := h
  exact ⟨ls, h1, h2⟩
theorem RepsF.mono {B B' : Nat} {w : World} {v : Value} {x : Val} (h : RepsF B w v x) (hb : B' ≤ B) : RepsF B' w v x := by
  obtain ⟨ps, is, ss, h1, h2, h3, h4, h5⟩ := h
  exact ⟨ps, is, ss, h1, h2, h3.mono hb, h4.mono hb, h5.mono hb⟩
theorem RepRF.mono {B B' : Nat} {w : World} {v : Value} {r : Rep} (h : RepRF B w v r) (hb : B' ≤ B) : RepRF B' w v r := by
  obtain ⟨ls, h1, h2, h3⟩ := h
  exact ⟨ls, h1, h2, h3.mono hb⟩
theorem RepsF.below {B : Nat} {w w' : World} {v : Value} {x : Val} (h : RepsF B w v x) (hb : Below w.heap.size w w') : RepsF B w' v x := by
  obtain ⟨ps, is, ss, h1, h2, h3⟩ := h
  exact ⟨ps, is, ss, h1, h2.below hb, h3⟩
theorem RepRF.below {B : Nat} {w w' : World} {v : Value} {r : Rep} (h : RepRF B w v r) (hb : Below w.heap.size w w') : RepRF B w' v r := by
  obtain ⟨ls, h1, h2, h3⟩ := h
  exact ⟨ls, h1, h2.below hb, h3⟩
theorem RepsF.setCell {B : Nat} {w : World} {v : Value} {x : Val} (h : RepsF B w v x) {p : Addr} (hp : p.block < B) (u : Value) : RepsF B (w.setCell p u) v x := by
  obtain ⟨ps, is, ss, h1, h2, h3, h4, h5⟩ := h
  exact ⟨ps, is, ss, h1, ⟨h2.p.setCell h3 hp u, h2.i.setCell h4 hp u, h2.s.setCell h5 hp u⟩, h3, h4, h5⟩
theorem RepRF.setCell {B : Nat} {w : World} {v : Value} {r : Rep} (h : RepRF B w v r) {p : Addr} (hp : p.block < B) (u : Value) : RepRF B (w.setCell p u) v r := by
  obtain ⟨ls, h1, h2, h3⟩ := h
  exact ⟨ls, h1, h2.setCell h3 hp u, h3⟩

def emptyVal (kind : Int) : Val := ⟨kind, ⟨#[]⟩, 0, [], [], []⟩
theorem Lists.empty (w : World) (kind : Int) : Lists w (.slice none 0 0) (.slice none 0 0) (.slice none 0 0) (emptyVal kind) := ⟨RowAt.nil _ _ _, RowAt.nil _ _ _, RowAt.nil _ _ _⟩
theorem OwnLists.empty (B : Nat) (w : World) (kind : Int) : OwnLists B w (.slice none 0 0) (.slice none 0 0) (.slice none 0 0) (emptyVal kind) :=
  ⟨⟨World.ownsRow_nil _ _ _ _, fun _ => rfl⟩, ⟨World.ownsRow_nil _ _ _ _, fun _ => rfl⟩, ⟨World.ownsRow_nil _ _ _ _, fun _ => rfl⟩⟩

def refusalI (x : Val) (c : Cmd) : Int :=
  if x.none = false ∧ x.fault ≠ 0 then x.fault else if c.fault ≠ 0 then c.fault else if ofStoreB c.k = true then 3 else 0

set_option maxHeartbeats 2000000 in
theorem refusal_any (v : Value) (x : Val) (c : Cmd) (w : World) (h : Reps w v x) :
    Calls Tryz.prog 28 #[v, c.v] w fun e w' => e = .returned (.int .i64 (refusalI x c)) ∧ Below w.heap.size w w' := by
  have hn := fun W (hb : Below w.heap.size w W) => isNone_any v x W (h.below hb)
  have hk := fun W (hb : Below w.heap.size w W) => check_any v x W (h.below hb)
  obtain ⟨ps, is, ss, rfl, hl⟩ := h
  have HN : Hid (∀ W, Below w.heap.size w W → Calls Tryz.prog 52 #[valV x.kind x.text x.count ps is ss] W fun e w' => e = .returned (.bool x.none) ∧ Below W.heap.size W w') := hn
  have HK : Hid (∀ W, Below w.heap.size w W → Calls Tryz.prog 53 #[valV x.kind x.text x.count ps is ss] W fun e w' => e = .returned (.int .i64 x.fault) ∧ Below W.heap.size W w') := hk
  have hd : ∀ F : Int, (if x.none = false ∧ x.fault ≠ 0 then x.fault else if c.fault ≠ 0 then c.fault else if ofStoreB c.k = true then 3 else (0 : Int)) = F → refusalI x c = F := fun F h => h
  have HD : Hid (∀ F : Int, (if x.none = false ∧ x.fault ≠ 0 then x.fault else if c.fault ≠ 0 then c.fault else if ofStoreB c.k = true then 3 else (0 : Int)) = F → refusalI x c = F) := hd
  have hcc : cmdFault c.k c.key c.fld c.txt c.n = c.fault := rfl
  have HCC : Hid (cmdFault c.k c.key c.fld c.txt c.n = c.fault) := hcc
  clear hn hk hl hd hcc
  generalize x.none = nn at HN HD
  generalize x.fault = xf at HK HD
  go_enter Tryz.func28, Tryz.ntmps28
  have hb0 := (balloc w (valO x.kind x.text x.count ps is ss)).alloc (by simp) (.cells #[.int .i64 c.k, .string c.key, .string c.fld, .string c.txt, .int .i64 c.n] 28)
  go_wp2_with fail
  refine (HN.out _ hb0).mono ?_
  rintro e w1 ⟨rfl, hb1⟩
  have hB1 := bstep hb0 hb1
  obtain ⟨hc1, hf1⟩ := same_block (hb1.block w.heap.size (by simp; omega))
  obtain ⟨hd1, he1⟩ := same_block (hb1.block (w.heap.size + 1) (by simp))
  have hz1 : w.heap.size + 2 ≤ w1.heap.size := by simpa using hb1.size
  clear hb1
  cases nn
  · go_wp2_with fail
    refine (HK.out _ hB1).mono ?_
    rintro e w2 ⟨rfl, hb2⟩
    have hB2 := bstep hB1 hb2
    obtain ⟨hd2, he2⟩ := same_block (hb2.block (w.heap.size + 1) (by omega))
    have hz2 : w.heap.size + 2 ≤ w2.heap.size := Nat.le_trans hz1 hb2.size
    clear hb2
    by_cases hx : xf = 0
    · subst hx
      go_wp2_with fail
      refine (checkCommand_any _ _ _ _ _ _).mono ?_
      rintro e w3 ⟨rfl, hb3⟩
      have hB3 := bstep hB2 hb3
      obtain ⟨hd3, he3⟩ := same_block (hb3.block (w.heap.size + 1) (by omega))
      clear hb3
      rw [HCC.out]
      generalize c.fault = cf at HD
      by_cases hcf : cf = 0
      · subst hcf
        go_wp2_with (go_at_call 55; refine (isOfStore_any _ _).mono ?_; rintro e w4 ⟨rfl, rfl⟩)
        all_goals
          go_ret
          refine ⟨ret_int (HD.out _ ?_).symm, hB3⟩
          simp_all
      · have n1 : (cf != 0) = true := by simpa using hcf
        go_wp2_with fail
        go_ret
        exact ⟨ret_int (HD.out _ (by simp [hcf])).symm, hB3⟩
    · have n1 : (xf != 0) = true := by simpa using hx
      go_wp2_with fail
      go_ret
      exact ⟨ret_int (HD.out _ (by simp [hx])).symm, hB2⟩
  · go_wp2_with fail
    refine (checkCommand_any _ _ _ _ _ _).mono ?_
    rintro e w3 ⟨rfl, hb3⟩
    have hB3 := bstep hB1 hb3
    obtain ⟨hd3, he3⟩ := same_block (hb3.block (w.heap.size + 1) (by omega))
    clear hb3
    rw [HCC.out]
    generalize c.fault = cf at HD
    by_cases hcf : cf = 0
    · subst hcf
      go_wp2_with (go_at_call 55; refine (isOfStore_any _ _).mono ?_; rintro e w4 ⟨rfl, rfl⟩)
      all_goals
        go_ret
        refine ⟨ret_int (HD.out _ ?_).symm, hB3⟩
        simp_all
    · have n1 : (cf != 0) = true := by simpa using hcf
      go_wp2_with fail
      go_ret
      exact ⟨ret_int (HD.out _ (by simp [hcf])).symm, hB3⟩
end Go.Proofs.YtfnephnecighaaaGreat
