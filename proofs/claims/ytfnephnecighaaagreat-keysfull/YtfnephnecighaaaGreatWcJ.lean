/- Commands and replies as data; why a command can't be tried at all; adding. -/
import Derived.Test.YtfnephnecighaaaGreatVhJ
import Derived.Test.YtfnephnecighaaaGreatVbJ
import Derived.Test.YtfnephnecighaaaGreatVfJ
import Derived.Test.YtfnephnecighaaaGreatLwJ
namespace Go.Proofs.YtfnephnecighaaaGreat
open Go.RowKit
set_option linter.unusedVariables false

structure Rep where
  code : Int := 0
  text : ByteArray := ⟨#[]⟩
  n : Int := 0
  list : List ByteArray := []
abbrev repV (code : Int) (text : ByteArray) (n : Int) (ls : Value) : Value := .agg #[.int .i64 code, .string text, .int .i64 n, ls]
/-- A reply that lies in memory as r. -/
def RepR (w : World) (v : Value) (r : Rep) : Prop := ∃ ls, v = repV r.code r.text r.n ls ∧ RowAt 1 encI w ls r.list
theorem RepR.below {w w' : World} {v : Value} {r : Rep} (h : RepR w v r) (hb : Below w.heap.size w w') : RepR w' v r := by
  obtain ⟨ls, hv, hl⟩ := h
  exact ⟨ls, hv, hl.below hb⟩

/-- A slice whose row, if it has one, lies from a block number on. -/
def From (B : Nat) (s : Value) : Prop := ∀ a n c, s = .slice (some a) n c → B ≤ a.block
theorem From.nil (B : Nat) : From B (.slice none 0 0) := by intro a n c h; cases h
theorem From.mono {B B' : Nat} {s : Value} (h : From B s) (hb : B' ≤ B) : From B' s := fun a n c e => Nat.le_trans hb (h a n c e)
theorem From.own {w : World} {B : Nat} {e : TypeId} {k n : Nat} {s : Value} {xs : List Value} (h : w.ownsRow B e k s n xs) : From B s := by
  intro a m c hs
  rcases h.2 with ⟨h1, _⟩ | ⟨g, cap, cur, h1, h2, _⟩
  · rw [h1] at hs; cases hs
  · rw [h1] at hs; cases hs; exact h2

theorem RowAt.setCell {α : Type} {k : Nat} {enc : α → List Value} {w : World} {s : Value} {l : List α} {B : Nat} (h : RowAt k enc w s l) (hf : From B s) {p : Addr} (hp : p.block < B) (u : Value) : RowAt k enc (w.setCell p u) s l := by
  obtain ⟨hl, a, cap, hs, h1, h2, h3⟩ := h
  refine ⟨hl, a, cap, hs, h1, h2, ?_⟩
  rcases h3 with h3 | ⟨b, off, ha, hbk, hc⟩
  · exact .inl h3
  · have hB : B ≤ b := by subst ha; exact hf _ _ _ hs
    refine .inr ⟨b, off, ha, by simpa [World.setCell] using hbk, fun i hi c hk => ?_⟩
    rw [← hc i hi c hk]
    exact World.cell?_of_block (a := ⟨b, off + i * k + c, none⟩) (Below.heap_setCell w p u b (by omega))

/-- A value that lies in memory as x, its rows from a block number on. -/
def RepsF (B : Nat) (w : World) (v : Value) (x : Val) : Prop := ∃ ps is ss, v = valV x.kind x.text x.count ps is ss ∧ Lists w ps is ss x ∧ From B ps ∧ From B is ∧ From B ss
def RepRF (B : Nat) (w : World) (v : Value) (r : Rep) : Prop := ∃ ls, v = repV r.code r.text r.n ls ∧ RowAt 1 encI w ls r.list ∧ From B ls
theorem RepsF.reps {B : Nat} {w : World} {v : Value} {x : Val} (h : RepsF B w v x) : Reps w v x := by
  obtain ⟨ps, is, ss, h1, h2, -⟩ := h
  exact ⟨ps, is, ss, h1, h2⟩
theorem RepRF.rep {B : Nat} {w : World} {v : Value} {r : Rep} (h : RepRF B w v r) : RepR w v r := by
  obtain ⟨ls, h1, h2, -⟩ := h
  exact ⟨ls, h1, h2⟩
theorem RepsF.mono {B B' : Nat} {w : World} {v : Value} {x : Val} (h : RepsF B w v x) (hb : B' ≤ B) : RepsF B' w v x := by
  obtain ⟨ps, is, ss, h1, h2, h3, h4, h5⟩ := h
  exact ⟨ps, is, ss, h1, h2, h3.mono hb, h4.mono hb, h5.mono hb⟩
theorem RepRF.mono {B B' : Nat} {w : World} {v : Value} {r : Rep} (h : RepRF B w v r) (hb : B' ≤ B) : RepRF B' w v r := by
  obtain ⟨ls, h1, h2, h3⟩ := h
  exact ⟨ls, h1, h2, h3.mono hb⟩
theorem RepsF.below {B : Nat} {w w' : World} {v : Value} {x : Val} (h : RepsF B w v x) (hb : Below w.heap.size w w') : RepsF B w' v x := by
  obtain ⟨ps, is, ss, h1, h2, h3⟩ := h
  exact ⟨ps, is, ss, h1, h2.below hb, h3⟩
theorem RepRF.below {B : Nat} {w w' : World} {v : Value} {r : Rep} (h : RepRF B w v r) (hb : Below w.heap.size w w') : RepRF B w' v r := by
  obtain ⟨ls, h1, h2, h3⟩ := h
  exact ⟨ls, h1, h2.below hb, h3⟩
theorem RepsF.setCell {B : Nat} {w : World} {v : Value} {x : Val} (h : RepsF B w v x) {p : Addr} (hp : p.block < B) (u : Value) : RepsF B (w.setCell p u) v x := by
  obtain ⟨ps, is, ss, h1, h2, h3, h4, h5⟩ := h
  exact ⟨ps, is, ss, h1, ⟨h2.p.setCell h3 hp u, h2.i.setCell h4 hp u, h2.s.setCell h5 hp u⟩, h3, h4, h5⟩
theorem RepRF.setCell {B : Nat} {w : World} {v : Value} {r : Rep} (h : RepRF B w v r) {p : Addr} (hp : p.block < B) (u : Value) : RepRF B (w.setCell p u) v r := by
  obtain ⟨ls, h1, h2, h3⟩ := h
  exact ⟨ls, h1, h2.setCell h3 hp u, h3⟩

def emptyVal (kind : Int) : Val := ⟨kind, ⟨#[]⟩, 0, [], [], []⟩
theorem Lists.empty (w : World) (kind : Int) : Lists w (.slice none 0 0) (.slice none 0 0) (.slice none 0 0) (emptyVal kind) := ⟨RowAt.nil _ _ _, RowAt.nil _ _ _, RowAt.nil _ _ _⟩
theorem OwnLists.empty (B : Nat) (w : World) (kind : Int) : OwnLists B w (.slice none 0 0) (.slice none 0 0) (.slice none 0 0) (emptyVal kind) :=
  ⟨⟨World.ownsRow_nil _ _ _ _, fun _ => rfl⟩, ⟨World.ownsRow_nil _ _ _ _, fun _ => rfl⟩, ⟨World.ownsRow_nil _ _ _ _, fun _ => rfl⟩⟩

def refusalI (x : Val) (c : Cmd) : Int :=
  if x.none = false ∧ x.fault ≠ 0 then x.fault else if c.fault ≠ 0 then c.fault else if ofStoreB c.k = true then 3 else 0

set_option maxHeartbeats 2000000 in
theorem refusal_any (v : Value) (x : Val) (c : Cmd) (w : World) (h : Reps w v x) :
    Calls Tryz.prog 28 #[v, c.v] w fun e w' => e = .returned (.int .i64 (refusalI x c)) ∧ Below w.heap.size w w' := by
  have hn := fun W (hb : Below w.heap.size w W) => isNone_any v x W (h.below hb)
  have hk := fun W (hb : Below w.heap.size w W) => check_any v x W (h.below hb)
  obtain ⟨ps, is, ss, rfl, hl⟩ := h
  have HN : Hid (∀ W, Below w.heap.size w W → Calls Tryz.prog 52 #[valV x.kind x.text x.count ps is ss] W fun e w' => e = .returned (.bool x.none) ∧ Below W.heap.size W w') := hn
  have HK : Hid (∀ W, Below w.heap.size w W → Calls Tryz.prog 53 #[valV x.kind x.text x.count ps is ss] W fun e w' => e = .returned (.int .i64 x.fault) ∧ Below W.heap.size W w') := hk
  have hd : ∀ F : Int, (if x.none = false ∧ x.fault ≠ 0 then x.fault else if c.fault ≠ 0 then c.fault else if ofStoreB c.k = true then 3 else (0 : Int)) = F → refusalI x c = F := fun F h => h
  have HD : Hid (∀ F : Int, (if x.none = false ∧ x.fault ≠ 0 then x.fault else if c.fault ≠ 0 then c.fault else if ofStoreB c.k = true then 3 else (0 : Int)) = F → refusalI x c = F) := hd
  have hcc : cmdFault c.k c.key c.fld c.txt c.n = c.fault := rfl
  have HCC : Hid (cmdFault c.k c.key c.fld c.txt c.n = c.fault) := hcc
  clear hn hk hl hd hcc
  generalize x.none = nn at HN HD
  generalize x.fault = xf at HK HD
  go_enter Tryz.func28, Tryz.ntmps28
  have hb0 := (balloc w (valO x.kind x.text x.count ps is ss)).alloc (by simp) (.cells #[.int .i64 c.k, .string c.key, .string c.fld, .string c.txt, .int .i64 c.n] 28)
  go_wp2_with fail
  refine (HN.out _ hb0).mono ?_
  rintro e w1 ⟨rfl, hb1⟩
  have hB1 := bstep hb0 hb1
  obtain ⟨hc1, hf1⟩ := same_block (hb1.block w.heap.size (by simp; omega))
  obtain ⟨hd1, he1⟩ := same_block (hb1.block (w.heap.size + 1) (by simp))
  have hz1 : w.heap.size + 2 ≤ w1.heap.size := by simpa using hb1.size
  clear hb1
  cases nn
  · go_wp2_with fail
    refine (HK.out _ hB1).mono ?_
    rintro e w2 ⟨rfl, hb2⟩
    have hB2 := bstep hB1 hb2
    obtain ⟨hd2, he2⟩ := same_block (hb2.block (w.heap.size + 1) (by omega))
    have hz2 : w.heap.size + 2 ≤ w2.heap.size := Nat.le_trans hz1 hb2.size
    clear hb2
    by_cases hx : xf = 0
    · subst hx
      go_wp2_with fail
      refine (checkCommand_any _ _ _ _ _ _).mono ?_
      rintro e w3 ⟨rfl, hb3⟩
      have hB3 := bstep hB2 hb3
      obtain ⟨hd3, he3⟩ := same_block (hb3.block (w.heap.size + 1) (by omega))
      clear hb3
      rw [HCC.out]
      generalize c.fault = cf at HD
      by_cases hcf : cf = 0
      · subst hcf
        go_wp2_with (go_at_call 55; refine (isOfStore_any _ _).mono ?_; rintro e w4 ⟨rfl, rfl⟩)
        all_goals
          go_ret
          refine ⟨ret_int (HD.out _ ?_).symm, hB3⟩
          simp_all
      · have n1 : (cf != 0) = true := by simpa using hcf
        go_wp2_with fail
        go_ret
        exact ⟨ret_int (HD.out _ (by simp [hcf])).symm, hB3⟩
    · have n1 : (xf != 0) = true := by simpa using hx
      go_wp2_with fail
      go_ret
      exact ⟨ret_int (HD.out _ (by simp [hx])).symm, hB2⟩
  · go_wp2_with fail
    refine (checkCommand_any _ _ _ _ _ _).mono ?_
    rintro e w3 ⟨rfl, hb3⟩
    have hB3 := bstep hB1 hb3
    obtain ⟨hd3, he3⟩ := same_block (hb3.block (w.heap.size + 1) (by omega))
    clear hb3
    rw [HCC.out]
    generalize c.fault = cf at HD
    by_cases hcf : cf = 0
    · subst hcf
      go_wp2_with (go_at_call 55; refine (isOfStore_any _ _).mono ?_; rintro e w4 ⟨rfl, rfl⟩)
      all_goals
        go_ret
        refine ⟨ret_int (HD.out _ ?_).symm, hB3⟩
        simp_all
    · have n1 : (cf != 0) = true := by simpa using hcf
      go_wp2_with fail
      go_ret
      exact ⟨ret_int (HD.out _ (by simp [hcf])).symm, hB3⟩
end Go.Proofs.YtfnephnecighaaaGreat

/- Sorted texts rise just if all are different. -/
namespace Go.Proofs.YtfnephnecighaaaGreat
open Go.RowKit
set_option linter.unusedVariables false

theorem toList_ofBytes (t : List UInt8) : (ofBytes t).toList = t := by rw [ByteArray.toList_eq]; rfl
theorem ltS_of (a b : List UInt8) : ltS (ofBytes a) (ofBytes b) = true ↔ a < b := by rw [ltS_iff, toList_ofBytes, toList_ofBytes]
theorem data_inj {a b : ByteArray} (h : a.data.toList = b.data.toList) : a = b := bytes_ext (by rw [ByteArray.toList_eq, ByteArray.toList_eq, h])
theorem sorted_rises (l : List ByteArray) : risesB ltS (sortT l) = true ↔ l.Nodup := by
  rw [rises_pair (lt := ltS) (fun a b c h h' => ltS_trans h h')]
  unfold sortT
  rw [List.pairwise_map]
  simp only [ltS_of]
  have hp := List.mergeSort_perm (l.map fun s => s.data.toList) (fun x y => decide (x ≤ y))
  have hn : ((l.map fun s => s.data.toList).mergeSort fun x y => decide (x ≤ y)).Nodup ↔ l.Nodup := by
    rw [hp.nodup_iff]
    constructor
    · intro h; exact List.Pairwise.imp (fun h e => h (by rw [e])) (List.pairwise_map.1 h)
    · intro h; exact List.pairwise_map.2 (h.imp fun h e => h (data_inj e))
  have hs : ((l.map fun s => s.data.toList).mergeSort fun x y => decide (x ≤ y)).Pairwise (fun x y => x ≤ y) := by
    have := List.pairwise_mergeSort (le := fun (x y : List UInt8) => decide (x ≤ y)) (fun a b c h h' => by simp at *; exact List.le_trans h h') (fun a b => by simp; exact List.le_total a b) (l.map fun s => s.data.toList)
    exact this.imp fun h => by simpa using h
  rw [← hn]
  constructor
  · intro h; exact h.imp fun h e => by subst e; exact List.lt_irrefl (_ : List UInt8) h
  · intro h
    exact (hs.and h).imp fun {a b} h => by
      rcases Decidable.em (a < b) with h3 | h3
      · exact h3
      · exact absurd (List.le_antisymm h.1 (List.not_lt.1 h3)) h.2
end Go.Proofs.YtfnephnecighaaaGreat

/- Stores: plain definitions, and how they lie in memory. -/
namespace Go.Proofs.YtfnephnecighaaaGreat
open Go.RowKit
set_option linter.unusedVariables false
set_option maxRecDepth 100000

/-- A key with its value, and till when it is there. -/
structure Kv where
  key : ByteArray
  x : Val
  til : Int
structure Sto where
  now : Int
  es : List Kv
def isTimeB (n : Int) : Bool := decide (0 ≤ n) && decide (n ≤ 1073741824)
def wrongK (now : Int) (e : Kv) : Bool := !(isNameB e.key && decide (e.x.fault = 0) && (decide (e.til = 0) || (decide (now < e.til) && decide (e.til ≤ 1073741824))))
def ltK (a b : Kv) : Bool := ltS a.key b.key
def Sto.badB (s : Sto) : Bool := !isTimeB s.now || decide (12 < s.es.length) || anyB (wrongK s.now) s.es || !risesB ltK s.es
def Sto.fault (s : Sto) : Int := if s.badB = true then 13 else 0

/-- An entry with where its value's lists lie. -/
structure Ent where
  kv : Kv
  pa : Option Addr
  pc : Nat
  ia : Option Addr
  ic : Nat
  sa : Option Addr
  sc : Nat
abbrev Ent.ps (e : Ent) : Value := .slice e.pa e.kv.x.pairs.length e.pc
abbrev Ent.is (e : Ent) : Value := .slice e.ia e.kv.x.items.length e.ic
abbrev Ent.ss (e : Ent) : Value := .slice e.sa e.kv.x.scores.length e.sc
def encE (e : Ent) : List Value := [.string e.kv.key, .int .i64 e.kv.x.kind, .string e.kv.x.text, .int .i64 e.kv.x.count, e.ps, e.is, e.ss, .int .i64 e.kv.til]
theorem lenE (e : Ent) : (encE e).length = 8 := rfl
theorem oneE (e : Ent) : ∀ u ∈ encE e, u.oneCell' = true := by
  intro u hu
  simp only [encE, List.mem_cons, List.not_mem_nil, or_false] at hu
  rcases hu with rfl | rfl | rfl | rfl | rfl | rfl | rfl | rfl <;> rfl
abbrev zeroE : Value := .agg #[.string ByteArray.empty, .int .i64 0, .string ByteArray.empty, .int .i64 0, .slice none 0 0, .slice none 0 0, .slice none 0 0, .int .i64 0]
theorem info_entry : (Tryz.prog.info? 57).map (fun i => (i.zero, i.size, i.bytes)) = some (some zeroE, 8, 128) := by kernel_rfl
abbrev entV (key : ByteArray) (kind : Int) (text : ByteArray) (count : Int) (ps is ss : Value) (til : Int) : Value := .agg #[.string key, .int .i64 kind, .string text, .int .i64 count, ps, is, ss, .int .i64 til]
abbrev entO (key : ByteArray) (kind : Int) (text : ByteArray) (count : Int) (ps is ss : Value) (til : Int) : Obj := .cells #[.string key, .int .i64 kind, .string text, .int .i64 count, ps, is, ss, .int .i64 til] 57
abbrev valE (e : Ent) : Value := entV e.kv.key e.kv.x.kind e.kv.x.text e.kv.x.count e.ps e.is e.ss e.kv.til
abbrev stoV (now : Int) (es : Value) : Value := .agg #[.int .i64 now, es]
abbrev stoO (now : Int) (es : Value) : Obj := .cells #[.int .i64 now, es] 40

theorem eightE {w : World} {b off : Nat} {l : List Ent} (hc : ∀ i (h : i < l.length) (c : Nat), c < 8 → w.cell? ⟨b, off + i * 8 + c, none⟩ = (encE l[i])[c]?) (m : Nat) (hm : m < l.length) :
    w.cell? ⟨b, off + m * 8, none⟩ = some (.string l[m].kv.key) ∧ w.cell? ⟨b, off + m * 8 + 1, none⟩ = some (.int .i64 l[m].kv.x.kind) ∧ w.cell? ⟨b, off + m * 8 + 2, none⟩ = some (.string l[m].kv.x.text) ∧
    w.cell? ⟨b, off + m * 8 + 3, none⟩ = some (.int .i64 l[m].kv.x.count) ∧ w.cell? ⟨b, off + m * 8 + 4, none⟩ = some l[m].ps ∧ w.cell? ⟨b, off + m * 8 + 5, none⟩ = some l[m].is ∧
    w.cell? ⟨b, off + m * 8 + 6, none⟩ = some l[m].ss ∧ w.cell? ⟨b, off + m * 8 + 7, none⟩ = some (.int .i64 l[m].kv.til) :=
  ⟨hc m hm 0 (by omega), hc m hm 1 (by omega), hc m hm 2 (by omega), hc m hm 3 (by omega), hc m hm 4 (by omega), hc m hm 5 (by omega), hc m hm 6 (by omega), hc m hm 7 (by omega)⟩

/-- A store that lies in memory as s. -/
def RepsSt (w : World) (v : Value) (s : Sto) : Prop := ∃ es E, v = stoV s.now es ∧ RowAt 8 encE w es E ∧ (∀ e ∈ E, Lists w e.ps e.is e.ss e.kv.x) ∧ E.map (·.kv) = s.es
theorem RepsSt.below {w w' : World} {v : Value} {s : Sto} (h : RepsSt w v s) (hb : Below w.heap.size w w') : RepsSt w' v s := by
  obtain ⟨es, E, h1, h2, h3, h4⟩ := h
  exact ⟨es, E, h1, h2.below hb, fun e he => (h3 e he).below hb, h4⟩
/-- A store that came in. -/
def RepsSW (w : World) (v : Value) (s : Sto) : Prop := ∃ es E, v = stoV s.now es ∧ RowW 8 encE w es E ∧ (∀ e ∈ E, ListsW w e.ps e.is e.ss e.kv.x) ∧ E.map (·.kv) = s.es
theorem RepsSW.below {w w' : World} {v : Value} {s : Sto} (h : RepsSW w v s) (hb : Below w.heap.size w w') : RepsSW w' v s := by
  obtain ⟨es, E, h1, h2, h3, h4⟩ := h
  exact ⟨es, E, h1, h2.below hb, fun e he => (h3 e he).below hb, h4⟩
theorem RepsSt.toW {w : World} {v : Value} {s : Sto} (h : RepsSt w v s) : RepsSW w v s := by
  obtain ⟨es, E, h1, h2, h3, h4⟩ := h
  exact ⟨es, E, h1, h2.toW, fun e he => (h3 e he).toW, h4⟩
end Go.Proofs.YtfnephnecighaaaGreat
