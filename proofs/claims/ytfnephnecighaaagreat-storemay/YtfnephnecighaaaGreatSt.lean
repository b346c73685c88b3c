/- Stores: plain definitions, and how they lie in memory. -/
import Derived.Test.YtfnephnecighaaaGreatVh
import Derived.Test.YtfnephnecighaaaGreatRx
namespace Go.Proofs.YtfnephnecighaaaGreat
open Go.RowKit
set_option linter.unusedVariables false
set_option maxRecDepth 100000

/-- A key with its value, and till when it is there. -/
structure Kv where
  key : ByteArray
  x : Val
  til : Int
structure Sto where
  now : Int
  es : List Kv
def isTimeB (n : Int) : Bool := decide (0 ≤ n) && decide (n ≤ 1073741824)
def wrongK (now : Int) (e : Kv) : Bool := !(isNameB e.key && decide (e.x.fault = 0) && (decide (e.til = 0) || (decide (now < e.til) && decide (e.til ≤ 1073741824))))
def ltK (a b : Kv) : Bool := ltS a.key b.key
def Sto.badB (s : Sto) : Bool := !isTimeB s.now || decide (12 < s.es.length) || anyB (wrongK s.now) s.es || !risesB ltK s.es
def Sto.fault (s : Sto) : Int := if s.badB = true then 13 else 0

/-- An entry with where its value's lists lie. -/
structure Ent where
  kv : Kv
  pa : Option Addr
  pc : Nat
  ia : Option Addr
  ic : Nat
  sa : Option Addr
  sc : Nat
abbrev Ent.ps (e : Ent) : Value := .slice e.pa e.kv.x.pairs.length e.pc
abbrev Ent.is (e : Ent) : Value := .slice e.ia e.kv.x.items.length e.ic
abbrev Ent.ss (e : Ent) : Value := .slice e.sa e.kv.x.scores.length e.sc
def encE (e : Ent) : List Value := [.string e.kv.key, .int .i64 e.kv.x.kind, .string e.kv.x.text, .int .i64 e.kv.x.count, e.ps, e.is, e.ss, .int .i64 e.kv.til]
theorem lenE (e : Ent) : (encE e).length = 8 := rfl
theorem oneE (e : Ent) : ∀ u ∈ encE e, u.oneCell' = true := by
  intro u hu
  simp only [encE, List.mem_cons, List.not_mem_nil, or_false] at hu
  rcases hu with rfl | rfl | rfl | rfl | rfl | rfl | rfl | rfl <;> rfl
abbrev zeroE : Value := .agg #[.string ByteArray.empty, .int .i64 0, .string ByteArray.empty, .int .i64 0, .slice none 0 0, .slice none 0 0, .slice none 0 0, .int .i64 0]
theorem info_entry : (Tryz.prog.info? 57).map (fun i => (i.zero, i.size, i.bytes)) = some (some zeroE, 8, 128) := by kernel_rfl
abbrev entV (key : ByteArray) (kind : Int) (text : ByteArray) (count : Int) (ps is ss : Value) (til : Int) : Value := .agg #[.string key, .int .i64 kind, .string text, .int .i64 count, ps, is, ss, .int .i64 til]
abbrev entO (key : ByteArray) (kind : Int) (text : ByteArray) (count : Int) (ps is ss : Value) (til : Int) : Obj := .cells #[.string key, .int .i64 kind, .string text, .int .i64 count, ps, is, ss, .int .i64 til] 57
abbrev valE (e : Ent) : Value := entV e.kv.key e.kv.x.kind e.kv.x.text e.kv.x.count e.ps e.is e.ss e.kv.til
abbrev stoV (now : Int) (es : Value) : Value := .agg #[.int .i64 now, es]
abbrev stoO (now : Int) (es : Value) : Obj := .cells #[.int .i64 now, es] 40

theorem eightE {w : World} {b off : Nat} {l : List Ent} (hc : ∀ i (h : i < l.length) (c : Nat), c < 8 → w.cell? ⟨b, off + i * 8 + c, none⟩ = (encE l[i])[c]?) (m : Nat) (hm : m < l.length) :
    w.cell? ⟨b, off + m * 8, none⟩ = some (.string l[m].kv.key) ∧ w.cell? ⟨b, off + m * 8 + 1, none⟩ = some (.int .i64 l[m].kv.x.kind) ∧ w.cell? ⟨b, off + m * 8 + 2, none⟩ = some (.string l[m].kv.x.text) ∧
    w.cell? ⟨b, off + m * 8 + 3, none⟩ = some (.int .i64 l[m].kv.x.count) ∧ w.cell? ⟨b, off + m * 8 + 4, none⟩ = some l[m].ps ∧ w.cell? ⟨b, off + m * 8 + 5, none⟩ = some l[m].is ∧
    w.cell? ⟨b, off + m * 8 + 6, none⟩ = some l[m].ss ∧ w.cell? ⟨b, off + m * 8 + 7, none⟩ = some (.int .i64 l[m].kv.til) :=
  ⟨hc m hm 0 (by omega), hc m hm 1 (by omega), hc m hm 2 (by omega), hc m hm 3 (by omega), hc m hm 4 (by omega), hc m hm 5 (by omega), hc m hm 6 (by omega), hc m hm 7 (by omega)⟩

/-- A store that lies in memory as s. -/
def RepsSt (w : World) (v : Value) (s : Sto) : Prop := ∃ es E, v = stoV s.now es ∧ RowAt 8 encE w es E ∧ (∀ e ∈ E, Lists w e.ps e.is e.ss e.kv.x) ∧ E.map (·.kv) = s.es
theorem RepsSt.below {w w' : World} {v : Value} {s : Sto} (h : RepsSt w v s) (hb : Below w.heap.size w w') : RepsSt w' v s := by
  obtain ⟨es, E, h1, h2, h3, h4⟩ := h
  exact ⟨es, E, h1, h2.below hb, fun e he => (h3 e he).below hb, h4⟩
/-- A store that came in. -/
def RepsSW (w : World) (v : Value) (s : Sto) : Prop := ∃ es E, v = stoV s.now es ∧ RowW 8 encE w es E ∧ (∀ e ∈ E, ListsW w e.ps e.is e.ss e.kv.x) ∧ E.map (·.kv) = s.es
theorem RepsSW.below {w w' : World} {v : Value} {s : Sto} (h : RepsSW w v s) (hb : Below w.heap.size w w') : RepsSW w' v s := by
  obtain ⟨es, E, h1, h2, h3, h4⟩ := h
  exact ⟨es, E, h1, h2.below hb, fun e he => (h3 e he).below hb, h4⟩
theorem RepsSt.toW {w : World} {v : Value} {s : Sto} (h : RepsSt w v s) : RepsSW w v s := by
  obtain ⟨es, E, h1, h2, h3, h4⟩ := h
  exact ⟨es, E, h1, h2.toW, fun e he => (h3 e he).toW, h4⟩
end Go.Proofs.YtfnephnecighaaaGreat
