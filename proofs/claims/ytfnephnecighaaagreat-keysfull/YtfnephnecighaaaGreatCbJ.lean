/- Contracts of the functions on commands (a struct of five cells): what each returns; of old memory nothing turns. -/
import Derived.Test.YtfnephnecighaaaGreatCaJ
import Derived.Deep.DeepCutAuto
namespace Go.Proofs.YtfnephnecighaaaGreat
open Go.RowKit

/-- A command as a value. -/
abbrev cmdV (k : Int) (key fld txt : ByteArray) (n : Int) : Value := .agg #[.int .i64 k, .string key, .string fld, .string txt, .int .i64 n]

def foreignB (k : Int) (key fld txt : ByteArray) (n : Int) : Bool :=
  (!hasKeyB k && !key.toList.isEmpty) || (!hasFieldB k && !fld.toList.isEmpty) || (!hasTextB k && !txt.toList.isEmpty) || (!hasNumberB k && n != 0)

def partsB (k : Int) (key fld txt : ByteArray) : Bool :=
  (!hasKeyB k || isNameB key) && (!hasFieldB k || isNameB fld) && isTextB txt

def cmdFault (k : Int) (key fld txt : ByteArray) (n : Int) : Int :=
  if k < 1 ∨ 22 < k then 3 else if foreignB k key fld txt n = true then 8 else if partsB k key fld txt = false then 1 else if isCountB n = false then 2 else 0

set_option maxHeartbeats 1000000 in
theorem hasForeignPart_any (k : Int) (key fld txt : ByteArray) (n : Int) (w : World) :
    Calls Tryz.prog 91 #[cmdV k key fld txt n] w fun e w' => e = .returned (.bool (foreignB k key fld txt n)) ∧ Below w.heap.size w w' := by
  go_enter Tryz.func91, Tryz.ntmps91
  go_wp2_with (first
    | (go_at_call 125; refine (hasKey_any _ _).mono ?_; rintro e w' ⟨rfl, rfl⟩)
    | (go_at_call 126; refine (hasField_any _ _).mono ?_; rintro e w' ⟨rfl, rfl⟩)
    | (go_at_call 127; refine (hasText_any _ _).mono ?_; rintro e w' ⟨rfl, rfl⟩)
    | (go_at_call 128; refine (hasNumber_any _ _).mono ?_; rintro e w' ⟨rfl, rfl⟩))
  all_goals (go_ret; exact ⟨ret_bool (by simp_all [foreignB]), (Below.refl _ _).alloc (Nat.le_refl _) _⟩)

set_option maxHeartbeats 1000000 in
theorem partsMayBe_any (k : Int) (key fld txt : ByteArray) (n : Int) (w : World) :
    Calls Tryz.prog 92 #[cmdV k key fld txt n] w fun e w' => e = .returned (.bool (partsB k key fld txt)) ∧ Below w.heap.size w w' := by
  go_enter Tryz.func92, Tryz.ntmps92
  go_wp2_with (first
    | (go_at_call 125; refine (hasKey_any _ _).mono ?_; rintro e w' ⟨rfl, rfl⟩)
    | (go_at_call 126; refine (hasField_any _ _).mono ?_; rintro e w' ⟨rfl, rfl⟩)
    | (go_at_call 85; refine (isName_any _ _).mono ?_; rintro e w' ⟨rfl, rfl⟩)
    | (go_at_call 110; refine (isText_any _ _).mono ?_; rintro e w' ⟨rfl, rfl⟩))
  all_goals (go_ret; exact ⟨ret_bool (by simp_all [partsB]), (Below.refl _ _).alloc (Nat.le_refl _) _⟩)

theorem bcell {W w1 : World} (hb : Below W.heap.size W w1) : (∀ b o, b < W.heap.size → w1.cell? ⟨b, o, none⟩ = W.cell? ⟨b, o, none⟩) ∧ (∀ b o, b < W.heap.size → w1.frozen? ⟨b, o, none⟩ = W.frozen? ⟨b, o, none⟩) :=
  ⟨fun b o h => hb.cell (p := ⟨b, o, none⟩) h, fun b o h => hb.frozen (p := ⟨b, o, none⟩) h⟩

theorem bsize {W w1 : World} (hb : Below W.heap.size W w1) {k : Nat} (h : k < W.heap.size) : k < w1.heap.size := Nat.lt_of_lt_of_le h hb.size
theorem bstep {w w0 w1 : World} (h : Below w.heap.size w w0) (hb : Below w0.heap.size w0 w1) : Below w.heap.size w w1 := h.trans (hb.mono h.size)
theorem balloc (w : World) (o : Obj) : Below w.heap.size w (w.alloc o) := (Below.refl _ _).alloc (Nat.le_refl _) _

set_option maxHeartbeats 1000000 in
theorem checkCommand_any (k : Int) (key fld txt : ByteArray) (n : Int) (w : World) :
    Calls Tryz.prog 54 #[cmdV k key fld txt n] w fun e w' => e = .returned (.int .i64 (cmdFault k key fld txt n)) ∧ Below w.heap.size w w' := by
  go_enter Tryz.func54, Tryz.ntmps54
  go_wp2_with (first
    | (go_at_call 91; refine (hasForeignPart_any _ _ _ _ _ _).mono ?_; rintro e w1 ⟨rfl, hb1⟩; obtain ⟨hc1, hf1⟩ := bcell hb1; have hz1 : w.heap.size < w1.heap.size := bsize hb1 (by simp); have hB1 := bstep (balloc _ _) hb1)
    | (go_at_call 92; refine (partsMayBe_any _ _ _ _ _ _).mono ?_; rintro e w2 ⟨rfl, hb2⟩; obtain ⟨hc2, hf2⟩ := bcell hb2; have hz2 : w.heap.size < w2.heap.size := bsize hb2 (by assumption); have hB2 := bstep hB1 hb2)
    | (go_at_call 93; refine (isCount_any _ _).mono ?_; rintro e w3 ⟨rfl, rfl⟩))
  all_goals
    go_ret
    refine ⟨ret_int ?_, ?_⟩
    · unfold cmdFault
      simp_all
      try omega
    · first | exact hB2 | exact hB1 | exact balloc _ _
end Go.Proofs.YtfnephnecighaaaGreat

/- Lists, and how they lie in memory as slices: plain definitions, and that what lies below stays. -/
namespace Go.Proofs.YtfnephnecighaaaGreat
open Go.RowKit
set_option linter.unusedVariables false

def encP (p : ByteArray × ByteArray) : List Value := [.string p.1, .string p.2]
def encI (s : ByteArray) : List Value := [.string s]
def encS (p : ByteArray × Int) : List Value := [.string p.1, .int .i64 p.2]

/-- A slice that reads as the list l: k cells an element. -/
def RowAt {α : Type} (k : Nat) (enc : α → List Value) (w : World) (s : Value) (l : List α) : Prop :=
  l.length ≤ 140737488355328 ∧ ∃ a cap, s = .slice a l.length cap ∧ l.length ≤ cap ∧ cap ≤ 9223372036854775807 ∧
    ((a = none ∧ l = [] ∧ cap = 0) ∨ ∃ b off, a = some ⟨b, off, none⟩ ∧ b < w.heap.size ∧ ∀ i (h : i < l.length) (c : Nat), c < k → w.cell? ⟨b, off + i * k + c, none⟩ = (enc l[i])[c]?)

theorem RowAt.below {α : Type} {k : Nat} {enc : α → List Value} {w w' : World} {s : Value} {l : List α} (h : RowAt k enc w s l) (hb : Below w.heap.size w w') : RowAt k enc w' s l := by
  obtain ⟨hl, a, cap, hs, h1, h2, h3⟩ := h
  refine ⟨hl, a, cap, hs, h1, h2, ?_⟩
  rcases h3 with h3 | ⟨b, off, ha, hbk, hc⟩
  · exact .inl h3
  · exact .inr ⟨b, off, ha, bsize hb hbk, fun i hi c hk => (hb.cell (p := ⟨b, off + i * k + c, none⟩) hbk).trans (hc i hi c hk)⟩

theorem RowAt.nil {α : Type} (k : Nat) (enc : α → List Value) (w : World) : RowAt k enc w (.slice none 0 0) ([] : List α) :=
  ⟨Nat.zero_le _, none, 0, rfl, Nat.le_refl _, by omega, .inl ⟨rfl, rfl, rfl⟩⟩

theorem flat_get {α : Type} (k : Nat) (enc : α → List Value) (hk : ∀ x, (enc x).length = k) (l : List α) : ∀ i (hi : i < l.length) (c : Nat), c < k → (l.flatMap enc)[i * k + c]? = (enc l[i])[c]? := by
  induction l with
  | nil => intro i hi; simp at hi
  | cons x r ih =>
    intro i hi c hc
    rw [List.flatMap_cons]
    cases i with
    | zero => rw [List.getElem?_append_left (by rw [hk]; omega)]; simp
    | succ i =>
      rw [List.getElem?_append_right (by rw [hk, Nat.add_mul]; omega)]
      have := ih i (by simpa using hi) c hc
      rw [hk, show (i + 1) * k + c - k = i * k + c by rw [Nat.add_mul]; omega]
      simpa using this

/-- What a call made and owns reads as its cells say. -/
theorem RowAt.ofOwn {α : Type} {k : Nat} {enc : α → List Value} {w : World} {base : Nat} {e : TypeId} {v : Value} {l : List α} (hk : ∀ x, (enc x).length = k)
    (h : w.ownsRow base e k v l.length (l.flatMap enc)) (hl : l.length ≤ 140737488355328) : RowAt k enc w v l := by
  obtain ⟨_, h | ⟨g, cap, cur, rfl, _, hg, h1, h2, _, h4⟩⟩ := h
  · obtain ⟨rfl, h0⟩ := h
    have : l = [] := List.eq_nil_of_length_eq_zero h0
    subst this
    exact RowAt.nil _ _ _
  · refine ⟨hl, _, cap, rfl, h1, by simpa [maxLen] using h2, .inr ⟨g, 0, rfl, ?_, ?_⟩⟩
    · exact (Array.getElem?_eq_some_iff.1 hg).1
    · intro i hi c hc
      have e1 : w.cell? ⟨g, 0 + i * k + c, none⟩ = cur[0 + i * k + c]? := by unfold World.cell?; rw [hg]; simp
      have hb : i * k + c < l.length * k := by
        have : (i + 1) * k ≤ l.length * k := Nat.mul_le_mul_right k hi
        rw [Nat.add_mul, Nat.one_mul] at this
        omega
      have e2 : cur[0 + i * k + c]? = (cur.toList.take (l.length * k))[i * k + c]? := by
        rw [List.getElem?_take_of_lt hb]; simp
      rw [e1, e2, h4]
      exact flat_get k enc hk l i hi c hc

end Go.Proofs.YtfnephnecighaaaGreat

/- Values as lists, and how they lie in memory: plain definitions, and that what lies below stays. -/
namespace Go.Proofs.YtfnephnecighaaaGreat
open Go.RowKit
set_option linter.unusedVariables false

structure Val where
  kind : Int
  text : ByteArray
  count : Int
  pairs : List (ByteArray × ByteArray)
  items : List ByteArray
  scores : List (ByteArray × Int)

/-- A value as it is handed over. -/
abbrev valV (kind : Int) (text : ByteArray) (count : Int) (ps is ss : Value) : Value := .agg #[.int .i64 kind, .string text, .int .i64 count, ps, is, ss]
abbrev valO (kind : Int) (text : ByteArray) (count : Int) (ps is ss : Value) : Obj := .cells #[.int .i64 kind, .string text, .int .i64 count, ps, is, ss] 26

/-- The three lists of a value, in memory. -/
structure Lists (w : World) (ps is ss : Value) (x : Val) : Prop where
  p : RowAt 2 encP w ps x.pairs
  i : RowAt 1 encI w is x.items
  s : RowAt 2 encS w ss x.scores

theorem Lists.below {w w' : World} {ps is ss : Value} {x : Val} (h : Lists w ps is ss x) (hb : Below w.heap.size w w') : Lists w' ps is ss x := ⟨h.p.below hb, h.i.below hb, h.s.below hb⟩

/-- A value that lies in memory as x. -/
def Reps (w : World) (v : Value) (x : Val) : Prop := ∃ ps is ss, v = valV x.kind x.text x.count ps is ss ∧ Lists w ps is ss x
theorem Reps.below {w w' : World} {v : Value} {x : Val} (h : Reps w v x) (hb : Below w.heap.size w w') : Reps w' v x := by
  obtain ⟨ps, is, ss, hv, hl⟩ := h
  exact ⟨ps, is, ss, hv, hl.below hb⟩
end Go.Proofs.YtfnephnecighaaaGreat
