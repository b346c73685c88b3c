/- Lists, and how they lie in memory as slices: plain definitions, and that what lies below stays. -/
import Derived.Test.YtfnephnecighaaaGreatCb
namespace Go.Proofs.YtfnephnecighaaaGreat
open Go.RowKit
set_option linter.unusedVariables false

def encP (p : ByteArray × ByteArray) : List Value := [.string p.1, .string p.2]
def encI (s : ByteArray) : List Value := [.string s]
def encS (p : ByteArray × Int) : List Value := [.string p.1, .int .i64 p.2]

/-- A slice that reads as the list l: k cells an element. -/
def RowAt {α : Type} (k : Nat) (enc : α → List Value) (w : World) (s : Value) (l : List α) : Prop :=
  l.length ≤ 140737488355328 ∧ ∃ a cap, s = .slice a l.length cap ∧ l.length ≤ cap ∧ cap ≤ 9223372036854775807 ∧
    ((a = none ∧ l = [] ∧ cap = 0) ∨ ∃ b off, a = some ⟨b, off, none⟩ ∧ b < w.heap.size ∧ ∀ i (h : i < l.length) (c : Nat), c < k → w.cell? ⟨b, off + i * k + c, none⟩ = (enc l[i])[c]?)

theorem RowAt.below {α : Type} {k : Nat} {enc : α → List Value} {w w' : World} {s : Value} {l : List α} (h : RowAt k enc w s l) (hb : Below w.heap.size w w') : RowAt k enc w' s l := by
  obtain ⟨hl, a, cap, hs, h1, h2, h3⟩ := h
  refine ⟨hl, a, cap, hs, h1, h2, ?_⟩
  rcases h3 with h3 | ⟨b, off, ha, hbk, hc⟩
  · exact .inl h3
  · exact .inr ⟨b, off, ha, bsize hb hbk, fun i hi c hk => (hb.cell (p := ⟨b, off + i * k + c, none⟩) hbk).trans (hc i hi c hk)⟩

theorem RowAt.nil {α : Type} (k : Nat) (enc : α → List Value) (w : World) : RowAt k enc w (.slice none 0 0) ([] : List α) :=
  ⟨Nat.zero_le _, none, 0, rfl, Nat.le_refl _, by omega, .inl ⟨rfl, rfl, rfl⟩⟩

theorem flat_get {α : Type} (k : Nat) (enc : α → List Value) (hk : ∀ x, (enc x).length = k) (l : List α) : ∀ i (hi : i < l.length) (c : Nat), c < k → (l.flatMap enc)[i * k + c]? = (enc l[i])[c]? := by
  induction l with
  | nil => intro i hi; simp at hi
  | cons x r ih =>
    intro i hi c hc
    rw [List.flatMap_cons]
    cases i with
    | zero => rw [List.getElem?_append_left (by rw [hk]; omega)]; simp
    | succ i =>
      rw [List.getElem?_append_right (by rw [hk, Nat.add_mul]; omega)]
      have := ih i (by simpa using hi) c hc
      rw [hk, show (i + 1) * k + c - k = i * k + c by rw [Nat.add_mul]; omega]
      simpa using this

/-- What a call made and owns reads as its cells say. -/
theorem RowAt.ofOwn {α : Type} {k : Nat} {enc : α → List Value} {w : World} {base : Nat} {e : TypeId} {v : Value} {l : List α} (hk : ∀ x, (enc x).length = k)
    (h : w.ownsRow base e k v l.length (l.flatMap enc)) (hl : l.length ≤ 140737488355328) : RowAt k enc w v l := by
  obtain ⟨_, h | ⟨g, cap, cur, rfl, _, hg, h1, h2, _, h4⟩⟩ := h
  · obtain ⟨rfl, h0⟩ := h
    have : l = [] := List.eq_nil_of_length_eq_zero h0
    subst this
    exact RowAt.nil _ _ _
  · refine ⟨hl, _, cap, rfl, h1, by simpa [maxLen] using h2, .inr ⟨g, 0, rfl, ?_, ?_⟩⟩
    · exact (Array.getElem?_eq_some_iff.1 hg).1
    · intro i hi c hc
      have e1 : w.cell? ⟨g, 0 + i * k + c, none⟩ = cur[0 + i * k + c]? := by unfold World.cell?; rw [hg]; simp
      have hb : i * k + c < l.length * k := by
        have : (i + 1) * k ≤ l.length * k := Nat.mul_le_mul_right k hi
        rw [Nat.add_mul, Nat.one_mul] at this
        omega
      have e2 : cur[0 + i * k + c]? = (cur.toList.take (l.length * k))[i * k + c]? := by
        rw [List.getElem?_take_of_lt hb]; simp
      rw [e1, e2, h4]
      exact flat_get k enc hk l i hi c hc

end Go.Proofs.YtfnephnecighaaaGreat
