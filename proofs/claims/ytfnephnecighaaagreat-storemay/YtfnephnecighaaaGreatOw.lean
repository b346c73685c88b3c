/- Arguments opened: slices of structs, as the reader reads them. -/
import Derived.Test.YtfnephnecighaaaGreatOp
import Derived.Deep.Slices
namespace Go.Proofs.YtfnephnecighaaaGreat
open Go.ChangeShapes Go.WideShapes Go.ChangeAt Go.RowKit
set_option maxRecDepth 100000

theorem addr_add (b off i : Nat) : (⟨b, off, none⟩ : Addr).add i = ⟨b, off + i, none⟩ := by
  unfold Addr.add
  split
  · next h => subst h; rfl
  · rfl
theorem spot_free {w : World} {a : Addr} {v : Value} (h : w.cell? a = some v) : a.spot = none := by
  unfold World.cell? at h
  split at h
  · split at h
    · cases h
    · next hs => cases hh : a.spot with
      | none => rfl
      | some _ => simp [hh] at hs
  · cases h

/-- A slice that came in: its elements, each of k cells. -/
def InAt {α : Type} (k : Nat) (enc : α → List Value) (wf : α → Prop) (w : World) (s : Value) (l : List α) : Prop := (∀ d ∈ l, wf d) ∧ ∃ a cap, s = .slice a l.length cap ∧ l.length ≤ cap ∧ cap ≤ 9223372036854775807 ∧
  (l = [] ∨ ∃ b off, a = some ⟨b, off, none⟩ ∧ b < w.heap.size ∧ ∀ i (h : i < l.length) (c : Nat), c < k → w.cell? ⟨b, off + i * k + c, none⟩ = (enc l[i])[c]?)

theorem list_of {α : Type} (p : Nat → α → Prop) : ∀ n, (∀ i, i < n → ∃ x, p i x) → ∃ l : List α, l.length = n ∧ ∀ i (h : i < l.length), p i l[i] := by
  intro n
  induction n with
  | zero => intro _; exact ⟨[], rfl, fun i h => absurd h (Nat.not_lt_zero i)⟩
  | succ n ih =>
    intro h
    obtain ⟨l, hl, hp⟩ := ih (fun i hi => h i (by omega))
    obtain ⟨x, hx⟩ := h n (by omega)
    refine ⟨l ++ [x], by simp [hl], fun i hi => ?_⟩
    by_cases hi' : i < l.length
    · rw [List.getElem_append_left hi']; exact hp i hi'
    · have : i = l.length := by simp at hi; omega
      subst this
      rw [List.getElem_append_right (Nat.le_refl _)]
      simp only [Nat.sub_self, List.getElem_cons_zero]
      rw [hl]; exact hx

theorem open_rows {H : Type} {enc0 : TypeId × Value → H} {P : Program} {w : World} {held : Bool} {t e : TypeId} {fuel : Nat} {v : Value} {x : DataW H × List MemPlace} {α : Type} (k : Nat) (enc : α → List Value) (wf : α → Prop)
    (hk : 0 < k) (ht : P.underlying t = some (.slice e)) (hcells : P.cellsOf e = k)
    (hone : ∀ n cs' y, cs'.length = k → DataW.trod enc0 P w 0 (fun _ => true) held n e cs' = some y → ∃ d, cs' = enc d ∧ wf d)
    (hv : ∃ a len cap, v = .slice a len cap)
    (h : DataW.trod enc0 P w 0 (fun _ => true) held fuel t v.cells.toList = some x) : ∃ l, InAt k enc wf w v l ∧ (l = [] ∨ ∃ es sp, x.1 = .slice es sp ∧ es.length = l.length) := by
  obtain ⟨a, len, cap, rfl⟩ := hv
  rcases Go.Deep.open_slice ht h with ⟨hc, -⟩ | ⟨a', len', cap', m, n, D, Pl, hc, -, hl, hm, hmm, hx, hel⟩
  · simp [Value.cells] at hc
    obtain ⟨rfl, rfl, rfl⟩ := hc
    exact ⟨[], ⟨fun d hd => by simp at hd, _, _, rfl, Nat.le_refl _, by omega, .inl rfl⟩, .inl rfl⟩
  · simp [Value.cells] at hc
    obtain ⟨rfl, rfl, rfl⟩ := hc
    simp at hmm
    obtain ⟨l, hll, hp⟩ := list_of (fun i d => wf d ∧ ∀ c, c < k → w.cell? (a'.add (i * k + c)) = (enc d)[c]?) len (fun i hi => by
      obtain ⟨cs', hcs, htr⟩ := hel i (by omega)
      rw [hcells] at hcs
      obtain ⟨-, hlen, hget⟩ := World.cells?_some hcs
      obtain ⟨d, rfl, hd⟩ := hone n cs' _ hlen htr
      exact ⟨d, hd, fun c hc => by rw [← Go.Deep.add_add]; exact hget c hc⟩)
    refine ⟨l, ⟨fun d hd => ?_, _, _, by rw [hll], by omega, by simpa [maxLen] using hm, ?_⟩, .inr ⟨_, _, congrArg Prod.fst hx, by simp [hll]⟩⟩
    · obtain ⟨i, hi, rfl⟩ := List.getElem_of_mem hd
      exact (hp i hi).1
    · by_cases h0 : len = 0
      · exact .inl (List.eq_nil_of_length_eq_zero (by omega))
      · obtain ⟨cs', hcs, -⟩ := hel 0 (by omega)
        rw [hcells] at hcs
        obtain ⟨-, hlen, hget⟩ := World.cells?_some hcs
        have c0 := hget 0 hk
        rw [List.getElem?_eq_getElem (by omega)] at c0
        have c1 : w.cell? a' = some (cs'[0]'(by omega)) := by simpa [Addr.add] using c0
        have hs := spot_free c1
        have hb := World.block_lt_of_cell? w a' c1
        obtain ⟨b, off, sp⟩ := a'
        simp only at hs hb
        subst hs
        refine .inr ⟨b, off, rfl, hb, fun i hi c hc => ?_⟩
        have := (hp i hi).2 c hc
        rw [addr_add] at this
        rw [Nat.add_assoc]; exact this

end Go.Proofs.YtfnephnecighaaaGreat
