/- A set by a map from texts to bools that the call makes: what its keys are; looked up, laid, deleted, counted. -/
import Derived.Test.YtgpdnhammdgndaaGreatMxJ
import Derived.Maps.OwnSet
import Derived.Maps.OwnOps
import Derived.Carry
namespace Go.Proofs.YtgpdnhammdgndaaGreat
open Go.RowKit Go.Maps
set_option linter.unusedVariables false
set_option maxRecDepth 100000

abbrev keyL (t : ByteArray) : Lit := .string t.data.toList
theorem keyL_inj {a b : ByteArray} (h : keyL a = keyL b) : a = b := by
  have : a.data.toList = b.data.toList := by injection h
  exact data_inj this
theorem keyL_key (t : ByteArray) : WideAt.IsKeyLit (keyL t) := trivial
theorem strLaw : Keyed Tryz.prog 9 := string_keyed Tryz.underlying9
theorem zeroBool (w : World) : (zeroValue 4).run Tryz.prog w = .ok (.bool false) w := by kernel_rfl
theorem plainElem_bool_inv {H : Type} {P : Program} {e : TypeId} (he : P.underlying e = some .bool) {v : Value} {z : DataW H × List MemPlace} (h : plainElem P e v = some z) : ∃ x, v = .bool x ∧ z = (.lit (.bool x), []) := by
  unfold plainElem at h
  rw [he] at h
  cases v <;> simp at h
  exact ⟨_, rfl, h.symm⟩

def memB (t : ByteArray) (L : List ByteArray) : Bool := L.any (fun u => decide (u = t))
theorem memB_iff (t : ByteArray) (L : List ByteArray) : memB t L = true ↔ t ∈ L := by simp [memB]
theorem memB_eq {t t' : ByteArray} {L L' : List ByteArray} (h : t ∈ L ↔ t' ∈ L') : memB t L = memB t' L' := by
  cases h1 : memB t L <;> cases h2 : memB t' L' <;> simp_all [← memB_iff]
/-- Block b is a map whose keys, each with true, are just the texts of L. -/
def SetB (w : World) (b n : Nat) (L : List ByteArray) : Prop :=
  ∃ D : DataW Unit, w.ownsMap Tryz.prog 9 (plainElem Tryz.prog 4) b n D ∧ (∀ t, Maps.has D (keyL t) = memB t L) ∧ (∀ t, D.atKey (keyL t) (.lit (.bool false)) = .lit (.bool (memB t L))) ∧ Maps.size D = L.length
theorem SetB.made (w : World) : SetB (w.alloc (.map #[] 0)) w.heap.size 0 [] :=
  ⟨.map [], World.ownsMap_made _ _ _ _, fun t => rfl, fun t => rfl, rfl⟩
theorem SetB.kept {w w' : World} {b n : Nat} {L : List ByteArray} {row : Option Nat} (h : SetB w b n L) (hg : w.grownBy w' row) (hne : some b ≠ row) : SetB w' b n L := by
  obtain ⟨D, h1, h2⟩ := h
  exact ⟨D, h1.kept hg hne, h2⟩
theorem SetB.lt {w : World} {b n : Nat} {L : List ByteArray} (h : SetB w b n L) : b < w.heap.size := by obtain ⟨D, h1, -⟩ := h; exact h1.lt
theorem SetB.below {w w' : World} {b n : Nat} {L : List ByteArray} (h : SetB w b n L) (hb : Below w.heap.size w w') : SetB w' b n L :=
  h.kept (row := none) ⟨hb.os, hb.tape, hb.output, hb.size, fun k hk _ => hb.block k hk⟩ (by simp)
theorem SetB.mono {w : World} {b n n' : Nat} {L : List ByteArray} (h : SetB w b n L) (hn : n ≤ n') : SetB w b n' L := by
  obtain ⟨D, h1, h2⟩ := h
  exact ⟨D, h1.mono hn, h2⟩
/-- What a look-up finds. -/
theorem SetB.look {w : World} {b n : Nat} {L : List ByteArray} (h : SetB w b n L) (T : TypeId) (hT : Tryz.prog.underlying T = some (.map 9 4)) (t : ByteArray) (ht : t.size ≤ 9223372036854775807) :
    (Instr.lookup T (.map (some b)) (.string t) false).run Tryz.prog w = .ok (.bool (memB t L)) w := by
  obtain ⟨D, h1, -, h3, -⟩ := h
  obtain ⟨v, ps, hrun, hv⟩ := h1.lookup strLaw hT (zeroBool w) (plainElem_bool Tryz.underlying4 false) (WideMaps.keyOf_string_mk Tryz.underlying9 (s := t) ht)
  obtain ⟨x, rfl, hx⟩ := plainElem_bool_inv Tryz.underlying4 hv
  have := h3 t
  simp only [Prod.mk.injEq] at hx
  rw [this] at hx
  have e : memB t L = x := by simpa using hx.1
  rw [e]; exact hrun
theorem SetB.len {w : World} {b n : Nat} {L : List ByteArray} (h : SetB w b n L) (T : TypeId) (hT : Tryz.prog.underlying T = some (.map 9 4)) (ty : TypeId) : (Builtin.len_ #[T] ty #[.map (some b)]).run Tryz.prog w = .ok (.int .i64 (L.length : Nat)) w := by
  obtain ⟨D, h1, -, -, h4⟩ := h
  have := h1.len hT ty
  rwa [h4] at this
/-- What is there behind a store. -/
theorem SetB.put {w w' : World} {b n : Nat} {L L' : List ByteArray} {D : DataW Unit} {t : ByteArray} (hD : (∀ t, Maps.has D (keyL t) = memB t L) ∧ (∀ t, D.atKey (keyL t) (.lit (.bool false)) = .lit (.bool (memB t L))) ∧ Maps.size D = L.length)
    (hi : IsMap D) (hd : Tidy D) (h : w'.ownsMap Tryz.prog 9 (plainElem Tryz.prog 4) b n (D.put (keyL t) (.lit (.bool true)))) (hm : ∀ u, u ∈ L' ↔ u = t ∨ u ∈ L) (hl : L'.length = if memB t L = true then L.length else L.length + 1) : SetB w' b n L' := by
  obtain ⟨h1, h2, h3⟩ := hD
  refine ⟨_, h, fun u => ?_, fun u => ?_, ?_⟩
  · by_cases hu : u = t
    · subst hu
      rw [has_put_same hi (keyL_key _)]
      exact ((memB_iff _ _).2 ((hm u).2 (.inl rfl))).symm
    · rw [has_put_other (fun e => hu (keyL_inj e)), h1 u]
      exact memB_eq (by rw [hm]; simp [hu])
  · by_cases hu : u = t
    · subst hu
      rw [atKey_put_same hi (keyL_key _), (memB_iff _ _).2 ((hm u).2 (.inl rfl))]
    · rw [atKey_put_other (fun e => hu (keyL_inj e)), h2 u, memB_eq (L' := L') (t' := u) (by rw [hm]; simp [hu])]
  · rw [size_put hd, h1 t, h3, hl]
/-- What is there behind a delete. -/
theorem SetB.del {w' : World} {b n : Nat} {L L' : List ByteArray} {D : DataW Unit} {t : ByteArray} (hD : (∀ t, Maps.has D (keyL t) = memB t L) ∧ (∀ t, D.atKey (keyL t) (.lit (.bool false)) = .lit (.bool (memB t L))) ∧ Maps.size D = L.length)
    (hd : Tidy D) (h : w'.ownsMap Tryz.prog 9 (plainElem Tryz.prog 4) b n (D.del (keyL t))) (hm : ∀ u, u ∈ L' ↔ u ≠ t ∧ u ∈ L) (hl : L'.length + (if memB t L = true then 1 else 0) = L.length) : SetB w' b n L' := by
  obtain ⟨h1, h2, h3⟩ := hD
  refine ⟨_, h, fun u => ?_, fun u => ?_, ?_⟩
  · by_cases hu : u = t
    · subst hu
      rw [has_del_same]
      cases hc : memB u L' with
      | false => rfl
      | true => exact absurd rfl ((hm u).1 ((memB_iff _ _).1 hc)).1
    · rw [has_del_other (fun e => hu (keyL_inj e)), h1 u]
      exact memB_eq (by rw [hm]; simp [hu])
  · by_cases hu : u = t
    · subst hu
      rw [atKey_del_same]
      cases hc : memB u L' with
      | false => rfl
      | true => exact absurd rfl ((hm u).1 ((memB_iff _ _).1 hc)).1
    · rw [atKey_del_other (fun e => hu (keyL_inj e)), h2 u, memB_eq (L' := L') (t' := u) (by rw [hm]; simp [hu])]
  · have := size_del (k := keyL t) hd
    rw [h1 t, h3] at this
    omega

theorem wpList_set_store {w : World} {ops : Array Oper} {rest : List Oper} {o : Oper} {a : Act} {Q : Exit → Act → World → Prop}
    (hg : o.guard = none) (m x v : Operand) (T : TypeId) (hop : o.op = Op.mapUpdate T m x v) (hT : Tryz.prog.underlying T = some (.map 9 4)) (b n : Nat) (L L' : List ByteArray)
    (hm : a.eval m = .map (some b)) (hown : SetB w b n L) (hn : n < 1000) (t : ByteArray) (hx : a.eval x = .string t) (hv : a.eval v = .bool true) (ht : t.size ≤ 9223372036854775807)
    (hmem : ∀ u, u ∈ L' ↔ u = t ∨ u ∈ L) (hl : L'.length = if memB t L = true then L.length else L.length + 1)
    (hK : ∀ w', SetB w' b (n + 1) L' → w.grownBy w' (some b) → wpList Tryz.prog ops Q rest (a.put o.dst undef) w') : wpList Tryz.prog ops Q (o :: rest) a w := by
  obtain ⟨D, h1, h2⟩ := hown
  exact wpList_mapUpdate_own w hg m x v T hop 9 4 strLaw hT _ b n D hm h1 (by unfold maxLen; omega) _ _ (keyL t) hx hv (WideMaps.keyOf_string_mk Tryz.underlying9 ht) _ [] (plainElem_bool Tryz.underlying4 true) (fun w' r1 r2 => hK w' (SetB.put (w := w) h2 h1.isMap (h1.tidy strLaw) r1 hmem hl) r2)
theorem wpList_set_delete {w : World} {ops : Array Oper} {rest : List Oper} {o : Oper} {a : Act} {Q : Exit → Act → World → Prop}
    (hg : o.guard = none) (m x : Operand) (T : TypeId) (hop : o.op = Op.call { callee := Callee.builtin Builtin.delete, args := #[m, x], argTypes := #[T, 9] }) (hT : Tryz.prog.underlying T = some (.map 9 4)) (b n : Nat) (L L' : List ByteArray)
    (hm : a.eval m = .map (some b)) (hown : SetB w b n L) (t : ByteArray) (hx : a.eval x = .string t) (ht : t.size ≤ 9223372036854775807)
    (hmem : ∀ u, u ∈ L' ↔ u ≠ t ∧ u ∈ L) (hl : L'.length + (if memB t L = true then 1 else 0) = L.length)
    (hK : ∀ w', SetB w' b n L' → w.grownBy w' (some b) → wpList Tryz.prog ops Q rest (a.put o.dst (.tuple #[])) w') : wpList Tryz.prog ops Q (o :: rest) a w := by
  obtain ⟨D, h1, h2⟩ := hown
  exact wpList_delete_own w hg m x T 9 hop 4 strLaw hT _ b n D hm h1 _ (keyL t) hx (WideMaps.keyOf_string_mk Tryz.underlying9 ht) (fun w' r1 r2 => hK w' (SetB.del h2 (h1.tidy strLaw) r1 hmem hl) r2.grown)
theorem wpList_set_len {w : World} {ops : Array Oper} {rest : List Oper} {o : Oper} {a : Act} {Q : Exit → Act → World → Prop}
    (hg : o.guard = none) (m : Operand) (T : TypeId) (hop : o.op = Op.call { callee := Callee.builtin Builtin.len, args := #[m], argTypes := #[T] }) (hT : Tryz.prog.underlying T = some (.map 9 4)) (b n : Nat) (L : List ByteArray)
    (hm : a.eval m = .map (some b)) (hown : SetB w b n L) (hK : wpList Tryz.prog ops Q rest (a.put o.dst (.int .i64 (L.length : Nat))) w) : wpList Tryz.prog ops Q (o :: rest) a w := by
  obtain ⟨D, h1, -, -, h4⟩ := hown
  exact wpList_len_own w hg m T hop 9 4 hT _ b n D hm h1 (by rw [h4]; exact hK)
end Go.Proofs.YtgpdnhammdgndaaGreat
