/- Arguments opened: slices of structs, as the reader reads them. -/
import Derived.Test.YtndadgjidihfeaaGreatOp
import Derived.Deep.Slices
import Derived.Test.YtndadgjidihfeaaGreatLw
namespace Go.Proofs.YtndadgjidihfeaaGreat
open Go.ChangeShapes Go.WideShapes Go.ChangeAt Go.RowKit
set_option maxRecDepth 100000

theorem addr_add (b off i : Nat) : (⟨b, off, none⟩ : Addr).add i = ⟨b, off + i, none⟩ := by
  unfold Addr.add
  split
  · next h => subst h; rfl
  · rfl
theorem spot_free {w : World} {a : Addr} {v : Value} (h : w.cell? a = some v) : a.spot = none := by
  unfold World.cell? at h
  split at h
  · split at h
    · cases h
    · next hs => cases hh : a.spot with
      | none => rfl
      | some _ => simp [hh] at hs
  · cases h

/-- A slice that came in: its elements, each of k cells. -/
def InAt {α : Type} (k : Nat) (enc : α → List Value) (wf : α → Prop) (w : World) (s : Value) (l : List α) : Prop := (∀ d ∈ l, wf d) ∧ ∃ a cap, s = .slice a l.length cap ∧ l.length ≤ cap ∧ cap ≤ 9223372036854775807 ∧
  (l = [] ∨ ∃ b off, a = some ⟨b, off, none⟩ ∧ b < w.heap.size ∧ ∀ i (h : i < l.length) (c : Nat), c < k → w.cell? ⟨b, off + i * k + c, none⟩ = (enc l[i])[c]?)

theorem list_of {α : Type} (p : Nat → α → Prop) : ∀ n, (∀ i, i < n → ∃ x, p i x) → ∃ l : List α, l.length = n ∧ ∀ i (h : i < l.length), p i l[i] := by
  intro n
  induction n with
  | zero => intro _; exact ⟨[], rfl, fun i h => absurd h (Nat.not_lt_zero i)⟩
  | succ n ih =>
    intro h
    obtain ⟨l, hl, hp⟩ := ih (fun i hi => h i (by omega))
    obtain ⟨x, hx⟩ := h n (by omega)
    refine ⟨l ++ [x], by simp [hl], fun i hi => ?_⟩
    by_cases hi' : i < l.length
    · rw [List.getElem_append_left hi']; exact hp i hi'
    · have : i = l.length := by simp at hi; omega
      subst this
      rw [List.getElem_append_right (Nat.le_refl _)]
      simp only [Nat.sub_self, List.getElem_cons_zero]
      rw [hl]; exact hx

theorem open_rows {H : Type} {enc0 : TypeId × Value → H} {P : Program} {w : World} {held : Bool} {t e : TypeId} {fuel : Nat} {v : Value} {x : DataW H × List MemPlace} {α : Type} (k : Nat) (enc : α → List Value) (wf : α → Prop)
    (hk : 0 < k) (ht : P.underlying t = some (.slice e)) (hcells : P.cellsOf e = k)
    (hone : ∀ n cs' y, cs'.length = k → DataW.trod enc0 P w 0 (fun _ => true) held n e cs' = some y → ∃ d, cs' = enc d ∧ wf d)
    (hv : ∃ a len cap, v = .slice a len cap)
    (h : DataW.trod enc0 P w 0 (fun _ => true) held fuel t v.cells.toList = some x) : ∃ l, InAt k enc wf w v l ∧ (l = [] ∨ ∃ es sp, x.1 = .slice es sp ∧ es.length = l.length) := by
  obtain ⟨a, len, cap, rfl⟩ := hv
  rcases Go.Deep.open_slice ht h with ⟨hc, -⟩ | ⟨a', len', cap', m, n, D, Pl, hc, -, hl, hm, hmm, hx, hel⟩
  · simp [Value.cells] at hc
    obtain ⟨rfl, rfl, rfl⟩ := hc
    exact ⟨[], ⟨fun d hd => by simp at hd, _, _, rfl, Nat.le_refl _, by omega, .inl rfl⟩, .inl rfl⟩
  · simp [Value.cells] at hc
    obtain ⟨rfl, rfl, rfl⟩ := hc
    simp at hmm
    obtain ⟨l, hll, hp⟩ := list_of (fun i d => wf d ∧ ∀ c, c < k → w.cell? (a'.add (i * k + c)) = (enc d)[c]?) len (fun i hi => by
      obtain ⟨cs', hcs, htr⟩ := hel i (by omega)
      rw [hcells] at hcs
      obtain ⟨-, hlen, hget⟩ := World.cells?_some hcs
      obtain ⟨d, rfl, hd⟩ := hone n cs' _ hlen htr
      exact ⟨d, hd, fun c hc => by rw [← Go.Deep.add_add]; exact hget c hc⟩)
    refine ⟨l, ⟨fun d hd => ?_, _, _, by rw [hll], by omega, by simpa [maxLen] using hm, ?_⟩, .inr ⟨_, _, congrArg Prod.fst hx, by simp [hll]⟩⟩
    · obtain ⟨i, hi, rfl⟩ := List.getElem_of_mem hd
      exact (hp i hi).1
    · by_cases h0 : len = 0
      · exact .inl (List.eq_nil_of_length_eq_zero (by omega))
      · obtain ⟨cs', hcs, -⟩ := hel 0 (by omega)
        rw [hcells] at hcs
        obtain ⟨-, hlen, hget⟩ := World.cells?_some hcs
        have c0 := hget 0 hk
        rw [List.getElem?_eq_getElem (by omega)] at c0
        have c1 : w.cell? a' = some (cs'[0]'(by omega)) := by simpa [Addr.add] using c0
        have hs := spot_free c1
        have hb := World.block_lt_of_cell? w a' c1
        obtain ⟨b, off, sp⟩ := a'
        simp only at hs hb
        subst hs
        refine .inr ⟨b, off, rfl, hb, fun i hi c hc => ?_⟩
        have := (hp i hi).2 c hc
        rw [addr_add] at this
        rw [Nat.add_assoc]; exact this

end Go.Proofs.YtndadgjidihfeaaGreat

/- A law of the walk: append of a slice that came in onto a row of the call's own. -/
namespace Go.Proofs.YtndadgjidihfeaaGreat
open Go.RowKit
set_option linter.unusedVariables false
set_option maxRecDepth 100000

theorem run_append_nilR {P : Program} (w : World) (base : Nat) (t ty e : TypeId) (i : TypeInfo) (size c : Nat) (ht : P.underlying t = some (.slice e)) (hi : P.info? e = some i)
    (v : Value) (n : Nat) (xs : List Value) (hown : w.ownsRow base e size v n xs) :
    (Builtin.append_ #[t, t] ty #[v, .slice none 0 c]).run P w = .ok v w := by
  rcases hown.2 with ⟨rfl, rfl⟩ | ⟨g, cap, cur, rfl, _, _, hnc, _⟩
  · simp [Builtin.append_, run_underlying ht, sizeOf, typeInfo, hi, Builtin.lenOf, Builtin.firstCells]
  · simp [Builtin.append_, run_underlying ht, sizeOf, typeInfo, hi, Builtin.lenOf, Builtin.firstCells, hnc, storeCells]

theorem wpList_append_in {P : Program} (w : World) {ops : Array Oper} {rest : List Oper} {o : Oper} {a : Act} {Q : Exit → Act → World → Prop} (hgd : o.guard = none) (s x : Operand) (t : TypeId)
    (ho : o.op = .call { callee := .builtin .append, args := #[s, x], argTypes := #[t, t] })
    (base : Nat) (e : TypeId) (z : Value) (size bytes : Nat) (ht : P.underlying t = some (.slice e)) (hinfo : (P.info? e).map (fun i => (i.zero, i.size, i.bytes)) = some (some z, size, bytes))
    (hzs : z.cells.size = size) (hsz : 0 < size) {α : Type} (enc : α → List Value) (wf : α → Prop) (hk : ∀ x, (enc x).length = size) (hone : ∀ x, ∀ u ∈ enc x, u.oneCell' = true)
    (v : Value) (n : Nat) (xs : List Value) (hs : a.eval s = v) (hown : w.ownsRow base e size v n xs)
    (sv : Value) (l : List α) (hx : a.eval x = sv) (hrow : InAt size enc wf w sv l)
    (h63 : n + l.length ≤ maxLen) (hbytes : (n + l.length) * bytes ≤ 140737488355328) (hbase : base ≤ w.heap.size)
    (h : ∀ v' w', w'.ownsRow base e size v' (n + l.length) (xs ++ l.flatMap enc) → w.grownBy w' v.ownBlock → wpList P ops Q rest (a.put o.dst v') w') : wpList P ops Q (o :: rest) a w := by
  obtain ⟨i, hi, hz, h1, h2⟩ := info_parts hinfo
  obtain ⟨hl, ad, cap, hsv, h3, h4, h5⟩ := hrow
  cases ad with
  | none =>
    have hl0 : l = [] := by
      rcases h5 with h5 | ⟨b, off, he, -⟩
      · exact h5
      · cases he
    subst hl0
    refine wpList_plain hgd fun K hK' => ?_
    have hrun := run_append_nilR (P := P) w base t o.type e i size cap ht hi v n xs hown
    subst hsv
    simp only [List.length_nil] at hx
    unfold Oper.wp execOp
    simp only [ho, resolve, invoke, builtin, Sem.run_bind, Sem.run_pure, Result.andThen_ok, List.map_toArray, List.map_cons, List.map_nil, hs, hx, hrun]
    exact hK' _ _ (h v w (by simpa using hown) (World.grownBy.refl w _))
  | some ad =>
    subst hsv
    refine wpList_append_own w hgd s x t ho base e i z size bytes ht hi hz h1 h2 hzs hsz v n xs hs hown ad l.length cap (l.flatMap enc) hx (flat_length hk l) ?_ ?_ h63 hbytes hbase (fun v' w' k1 k2 k3 => h v' w' k1 k2)
    · rcases h5 with rfl | ⟨b, off, he, -, hc⟩
      · intro j u hj; simp at hj
      · obtain rfl := Option.some.inj he
        exact RowAt.news hk hsz hc
    · intro u hu
      obtain ⟨y, _, hy⟩ := List.mem_flatMap.1 hu
      exact hone y u hy

/-- What a call made and owns is a slice as one that came in. -/
theorem InAt.ofOwn {α : Type} {k : Nat} {enc : α → List Value} {wf : α → Prop} {w : World} {base : Nat} {e : TypeId} {v : Value} {l : List α} (hk : ∀ x, (enc x).length = k)
    (h : w.ownsRow base e k v l.length (l.flatMap enc)) (hl : l.length ≤ 140737488355328) (hw : ∀ d ∈ l, wf d) : InAt k enc wf w v l := by
  obtain ⟨-, a, cap, hs, h1, h2, h3⟩ := RowAt.ofOwn hk h hl
  refine ⟨hw, a, cap, hs, h1, h2, ?_⟩
  rcases h3 with ⟨-, h, -⟩ | ⟨b, off, ha, hb, hc⟩
  · exact .inl h
  · exact .inr ⟨b, off, ha, hb, hc⟩
end Go.Proofs.YtndadgjidihfeaaGreat
