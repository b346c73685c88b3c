/- A law of the walk: append of a slice that came in onto a row of the call's own. -/
import Derived.Test.YtgpdnhammdgndaaGreatLw
import Derived.Test.YtgpdnhammdgndaaGreatOw
namespace Go.Proofs.YtgpdnhammdgndaaGreat
open Go.RowKit
set_option linter.unusedVariables false
set_option maxRecDepth 100000

theorem run_append_nilR {P : Program} (w : World) (base : Nat) (t ty e : TypeId) (i : TypeInfo) (size c : Nat) (ht : P.underlying t = some (.slice e)) (hi : P.info? e = some i)
    (v : Value) (n : Nat) (xs : List Value) (hown : w.ownsRow base e size v n xs) :
    (Builtin.append_ #[t, t] ty #[v, .slice none 0 c]).run P w = .ok v w := by
  rcases hown.2 with ⟨rfl, rfl⟩ | ⟨g, cap, cur, rfl, _, _, hnc, _⟩
  · simp [Builtin.append_, run_underlying ht, sizeOf, typeInfo, hi, Builtin.lenOf, Builtin.firstCells]
  · simp [Builtin.append_, run_underlying ht, sizeOf, typeInfo, hi, Builtin.lenOf, Builtin.firstCells, hnc, storeCells]

theorem wpList_append_in {P : Program} (w : World) {ops : Array Oper} {rest : List Oper} {o : Oper} {a : Act} {Q : Exit → Act → World → Prop} (hgd : o.guard = none) (s x : Operand) (t : TypeId)
    (ho : o.op = .call { callee := .builtin .append, args := #[s, x], argTypes := #[t, t] })
    (base : Nat) (e : TypeId) (z : Value) (size bytes : Nat) (ht : P.underlying t = some (.slice e)) (hinfo : (P.info? e).map (fun i => (i.zero, i.size, i.bytes)) = some (some z, size, bytes))
    (hzs : z.cells.size = size) (hsz : 0 < size) {α : Type} (enc : α → List Value) (wf : α → Prop) (hk : ∀ x, (enc x).length = size) (hone : ∀ x, ∀ u ∈ enc x, u.oneCell' = true)
    (v : Value) (n : Nat) (xs : List Value) (hs : a.eval s = v) (hown : w.ownsRow base e size v n xs)
    (sv : Value) (l : List α) (hx : a.eval x = sv) (hrow : InAt size enc wf w sv l)
    (h63 : n + l.length ≤ maxLen) (hbytes : (n + l.length) * bytes ≤ 140737488355328) (hbase : base ≤ w.heap.size)
    (h : ∀ v' w', w'.ownsRow base e size v' (n + l.length) (xs ++ l.flatMap enc) → w.grownBy w' v.ownBlock → wpList P ops Q rest (a.put o.dst v') w') : wpList P ops Q (o :: rest) a w := by
  obtain ⟨i, hi, hz, h1, h2⟩ := info_parts hinfo
  obtain ⟨hl, ad, cap, hsv, h3, h4, h5⟩ := hrow
  cases ad with
  | none =>
    have hl0 : l = [] := by
      rcases h5 with h5 | ⟨b, off, he, -⟩
      · exact h5
      · cases he
    subst hl0
    refine wpList_plain hgd fun K hK' => ?_
    have hrun := run_append_nilR (P := P) w base t o.type e i size cap ht hi v n xs hown
    subst hsv
    simp only [List.length_nil] at hx
    unfold Oper.wp execOp
    simp only [ho, resolve, invoke, builtin, Sem.run_bind, Sem.run_pure, Result.andThen_ok, List.map_toArray, List.map_cons, List.map_nil, hs, hx, hrun]
    exact hK' _ _ (h v w (by simpa using hown) (World.grownBy.refl w _))
  | some ad =>
    subst hsv
    refine wpList_append_own w hgd s x t ho base e i z size bytes ht hi hz h1 h2 hzs hsz v n xs hs hown ad l.length cap (l.flatMap enc) hx (flat_length hk l) ?_ ?_ h63 hbytes hbase (fun v' w' k1 k2 k3 => h v' w' k1 k2)
    · rcases h5 with rfl | ⟨b, off, he, -, hc⟩
      · intro j u hj; simp at hj
      · obtain rfl := Option.some.inj he
        exact RowAt.news hk hsz hc
    · intro u hu
      obtain ⟨y, _, hy⟩ := List.mem_flatMap.1 hu
      exact hone y u hy

/-- What a call made and owns is a slice as one that came in. -/
theorem InAt.ofOwn {α : Type} {k : Nat} {enc : α → List Value} {wf : α → Prop} {w : World} {base : Nat} {e : TypeId} {v : Value} {l : List α} (hk : ∀ x, (enc x).length = k)
    (h : w.ownsRow base e k v l.length (l.flatMap enc)) (hl : l.length ≤ 140737488355328) (hw : ∀ d ∈ l, wf d) : InAt k enc wf w v l := by
  obtain ⟨-, a, cap, hs, h1, h2, h3⟩ := RowAt.ofOwn hk h hl
  refine ⟨hw, a, cap, hs, h1, h2, ?_⟩
  rcases h3 with ⟨-, h, -⟩ | ⟨b, off, ha, hb, hc⟩
  · exact .inl h
  · exact .inr ⟨b, off, ha, hb, hc⟩
end Go.Proofs.YtgpdnhammdgndaaGreat
