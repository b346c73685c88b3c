/- A law of the walk: append of a slice that reads as a list onto a row of the call's own. -/
import Derived.Test.YtndadgjidihfeaaGreatCbJ
namespace Go.Proofs.YtndadgjidihfeaaGreat
open Go.RowKit
set_option linter.unusedVariables false

theorem RowAt.news {α : Type} {k : Nat} {enc : α → List Value} {w : World} {l : List α} {b off : Nat} (hk : ∀ x, (enc x).length = k) (h0 : 0 < k)
    (hc : ∀ i (h : i < l.length) (c : Nat), c < k → w.cell? ⟨b, off + i * k + c, none⟩ = (enc l[i])[c]?) :
    ∀ j u, (l.flatMap enc)[j]? = some u → w.cell? ((⟨b, off, none⟩ : Addr).add j) = some u := by
  intro j u hj
  have hlen : (l.flatMap enc).length = l.length * k := by
    clear hc hj
    induction l with
    | nil => simp
    | cons x r ih => rw [List.flatMap_cons, List.length_append, ih, hk, List.length_cons, Nat.add_mul]; omega
  have hjl : j < l.length * k := by rw [← hlen]; exact (List.getElem?_eq_some_iff.1 hj).1
  have hi : j / k < l.length := Nat.div_lt_of_lt_mul (by rw [Nat.mul_comm]; exact hjl)
  have hcm : j % k < k := Nat.mod_lt _ h0
  have e : j / k * k + j % k = j := by rw [Nat.mul_comm]; exact Nat.div_add_mod j k
  have h1 := flat_get k enc hk l (j / k) hi (j % k) hcm
  rw [e, hj] at h1
  have h2 := hc (j / k) hi (j % k) hcm
  rw [← h1, Nat.add_assoc, e] at h2
  by_cases hz : j = 0
  · subst hz; simpa [Addr.add] using h2
  · simpa [Addr.add, hz] using h2

theorem flat_length {α : Type} {k : Nat} {enc : α → List Value} (hk : ∀ x, (enc x).length = k) (l : List α) : (l.flatMap enc).length = l.length * k := by
  induction l with
  | nil => simp
  | cons x r ih => rw [List.flatMap_cons, List.length_append, ih, hk, List.length_cons, Nat.add_mul]; omega

theorem wpList_append_row {P : Program} (w : World) {ops : Array Oper} {rest : List Oper} {o : Oper} {a : Act} {Q : Exit → Act → World → Prop} (hgd : o.guard = none) (s x : Operand) (t : TypeId)
    (ho : o.op = .call { callee := .builtin .append, args := #[s, x], argTypes := #[t, t] })
    (base : Nat) (e : TypeId) (z : Value) (size bytes : Nat) (ht : P.underlying t = some (.slice e)) (hinfo : (P.info? e).map (fun i => (i.zero, i.size, i.bytes)) = some (some z, size, bytes))
    (hzs : z.cells.size = size) (hsz : 0 < size) {α : Type} (enc : α → List Value) (hk : ∀ x, (enc x).length = size) (hone : ∀ x, ∀ u ∈ enc x, u.oneCell' = true)
    (v : Value) (n : Nat) (xs : List Value) (hs : a.eval s = v) (hown : w.ownsRow base e size v n xs)
    (sv : Value) (l : List α) (hx : a.eval x = sv) (hrow : RowAt size enc w sv l)
    (h63 : n + l.length ≤ maxLen) (hbytes : (n + l.length) * bytes ≤ 140737488355328) (hbase : base ≤ w.heap.size)
    (h : ∀ v' w', w'.ownsRow base e size v' (n + l.length) (xs ++ l.flatMap enc) → w.grownBy w' v.ownBlock → (l = [] → v = .slice none 0 0 → v' = .slice none 0 0) → wpList P ops Q rest (a.put o.dst v') w') : wpList P ops Q (o :: rest) a w := by
  obtain ⟨i, hi, hz, h1, h2⟩ := info_parts hinfo
  obtain ⟨hl, ad, cap, hsv, h3, h4, h5⟩ := hrow
  rcases h5 with ⟨rfl, rfl, rfl⟩ | ⟨b, off, rfl, hb, hc⟩
  · refine wpList_plain hgd fun K hK' => ?_
    have hrun := run_append_owned_none (P := P) w base t o.type e i size ht hi v n xs hown
    subst hsv
    simp only [List.length_nil] at hx
    unfold Oper.wp execOp
    simp only [ho, resolve, invoke, builtin, Sem.run_bind, Sem.run_pure, Result.andThen_ok, List.map_toArray, List.map_cons, List.map_nil, hs, hx, hrun]
    exact hK' _ _ (h v w (by simpa using hown) (World.grownBy.refl w _) (fun _ h => h))
  · subst hsv
    refine wpList_append_own w hgd s x t ho base e i z size bytes ht hi hz h1 h2 hzs hsz v n xs hs hown ⟨b, off, none⟩ l.length cap (l.flatMap enc) hx (flat_length hk l) (RowAt.news hk hsz hc) ?_ h63 hbytes hbase (fun v' w' k1 k2 k3 => h v' w' k1 k2 (fun e1 e2 => k3.2 ⟨e2, by simp [e1]⟩))
    intro u hu
    obtain ⟨y, _, hy⟩ := List.mem_flatMap.1 hu
    exact hone y u hy
end Go.Proofs.YtndadgjidihfeaaGreat
