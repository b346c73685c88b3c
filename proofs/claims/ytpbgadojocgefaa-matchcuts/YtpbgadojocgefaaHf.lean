/- fresh.List at items: a row of the call's own with the same items; firstBehind. -/
import Derived.Test.YtpbgadojocgefaaHa
namespace Go.Proofs.Ytpbgadojocgefaa
open Go.RowKit
set_option linter.unusedVariables false
set_option maxRecDepth 100000

theorem run_append_nil {P : Program} (w : World) (base : Nat) (t ty e : TypeId) (i : TypeInfo) (size c : Nat) (ht : P.underlying t = some (.slice e)) (hi : P.info? e = some i)
    (v : Value) (n : Nat) (xs : List Value) (hown : w.ownsRow base e size v n xs) :
    (Builtin.append_ #[t, t] ty #[v, .slice none 0 c]).run P w = .ok v w := by
  rcases hown.2 with ⟨rfl, rfl⟩ | ⟨g, cap, cur, rfl, _, _, hnc, _⟩
  · simp [Builtin.append_, run_underlying ht, sizeOf, typeInfo, hi, Builtin.lenOf, Builtin.firstCells]
  · simp [Builtin.append_, run_underlying ht, sizeOf, typeInfo, hi, Builtin.lenOf, Builtin.firstCells, hnc, storeCells]

theorem news_of {w : World} {l : List Itm} {b off : Nat} (hc : ∀ i (h : i < l.length) (c : Nat), c < 10 → w.cell? ⟨b, off + i * 10 + c, none⟩ = (encIt l[i])[c]?) :
    ∀ j u, (l.flatMap encIt)[j]? = some u → w.cell? ((⟨b, off, none⟩ : Addr).add j) = some u := by
  intro j u hj
  have hlen : (l.flatMap encIt).length = l.length * 10 := by
    clear hc hj
    induction l with
    | nil => simp
    | cons x r ih => rw [List.flatMap_cons, List.length_append, ih, lenIt, List.length_cons, Nat.add_mul]; omega
  have hjl : j < l.length * 10 := by rw [← hlen]; exact (List.getElem?_eq_some_iff.1 hj).1
  have hi : j / 10 < l.length := by omega
  have h1 := flat_get 10 encIt lenIt l (j / 10) hi (j % 10) (by omega)
  rw [show j / 10 * 10 + j % 10 = j by omega, hj] at h1
  have h2 := hc (j / 10) hi (j % 10) (by omega)
  rw [← h1, show off + j / 10 * 10 + j % 10 = off + j by omega] at h2
  by_cases hz : j = 0
  · subst hz; simpa [Addr.add] using h2
  · simpa [Addr.add, hz] using h2
theorem flatIt_length (l : List Itm) : (l.flatMap encIt).length = l.length * 10 := by
  induction l with
  | nil => simp
  | cons x r ih => rw [List.flatMap_cons, List.length_append, ih, lenIt, List.length_cons, Nat.add_mul]; omega

theorem wpList_append_items (w : World) {ops : Array Oper} {rest : List Oper} {o : Oper} {a : Act} {Q : Exit → Act → World → Prop} (hgd : o.guard = none) (s x : Operand)
    (ho : o.op = .call { callee := .builtin .append, args := #[s, x], argTypes := #[22, 22] })
    (base : Nat) (v : Value) (A : List Itm) (hs : a.eval s = v) (hown : OwnI base w v A)
    (sv : Value) (l : List Itm) (hx : a.eval x = sv) (hrow : RowI w sv l) (hbytes : (A.length + l.length) * 104 ≤ 140737488355328) (hbase : base ≤ w.heap.size)
    (h : ∀ v' w', OwnI base w' v' (A ++ l) → w.grownBy w' v.ownBlock → wpList Try.prog ops Q rest (a.put o.dst v') w') : wpList Try.prog ops Q (o :: rest) a w := by
  obtain ⟨i, hi, hz, h1, h2⟩ := info_parts info_item
  obtain ⟨hl, ad, cap, hsv, h3, h4, h5⟩ := hrow
  have fin : ∀ v' w', w'.ownsRow base 46 10 v' (A.length + l.length) (A.flatMap encIt ++ l.flatMap encIt) → w.grownBy w' v.ownBlock → wpList Try.prog ops Q rest (a.put o.dst v') w' := fun v' w' k1 k2 => h v' w' (by rw [OwnI, List.length_append, List.flatMap_append]; exact k1) k2
  cases ad with
  | none =>
    have hl0 : l = [] := by
      rcases h5 with h5 | ⟨b, off, he, -⟩
      · exact h5
      · cases he
    subst hl0
    refine wpList_plain hgd fun K hK' => ?_
    have hrun := run_append_nil (P := Try.prog) w base 22 o.type 46 i 10 cap Try.underlying22 hi v A.length (A.flatMap encIt) hown
    subst hsv
    simp only [List.length_nil] at hx
    unfold Oper.wp execOp
    simp only [ho, resolve, invoke, builtin, Sem.run_bind, Sem.run_pure, Result.andThen_ok, List.map_toArray, List.map_cons, List.map_nil, hs, hx, hrun]
    exact hK' _ _ (h v w (by simpa using hown) (World.grownBy.refl w _))
  | some ad =>
    subst hsv
    refine wpList_append_own w hgd s x 22 ho base 46 i zeroIt 10 104 Try.underlying22 hi hz h1 h2 rfl (by decide) v A.length (A.flatMap encIt) hs hown ad l.length cap (l.flatMap encIt) hx (flatIt_length l) ?_ ?_ (by unfold maxLen; omega) hbytes hbase (fun v' w' k1 k2 _ => fin v' w' k1 k2)
    · rcases h5 with rfl | ⟨b, off, he, -, hc⟩
      · intro j u hj; simp at hj
      · obtain rfl := Option.some.inj he
        exact news_of hc
    · intro u hu
      obtain ⟨y, _, hy⟩ := List.mem_flatMap.1 hu
      exact oneIt y u hy

set_option maxHeartbeats 2000000 in
theorem listIt_any (s : Value) (l : List Itm) (w : World) (h : RowI w s l) (hm : l.length * 104 ≤ 140737488355328) :
    Calls Try.prog 30 #[s] w fun e w' => ∃ r, e = .returned r ∧ OwnI w.heap.size w' r l ∧ Below w.heap.size w w' := by
  go_enter Try.func30, Try.ntmps30
  go_wp2_with (at_builtin; refine wpList_append_items _ rfl _ _ rfl w.heap.size (.slice none 0 0) [] rfl (OwnI.nil _ _) s l rfl h ?_ ?_ ?_)
  · simpa using hm
  · simp
  intro v1 w1 hown1 hg1
  have hb1 : Below w.heap.size w w1 := (Below.refl _ _).grown hg1 (Nat.le_refl _) (fun k hk => by cases hk)
  obtain ⟨sa, sc, rfl⟩ := hown1.shape
  clear hg1
  have ho : OwnI w.heap.size w1 (.slice sa ([] ++ l).length sc) l := by simpa using hown1
  simp only [List.nil_append] at ho ⊢
  clear hown1
  go_wp2_with fail
  go_ret
  exact ⟨_, rfl, ho, hb1⟩

/-- A piece of a slice of items. -/
theorem RowI.piece {w : World} {a : Option Addr} {cap : Nat} {l : List Itm} (h : RowI w (.slice a l.length cap) l) (i : Nat) (hi : i ≤ l.length) {b off : Nat} (ha : a = some ⟨b, off, none⟩) (hlt : i < l.length) :
    RowI w (.slice (some ⟨b, off + i * 10, none⟩) (l.length - i) (cap - i)) (l.drop i) := by
  obtain ⟨hl, a', cap', hs, h1, h2, h3⟩ := h
  simp only [Value.slice.injEq, true_and] at hs
  obtain ⟨rfl, rfl⟩ := hs
  refine ⟨by simp; omega, some ⟨b, off + i * 10, none⟩, cap - i, by simp, by simp; omega, by omega, ?_⟩
  rcases h3 with rfl | ⟨b', off', he, hb, hc⟩
  · simp at hlt
  · rw [ha] at he
    simp only [Option.some.injEq, Addr.mk.injEq, and_true] at he
    obtain ⟨rfl, rfl⟩ := he
    refine .inr ⟨b, off + i * 10, rfl, hb, fun j hj c hc' => ?_⟩
    have := hc (i + j) (by simp at hj; omega) c hc'
    rw [show off + (i + j) * 10 + c = off + i * 10 + j * 10 + c by omega] at this
    rw [this]; simp
end Go.Proofs.Ytpbgadojocgefaa
