/- Appends of items, and calls, as steps of a region that draws. -/
import Derived.Test.YtpbgadojocgefaaHf
import Derived.Test.YtpbgadojocgefaaHe
namespace Go.Proofs.Ytpbgadojocgefaa
open Go.RowKit
set_option linter.unusedVariables false
set_option maxRecDepth 100000

theorem step_append_items {ops : Array Oper} {o : Oper} {a : Act} {w : World} {K : Act → World → Prop} {Q : Exit → Act → World → Prop} {E : Prop}
    (hgd : o.guard = none) (s x : Operand) (ho : o.op = .call { callee := .builtin .append, args := #[s, x], argTypes := #[22, 22] })
    (base : Nat) (v : Value) (A : List Itm) (hs : a.eval s = v) (hown : OwnI base w v A)
    (sv : Value) (l : List Itm) (hx : a.eval x = sv) (hrow : RowI w sv l) (hbytes : (A.length + l.length) * 104 ≤ 140737488355328) (hbase : base ≤ w.heap.size)
    (h : ∀ v' w', OwnI base w' v' (A ++ l) → w.grownBy w' v.ownBlock → K (a.put o.dst v') w') :
    if Region.wanted o (yielded ops a.tmps) = true then Oper.wp Try.prog o a w K Q else E := by
  obtain ⟨i, hi, hz, h1, h2⟩ := info_parts info_item
  obtain ⟨hl, ad, cap, hsv, h3, h4, h5⟩ := hrow
  have fin : ∀ v' w', w'.ownsRow base 46 10 v' (A.length + l.length) (A.flatMap encIt ++ l.flatMap encIt) → w.grownBy w' v.ownBlock → K (a.put o.dst v') w' := fun v' w' k1 k2 => h v' w' (by rw [OwnI, List.length_append, List.flatMap_append]; exact k1) k2
  cases ad with
  | none =>
    have hl0 : l = [] := by
      rcases h5 with h5 | ⟨b, off, he, -⟩
      · exact h5
      · cases he
    subst hl0
    have hw : Region.wanted o (yielded ops a.tmps) = true := by simp [Region.wanted, hgd]
    rw [if_pos hw]
    have hrun := run_append_nil (P := Try.prog) w base 22 o.type 46 i 10 cap Try.underlying22 hi v A.length (A.flatMap encIt) hown
    subst hsv
    simp only [List.length_nil] at hx
    unfold Oper.wp execOp
    simp only [ho, resolve, invoke, builtin, Sem.run_bind, Sem.run_pure, Result.andThen_ok, List.map_toArray, List.map_cons, List.map_nil, hs, hx, hrun]
    exact h v w (by simpa using hown) (World.grownBy.refl w _)
  | some ad =>
    subst hsv
    refine step_append_own hgd s x 22 ho base 46 i zeroIt 10 104 Try.underlying22 hi hz h1 h2 rfl (by decide) v A.length (A.flatMap encIt) hs hown ad l.length cap (l.flatMap encIt) hx (flatIt_length l) ?_ ?_ (by unfold maxLen; omega) hbytes hbase fin
    · rcases h5 with rfl | ⟨b, off, he, -, hc⟩
      · intro j u hj; simp at hj
      · obtain rfl := Option.some.inj he
        exact news_of hc
    · intro u hu
      obtain ⟨y, _, hy⟩ := List.mem_flatMap.1 hu
      exact oneIt y u hy

theorem step_call2 {P : Program} {ops : Array Oper} {o : Oper} {a : Act} {w : World} {K : Act → World → Prop} {Q : Exit → Act → World → Prop} {E : Prop}
    (hgd : o.guard = none) (f : FuncId) (x y : Operand) (t : Array TypeId) (ho : o.op = .call { callee := .value (.func f), args := #[x, y], argTypes := t })
    (he : ∀ args w, (callFunc f args).run P w = .ok (.enter f args) w) (u v : Value) (hx : a.eval x = u) (hy : a.eval y = v) {R : Value → World → Prop}
    (hc : Calls P f #[u, v] w fun e w' => ∃ z, e = .returned z ∧ R z w') (h : ∀ z w', R z w' → K (a.put o.dst z) w') :
    if Region.wanted o (yielded ops a.tmps) = true then Oper.wp P o a w K Q else E := by
  have hw : Region.wanted o (yielded ops a.tmps) = true := by simp [Region.wanted, hgd]
  rw [if_pos hw]
  unfold Oper.wp
  have hf : a.eval (.func f) = .func (.func f) #[] #[] := rfl
  simp [execOp, ho, resolve, invoke, Deferred.ofValue, hf, hx, hy, he, Oper.upon]
  refine hc.mono ?_
  rintro e w' ⟨z, rfl, hr⟩
  exact h z w' hr
end Go.Proofs.Ytpbgadojocgefaa
