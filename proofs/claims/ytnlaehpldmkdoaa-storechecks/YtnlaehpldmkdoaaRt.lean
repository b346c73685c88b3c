/- Lists of texts that came in: a slice that reads as one; a copy of it. -/
import Derived.Test.YtnlaehpldmkdoaaRa
import Derived.Test.YtnlaehpldmkdoaaCd
import Derived.Laws.ResultCell
namespace Go.Proofs.Ytnlaehpldmkdoaa
open Go.RowKit
set_option linter.unusedVariables false
set_option maxRecDepth 100000

theorem info_str : (Try.prog.info? 9).map (fun i => (i.zero, i.size, i.bytes)) = some (some (.string ⟨#[]⟩), 1, 16) := by kernel_rfl
theorem lenT (x : ByteArray) : (encI x).length = 1 := rfl
/-- A slice that reads as a list of texts; of one without elements nothing more is said. -/
def RowT (w : World) (s : Value) (l : List ByteArray) : Prop :=
  l.length ≤ 140737488355328 ∧ ∃ a cap, s = .slice a l.length cap ∧ l.length ≤ cap ∧ cap ≤ 9223372036854775807 ∧
    (l = [] ∨ ∃ b off, a = some ⟨b, off, none⟩ ∧ b < w.heap.size ∧ ∀ i (h : i < l.length) (c : Nat), c < 1 → w.cell? ⟨b, off + i * 1 + c, none⟩ = (encI l[i])[c]?)
theorem RowT.below {w w' : World} {s : Value} {l : List ByteArray} (h : RowT w s l) (hb : Below w.heap.size w w') : RowT w' s l := by
  obtain ⟨hl, a, cap, hs, h1, h2, h3⟩ := h
  refine ⟨hl, a, cap, hs, h1, h2, ?_⟩
  rcases h3 with h3 | ⟨b, off, ha, hbk, hc⟩
  · exact .inl h3
  · exact .inr ⟨b, off, ha, bsize hb hbk, fun i hi c hk => (hb.cell (p := ⟨b, off + i * 1 + c, none⟩) hbk).trans (hc i hi c hk)⟩
abbrev OwnT (B : Nat) (w : World) (s : Value) (A : List ByteArray) : Prop := w.ownsRow B 9 1 s A.length (A.flatMap encI)
theorem flatT (l : List ByteArray) : l.flatMap encI = l.map Value.string := by
  induction l with
  | nil => rfl
  | cons x r ih => rw [List.flatMap_cons, ih]; rfl
theorem text_add (b off i : Nat) : (⟨b, off, none⟩ : Addr).add i = ⟨b, off + i, none⟩ := by
  unfold Addr.add
  split
  · next h => subst h; rfl
  · rfl
theorem run_append_nilT {P : Program} (w : World) (t ty e : TypeId) (i : TypeInfo) (c : Nat) (ht : P.underlying t = some (.slice e)) (hi : P.info? e = some i) :
    (Builtin.append_ #[t, t] ty #[.slice none 0 0, .slice none 0 c]).run P w = .ok (.slice none 0 0) w := by
  simp [Builtin.append_, run_underlying ht, sizeOf, typeInfo, hi, Builtin.lenOf, Builtin.firstCells]

theorem wpList_append_texts (w : World) {ops : Array Oper} {rest : List Oper} {o : Oper} {a : Act} {Q : Exit → Act → World → Prop} (hgd : o.guard = none) (s x : Operand)
    (ho : o.op = .call { callee := .builtin .append, args := #[s, x], argTypes := #[23, 23] })
    (base : Nat) (hs : a.eval s = .slice none 0 0)
    (sv : Value) (l : List ByteArray) (hx : a.eval x = sv) (hrow : RowT w sv l) (hbytes : l.length * 16 ≤ 140737488355328) (hbase : base ≤ w.heap.size)
    (h : ∀ v' w', OwnT base w' v' l → w.grownBy w' none → wpList Try.prog ops Q rest (a.put o.dst v') w') : wpList Try.prog ops Q (o :: rest) a w := by
  obtain ⟨i, hi, hz, h1, h2⟩ := info_parts info_str
  obtain ⟨hl, ad, cap, hsv, h3, h4, h5⟩ := hrow
  cases ad with
  | none =>
    have hl0 : l = [] := by
      rcases h5 with h5 | ⟨b, off, he, -⟩
      · exact h5
      · cases he
    subst hl0
    refine wpList_plain hgd fun K hK' => ?_
    have hrun := run_append_nilT (P := Try.prog) w 23 o.type 9 i cap Try.underlying23 hi
    subst hsv
    simp only [List.length_nil] at hx
    unfold Oper.wp execOp
    simp only [ho, resolve, invoke, builtin, Sem.run_bind, Sem.run_pure, Result.andThen_ok, List.map_toArray, List.map_cons, List.map_nil, hs, hx, hrun]
    exact hK' _ _ (h _ w (World.ownsRow_nil _ _ _ _) (World.grownBy.refl w _))
  | some ad =>
    subst hsv
    refine wpList_append_own w hgd s x 23 ho base 9 i (.string ⟨#[]⟩) 1 16 Try.underlying23 hi hz h1 h2 rfl (by decide) (.slice none 0 0) 0 [] hs (World.ownsRow_nil _ _ _ _) ad l.length cap (l.flatMap encI) hx (by rw [flatT]; simp) ?_ ?_ (by unfold maxLen; omega) (by omega) hbase (fun v' w' k1 k2 _ => h v' w' (by simpa [OwnT] using k1) k2)
    · rcases h5 with rfl | ⟨b, off, he, -, hc⟩
      · intro j u hj; simp at hj
      · obtain rfl := Option.some.inj he
        intro j u hj
        rw [text_add]
        rw [flatT, List.getElem?_map, Option.map_eq_some_iff] at hj
        obtain ⟨y, hy, rfl⟩ := hj
        obtain ⟨hlt, rfl⟩ := List.getElem?_eq_some_iff.1 hy
        have := hc j hlt 0 (by omega)
        simpa [encI] using this
    · intro u hu
      rw [flatT] at hu
      obtain ⟨y, _, rfl⟩ := List.mem_map.1 hu
      rfl
end Go.Proofs.Ytnlaehpldmkdoaa
