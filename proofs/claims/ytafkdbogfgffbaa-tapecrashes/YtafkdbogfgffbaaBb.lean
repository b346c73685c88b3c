/- Bytes in memory: slices that read as lists of bytes, rows of the call's own, appends, the text that they are. -/
import Derived.Test.YtafkdbogfgffbaaBa
import Derived.Deep.OwnRows
import Derived.Laws.IdiomStrings
import Derived.Laws.ResultCell
namespace Go.Proofs.Ytafkdbogfgffbaa
open Go.RowKit
set_option linter.unusedVariables false
set_option maxRecDepth 100000

abbrev byteV (x : UInt8) : Value := .int .u8 (x.toNat : Int)
theorem info_byte : (Try.prog.info? 5).map (fun i => (i.zero, i.size, i.bytes)) = some (some (.int .u8 0), 1, 1) := by kernel_rfl

/-- A slice that reads as a list of bytes; of a slice without elements nothing more is said. -/
def RowB (w : World) (s : Value) (l : List UInt8) : Prop :=
  l.length ≤ 140737488355328 ∧ ∃ a cap, s = .slice a l.length cap ∧ l.length ≤ cap ∧ cap ≤ 9223372036854775807 ∧
    (l = [] ∨ ∃ b off, a = some ⟨b, off, none⟩ ∧ b < w.heap.size ∧ ∀ i (h : i < l.length), w.cell? ⟨b, off + i, none⟩ = some (byteV l[i]))
theorem RowB.below {w w' : World} {s : Value} {l : List UInt8} (h : RowB w s l) (hb : Below w.heap.size w w') : RowB w' s l := by
  obtain ⟨hl, a, cap, hs, h1, h2, h3⟩ := h
  refine ⟨hl, a, cap, hs, h1, h2, ?_⟩
  rcases h3 with h3 | ⟨b, off, ha, hbk, hc⟩
  · exact .inl h3
  · exact .inr ⟨b, off, ha, bsize hb hbk, fun i hi => (hb.cell (p := ⟨b, off + i, none⟩) hbk).trans (hc i hi)⟩
theorem RowB.shape {w : World} {s : Value} {l : List UInt8} (h : RowB w s l) : ∃ a c, s = .slice a l.length c := by
  obtain ⟨-, a, c, rfl, -⟩ := h; exact ⟨_, _, rfl⟩
theorem RowB.nil (w : World) : RowB w (.slice none 0 0) [] := ⟨by simp, none, 0, rfl, by simp, by omega, .inl rfl⟩

abbrev OwnB (B : Nat) (w : World) (s : Value) (A : List UInt8) : Prop := w.ownsRow B 5 1 s A.length (A.map byteV)
theorem OwnB.shape {B : Nat} {w : World} {s : Value} {A : List UInt8} (h : OwnB B w s A) : ∃ a c, s = .slice a A.length c := by
  rcases h.2 with ⟨h1, h2⟩ | ⟨g, cap, cur, h1, _⟩
  · exact ⟨_, _, by rw [h1, h2]⟩
  · exact ⟨_, _, h1⟩
theorem OwnB.base {B B' : Nat} {w : World} {s : Value} {A : List UInt8} (h : OwnB B w s A) (hb : B' ≤ B) : OwnB B' w s A := by
  refine ⟨h.1, ?_⟩
  rcases h.2 with h | ⟨g, cap, cur, h1, h2, h3⟩
  · exact .inl h
  · exact .inr ⟨g, cap, cur, h1, Nat.le_trans hb h2, h3⟩
theorem OwnB.setCell {B : Nat} {w : World} {s : Value} {A : List UInt8} (h : OwnB B w s A) {a : Addr} (ha : a.block < B) (u : Value) : OwnB B (w.setCell a u) s A := ownsRow_setCell_below h ha u
theorem OwnB.nil (B : Nat) (w : World) : OwnB B w (.slice none 0 0) [] := World.ownsRow_nil _ _ _ _
theorem OwnB.below {B : Nat} {w w' : World} {s : Value} {A : List UInt8} (h : OwnB B w s A) (hB : B ≤ w.heap.size) (hg : w.grownBy w' s.ownBlock) : Below B w w' :=
  (Below.refl _ _).grown hg hB (fun k hk => (World.ownsRow.lt h k hk).1)
theorem OwnB.row {B : Nat} {w : World} {s : Value} {A : List UInt8} (h : OwnB B w s A) (hl : A.length ≤ 140737488355328) : RowB w s A := by
  obtain ⟨_, h | ⟨g, cap, cur, rfl, _, hg, h1, h2, _, h4⟩⟩ := h
  · obtain ⟨rfl, h0⟩ := h
    have : A = [] := List.eq_nil_of_length_eq_zero h0
    subst this
    exact RowB.nil _
  · refine ⟨hl, _, cap, rfl, h1, by simpa [maxLen] using h2, .inr ⟨g, 0, rfl, lt_at hg, fun i hi => ?_⟩⟩
    have e1 : w.cell? ⟨g, 0 + i, none⟩ = cur[0 + i]? := (cellsB hg).1 _
    have e2 : cur[0 + i]? = (cur.toList.take (A.length * 1))[i]? := by
      rw [List.getElem?_take_of_lt (by omega)]; simp
    rw [e1, e2, h4]
    simp [hi]

theorem byte_add (b off i : Nat) : (⟨b, off, none⟩ : Addr).add i = ⟨b, off + i, none⟩ := by
  unfold Addr.add
  split
  · next h => subst h; rfl
  · rfl
theorem run_append_nilB {P : Program} (w : World) (base : Nat) (t ty e : TypeId) (i : TypeInfo) (size c : Nat) (ht : P.underlying t = some (.slice e)) (hi : P.info? e = some i)
    (v : Value) (n : Nat) (xs : List Value) (hown : w.ownsRow base e size v n xs) :
    (Builtin.append_ #[t, t] ty #[v, .slice none 0 c]).run P w = .ok v w := by
  rcases hown.2 with ⟨rfl, rfl⟩ | ⟨g, cap, cur, rfl, _, _, hnc, _⟩
  · simp [Builtin.append_, run_underlying ht, sizeOf, typeInfo, hi, Builtin.lenOf, Builtin.firstCells]
  · simp [Builtin.append_, run_underlying ht, sizeOf, typeInfo, hi, Builtin.lenOf, Builtin.firstCells, hnc, storeCells]

theorem wpList_append_bytes (w : World) {ops : Array Oper} {rest : List Oper} {o : Oper} {a : Act} {Q : Exit → Act → World → Prop} (hgd : o.guard = none) (s x : Operand)
    (ho : o.op = .call { callee := .builtin .append, args := #[s, x], argTypes := #[34, 34] })
    (base : Nat) (v : Value) (A : List UInt8) (hs : a.eval s = v) (hown : OwnB base w v A)
    (sv : Value) (l : List UInt8) (hx : a.eval x = sv) (hrow : RowB w sv l) (hbytes : (A.length + l.length) * 1 ≤ 140737488355328) (hbase : base ≤ w.heap.size)
    (h : ∀ v' w', OwnB base w' v' (A ++ l) → w.grownBy w' v.ownBlock → wpList Try.prog ops Q rest (a.put o.dst v') w') : wpList Try.prog ops Q (o :: rest) a w := by
  obtain ⟨i, hi, hz, h1, h2⟩ := info_parts info_byte
  obtain ⟨hl, ad, cap, hsv, h3, h4, h5⟩ := hrow
  have fin : ∀ v' w', w'.ownsRow base 5 1 v' (A.length + l.length) (A.map byteV ++ l.map byteV) → w.grownBy w' v.ownBlock → wpList Try.prog ops Q rest (a.put o.dst v') w' := fun v' w' k1 k2 => h v' w' (by rw [OwnB, List.length_append, List.map_append]; exact k1) k2
  cases ad with
  | none =>
    have hl0 : l = [] := by
      rcases h5 with h5 | ⟨b, off, he, -⟩
      · exact h5
      · cases he
    subst hl0
    refine wpList_plain hgd fun K hK' => ?_
    have hrun := run_append_nilB (P := Try.prog) w base 34 o.type 5 i 1 cap Try.underlying34 hi v A.length (A.map byteV) hown
    subst hsv
    simp only [List.length_nil] at hx
    unfold Oper.wp execOp
    simp only [ho, resolve, invoke, builtin, Sem.run_bind, Sem.run_pure, Result.andThen_ok, List.map_toArray, List.map_cons, List.map_nil, hs, hx, hrun]
    exact hK' _ _ (h v w (by simpa using hown) (World.grownBy.refl w _))
  | some ad =>
    subst hsv
    refine wpList_append_own w hgd s x 34 ho base 5 i (.int .u8 0) 1 1 Try.underlying34 hi hz h1 h2 rfl (by decide) v A.length (A.map byteV) hs hown ad l.length cap (l.map byteV) hx (by simp) ?_ ?_ (by unfold maxLen; omega) hbytes hbase (fun v' w' k1 k2 _ => fin v' w' k1 k2)
    · rcases h5 with rfl | ⟨b, off, he, -, hc⟩
      · intro j u hj; simp at hj
      · obtain rfl := Option.some.inj he
        intro j u hj
        rw [byte_add]
        rw [List.getElem?_map, Option.map_eq_some_iff] at hj
        obtain ⟨y, hy, rfl⟩ := hj
        obtain ⟨hlt, rfl⟩ := List.getElem?_eq_some_iff.1 hy
        exact hc j hlt
    · intro u hu
      obtain ⟨y, _, rfl⟩ := List.mem_map.1 hu
      rfl

/-- The text that bytes are. -/
def textOf (l : List UInt8) : ByteArray := ⟨l.toArray⟩
theorem run_text {w : World} {a : Option Addr} {cap : Nat} {l : List UInt8} (h : RowB w (.slice a l.length cap) l) : (convert 34 9 (.slice a l.length cap)).run Try.prog w = .ok (.string (textOf l)) w := by
  obtain ⟨hl, a', cap', hs, h1, h2, h3⟩ := h
  simp only [Value.slice.injEq, true_and] at hs
  obtain ⟨rfl, rfl⟩ := hs
  cases a with
  | none =>
    have : l = [] := by
      rcases h3 with h3 | ⟨b, off, he, -⟩
      · exact h3
      · cases he
    subst this
    rw [run_convert_bytes_string (P := Try.prog) w 34 9 5 none _ cap Try.underlying34 Try.underlying5 Try.underlying9]
    rfl
  | some ad =>
    have := run_convert_bytes_back (P := Try.prog) w 34 9 5 ad cap l Try.underlying34 Try.underlying5 Try.underlying9 (fun j hj => by
      rcases h3 with rfl | ⟨b, off, he, -, hc⟩
      · simp at hj
      · obtain rfl := Option.some.inj he
        rw [byte_add]
        simpa using hc j hj)
    simpa [textOf] using this
end Go.Proofs.Ytafkdbogfgffbaa
