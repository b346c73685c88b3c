/- A law of the walk: append of a slice that reads as a list onto a row of the call's own. -/
import Derived.Test.YtfnephnecighaaaGreatCbJ
namespace Go.Proofs.YtfnephnecighaaaGreat
open Go.RowKit
set_option linter.unusedVariables false

theorem RowAt.news {α : Type} {k : Nat} {enc : α → List Value} {w : World} {l : List α} {b off : Nat} (hk : ∀ x, (enc x).length = k) (h0 : 0 < k)
    (hc : ∀ i (h : i < l.length) (c : Nat), c < k → w.cell? ⟨b, off + i * k + c, none⟩ = (enc l[i])[c]?) :
    ∀ j u, (l.flatMap enc)[j]? = some u → w.cell? ((⟨b, off, none⟩ : Addr).add j) = some u := by
  intro j u hj
  have hlen : (l.flatMap enc).length = l.length * k := by
    clear hc hj
    induction l with
    | nil => simp
    | cons x r ih => rw [List.flatMap_cons, List.length_append, ih, hk, List.length_cons, Nat.add_mul]; omega
  have hjl : j < l.length * k := by rw [← hlen]; exact (List.getElem?_eq_some_iff.1 hj).1
  have hi : j / k < l.length := Nat.div_lt_of_lt_mul (by rw [Nat.mul_comm]; exact hjl)
  have hcm : j % k < k := Nat.mod_lt _ h0
  have e : j / k * k + j % k = j := by rw [Nat.mul_comm]; exact Nat.div_add_mod j k
  have h1 := flat_get k enc hk l (j / k) hi (j % k) hcm
  rw [e, hj] at h1
  have h2 := hc (j / k) hi (j % k) hcm
  rw [← h1, Nat.add_assoc, e] at h2
  by_cases hz : j = 0
  · subst hz; simpa [Addr.add] using h2
  · simpa [Addr.add, hz] using h2

theorem flat_length {α : Type} {k : Nat} {enc : α → List Value} (hk : ∀ x, (enc x).length = k) (l : List α) : (l.flatMap enc).length = l.length * k := by
  induction l with
  | nil => simp
  | cons x r ih => rw [List.flatMap_cons, List.length_append, ih, hk, List.length_cons, Nat.add_mul]; omega

theorem wpList_append_row {P : Program} (w : World) {ops : Array Oper} {rest : List Oper} {o : Oper} {a : Act} {Q : Exit → Act → World → Prop} (hgd : o.guard = none) (s x : Operand) (t : TypeId)
    (ho : o.op = .call { callee := .builtin .append, args := #[s, x], argTypes := #[t, t] })
    (base : Nat) (e : TypeId) (z : Value) (size bytes : Nat) (ht : P.underlying t = some (.slice e)) (hinfo : (P.info? e).map (fun i => (i.zero, i.size, i.bytes)) = some (some z, size, bytes))
    (hzs : z.cells.size = size) (hsz : 0 < size) {α : Type} (enc : α → List Value) (hk : ∀ x, (enc x).length = size) (hone : ∀ x, ∀ u ∈ enc x, u.oneCell' = true)
    (v : Value) (n : Nat) (xs : List Value) (hs : a.eval s = v) (hown : w.ownsRow base e size v n xs)
    (sv : Value) (l : List α) (hx : a.eval x = sv) (hrow : RowAt size enc w sv l)
    (h63 : n + l.length ≤ maxLen) (hbytes : (n + l.length) * bytes ≤ 140737488355328) (hbase : base ≤ w.heap.size)
    (h : ∀ v' w', w'.ownsRow base e size v' (n + l.length) (xs ++ l.flatMap enc) → w.grownBy w' v.ownBlock → (l = [] → v = .slice none 0 0 → v' = .slice none 0 0) → wpList P ops Q rest (a.put o.dst v') w') : wpList P ops Q (o :: rest) a w := by
  obtain ⟨i, hi, hz, h1, h2⟩ := info_parts hinfo
  obtain ⟨hl, ad, cap, hsv, h3, h4, h5⟩ := hrow
  rcases h5 with ⟨rfl, rfl, rfl⟩ | ⟨b, off, rfl, hb, hc⟩
  · refine wpList_plain hgd fun K hK' => ?_
    have hrun := run_append_owned_none (P := P) w base t o.type e i size ht hi v n xs hown
    subst hsv
    simp only [List.length_nil] at hx
    unfold Oper.wp execOp
    simp only [ho, resolve, invoke, builtin, Sem.run_bind, Sem.run_pure, Result.andThen_ok, List.map_toArray, List.map_cons, List.map_nil, hs, hx, hrun]
    exact hK' _ _ (h v w (by simpa using hown) (World.grownBy.refl w _) (fun _ h => h))
  · subst hsv
    refine wpList_append_own w hgd s x t ho base e i z size bytes ht hi hz h1 h2 hzs hsz v n xs hs hown ⟨b, off, none⟩ l.length cap (l.flatMap enc) hx (flat_length hk l) (RowAt.news hk hsz hc) ?_ h63 hbytes hbase (fun v' w' k1 k2 k3 => h v' w' k1 k2 (fun e1 e2 => k3.2 ⟨e2, by simp [e1]⟩))
    intro u hu
    obtain ⟨y, _, hy⟩ := List.mem_flatMap.1 hu
    exact hone y u hy
end Go.Proofs.YtfnephnecighaaaGreat

/- Slices that came in, as lists (of one without elements no more is said); values whose lists lie so. -/
namespace Go.Proofs.YtfnephnecighaaaGreat
open Go.RowKit
set_option linter.unusedVariables false

/-- A slice that reads as the list l, k cells an element; of an empty one's address nothing is said. -/
def RowW {α : Type} (k : Nat) (enc : α → List Value) (w : World) (s : Value) (l : List α) : Prop :=
  l.length ≤ 140737488355328 ∧ ∃ a cap, s = .slice a l.length cap ∧ l.length ≤ cap ∧ cap ≤ 9223372036854775807 ∧
    (l = [] ∨ ∃ b off, a = some ⟨b, off, none⟩ ∧ b < w.heap.size ∧ ∀ i (h : i < l.length) (c : Nat), c < k → w.cell? ⟨b, off + i * k + c, none⟩ = (enc l[i])[c]?)
theorem RowW.below {α : Type} {k : Nat} {enc : α → List Value} {w w' : World} {s : Value} {l : List α} (h : RowW k enc w s l) (hb : Below w.heap.size w w') : RowW k enc w' s l := by
  obtain ⟨hl, a, cap, hs, h1, h2, h3⟩ := h
  refine ⟨hl, a, cap, hs, h1, h2, ?_⟩
  rcases h3 with h3 | ⟨b, off, ha, hbk, hc⟩
  · exact .inl h3
  · exact .inr ⟨b, off, ha, bsize hb hbk, fun i hi c hk => (hb.cell (p := ⟨b, off + i * k + c, none⟩) hbk).trans (hc i hi c hk)⟩
theorem RowAt.toW {α : Type} {k : Nat} {enc : α → List Value} {w : World} {s : Value} {l : List α} (h : RowAt k enc w s l) : RowW k enc w s l := by
  obtain ⟨hl, a, cap, hs, h1, h2, h3⟩ := h
  exact ⟨hl, a, cap, hs, h1, h2, h3.imp (fun h => h.2.1) id⟩
theorem RowW.shape {α : Type} {k : Nat} {enc : α → List Value} {w : World} {s : Value} {l : List α} (h : RowW k enc w s l) : ∃ a cap, s = .slice a l.length cap ∧ l.length ≤ 140737488355328 ∧ l.length ≤ cap := by
  obtain ⟨hl, a, cap, hs, h1, -⟩ := h
  exact ⟨a, cap, hs, hl, h1⟩
theorem RowW.take {α : Type} {k : Nat} {enc : α → List Value} {w : World} {a : Option Addr} {n cap : Nat} {l : List α} (h : RowW k enc w (.slice a n cap) l) (i : Nat) (hi : i ≤ l.length) : RowW k enc w (.slice a i cap) (l.take i) := by
  obtain ⟨hl, a', cap', hs, h1, h2, h3⟩ := h
  obtain ⟨rfl, rfl, rfl⟩ := Value.slice.inj hs
  have e : (l.take i).length = i := by rw [List.length_take]; omega
  refine ⟨by omega, a, cap, by rw [e], by omega, h2, ?_⟩
  rcases h3 with rfl | ⟨b, off, ha, hbk, hc⟩
  · exact .inl (by simp)
  · refine .inr ⟨b, off, ha, hbk, fun j hj c hk => ?_⟩
    rw [List.getElem_take]
    exact hc j (by omega) c hk

/-- The three lists of a value that came in. -/
structure ListsW (w : World) (ps is ss : Value) (x : Val) : Prop where
  p : RowW 2 encP w ps x.pairs
  i : RowW 1 encI w is x.items
  s : RowW 2 encS w ss x.scores
theorem ListsW.below {w w' : World} {ps is ss : Value} {x : Val} (h : ListsW w ps is ss x) (hb : Below w.heap.size w w') : ListsW w' ps is ss x := ⟨h.p.below hb, h.i.below hb, h.s.below hb⟩
theorem Lists.toW {w : World} {ps is ss : Value} {x : Val} (h : Lists w ps is ss x) : ListsW w ps is ss x := ⟨h.p.toW, h.i.toW, h.s.toW⟩
def RepsW (w : World) (v : Value) (x : Val) : Prop := ∃ ps is ss, v = valV x.kind x.text x.count ps is ss ∧ ListsW w ps is ss x
theorem RepsW.below {w w' : World} {v : Value} {x : Val} (h : RepsW w v x) (hb : Below w.heap.size w w') : RepsW w' v x := by
  obtain ⟨ps, is, ss, hv, hl⟩ := h
  exact ⟨ps, is, ss, hv, hl.below hb⟩
theorem Reps.toW {w : World} {v : Value} {x : Val} (h : Reps w v x) : RepsW w v x := by
  obtain ⟨ps, is, ss, hv, hl⟩ := h
  exact ⟨ps, is, ss, hv, hl.toW⟩
end Go.Proofs.YtfnephnecighaaaGreat

/- Blocks and cells. -/
namespace Go.Proofs.YtfnephnecighaaaGreat
open Go.RowKit
set_option linter.unusedVariables false

theorem cellsB {w : World} {b : Nat} {cs : Array Value} {t : TypeId} (h : w.heap[b]? = some (.cells cs t (0, 0))) : (∀ o, w.cell? ⟨b, o, none⟩ = cs[o]?) ∧ (∀ o, w.frozen? ⟨b, o, none⟩ = false) := by
  refine ⟨fun o => ?_, fun o => ?_⟩
  · unfold World.cell?; rw [h]; rfl
  · unfold World.frozen?; rw [h]; simp
theorem lt_at {w : World} {b : Nat} {o : Obj} (h : w.heap[b]? = some o) : b < w.heap.size := (Array.getElem?_eq_some_iff.1 h).1
theorem alloc_at (w : World) (o : Obj) : (w.alloc o).heap[w.heap.size]? = some o := by show ((_ : Array Obj).push _)[_]? = _; simp
end Go.Proofs.YtfnephnecighaaaGreat
