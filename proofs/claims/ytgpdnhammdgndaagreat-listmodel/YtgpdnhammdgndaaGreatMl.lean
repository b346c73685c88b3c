/- A slice of texts of the call's own that lies anywhere in its row: what is appended to it, what is cut off behind and ahead. -/
import Derived.Test.YtgpdnhammdgndaaGreatMx
import Derived.Test.YtgpdnhammdgndaaGreatOwJ
import Derived.ArgAppend
namespace Go.Proofs.YtgpdnhammdgndaaGreat
open Go.RowKit
set_option linter.unusedVariables false
set_option maxRecDepth 100000

/-- A slice of texts in a row of the call's own (from block B on), at any place of the row; 'g' its block. -/
structure OwnO (B : Nat) (w : World) (v : Value) (A : List ByteArray) : Prop where
  le : A.length ≤ 40
  at' : ∃ ao cap, v = .slice ao A.length cap ∧ A.length ≤ cap ∧ cap ≤ 9223372036854775807 ∧
    ((cap = 0 ∧ ∀ b, ao = some b → B ≤ b.block ∧ b.block < w.heap.size) ∨ ∃ g off cur, ao = some ⟨g, off, none⟩ ∧ B ≤ g ∧ w.heap[g]? = some (.cells cur 9 (0, 0)) ∧ off + cap ≤ cur.size ∧ ∀ j (h : j < A.length), cur[off + j]? = some (.string A[j]))
theorem OwnO.nil (B : Nat) (w : World) : OwnO B w (.slice none 0 0) [] := ⟨by simp, none, 0, rfl, by simp, by omega, .inl ⟨rfl, fun b h => by cases h⟩⟩
theorem OwnO.kept {B : Nat} {w w' : World} {v : Value} {A : List ByteArray} (h : OwnO B w v A) (hz : w.heap.size ≤ w'.heap.size) (hk : ∀ k, k < w.heap.size → v.ownBlock = some k → w'.heap[k]? = w.heap[k]?) : OwnO B w' v A := by
  obtain ⟨h0, ao, cap, rfl, h1, h2, h3⟩ := h
  refine ⟨h0, ao, cap, rfl, h1, h2, ?_⟩
  rcases h3 with h3 | ⟨g, off, cur, rfl, hb, hg, hs, hc⟩
  · exact .inl ⟨h3.1, fun b hb => by have := h3.2 b hb; omega⟩
  · exact .inr ⟨g, off, cur, rfl, hb, (hk g (lt_at hg) rfl).trans hg, hs, hc⟩
theorem OwnO.below {B : Nat} {w w' : World} {v : Value} {A : List ByteArray} (h : OwnO B w v A) (hb : Below w.heap.size w w') : OwnO B w' v A := h.kept hb.size fun k hk _ => hb.block k hk
theorem OwnO.block {B : Nat} {w : World} {v : Value} {A : List ByteArray} (h : OwnO B w v A) : ∀ k, v.ownBlock = some k → B ≤ k ∧ k < w.heap.size := by
  obtain ⟨h0, ao, cap, rfl, h1, h2, h3⟩ := h
  intro k hk
  cases ao with
  | none => cases hk
  | some b =>
    have hk' : b.block = k := Option.some.inj hk
    rcases h3 with ⟨-, h3⟩ | ⟨g, off, cur, ha, hb, hg, hs, hc⟩
    · have := h3 b rfl; omega
    · have e := Option.some.inj ha
      subst e
      have := lt_at hg
      simp only at hk'
      omega
theorem OwnO.row {B : Nat} {w : World} {v : Value} {A : List ByteArray} (h : OwnO B w v A) : (A = [] ∧ ∃ a c, v = .slice a 0 c) ∨ RowAt 1 encI w v A := by
  obtain ⟨h0, ao, cap, rfl, h1, h2, h3⟩ := h
  rcases h3 with ⟨h3, -⟩ | ⟨g, off, cur, rfl, hb, hg, hs, hc⟩
  · left
    have : A = [] := List.eq_nil_of_length_eq_zero (by omega)
    subst this
    exact ⟨rfl, _, _, rfl⟩
  · right
    refine ⟨by omega, some ⟨g, off, none⟩, cap, rfl, h1, h2, .inr ⟨g, off, rfl, lt_at hg, fun i hi c hc' => ?_⟩⟩
    have h0 : c = 0 := by omega
    subst h0
    have := (cellsB hg).1 (off + i)
    rw [show off + i * 1 + 0 = off + i by omega, this, hc i hi]
    rfl

theorem grown_setCells {w : World} {g o : Nat} {u : Value} {cur : Array Value} (hg : w.heap[g]? = some (.cells cur 9 (0, 0))) :
    (w.setCells g o [u]).heap[g]? = some (.cells (cur.setIfInBounds o u) 9 (0, 0)) ∧ w.grownBy (w.setCells g o [u]) (some g) := by
  have e : w.setCells g o [u] = w.setRow g (cur.setIfInBounds o u) := setCell_eq_setRow w g o cur _ (0, 0) u hg
  rw [e]
  exact ⟨setRow_heap w g cur _ _ (0, 0) hg, ⟨rfl, rfl, rfl, by simp [World.setRow], fun k _ hk => setRow_other w g k _ (fun e => hk (by rw [e]))⟩⟩

/-- append of one text onto such a slice. -/
theorem wpList_append_off {P : Program} (w : World) {ops : Array Oper} {rest : List Oper} {o : Oper} {a : Act} {Q : Exit → Act → World → Prop}
    (hgd : o.guard = none) (s x : Operand) (t : TypeId) (hop : o.op = Op.call { callee := Callee.builtin Builtin.append, args := #[s, x], argTypes := #[t, t] })
    (ht : P.underlying t = some (.slice 9)) (hinfo : (P.info? 9).map (fun i => (i.zero, i.size, i.bytes)) = some (some (.string ByteArray.empty), 1, 16))
    (B : Nat) (v : Value) (A : List ByteArray) (hs : a.eval s = v) (hown : OwnO B w v A) (gx : Nat) (cx : Nat) (y : ByteArray) (hx : a.eval x = .slice (some ⟨gx, 0, none⟩) 1 cx) (hcell : w.cell? ⟨gx, 0, none⟩ = some (.string y))
    (hlen : A.length < 40) (hB : B ≤ w.heap.size)
    (h : ∀ v' w', OwnO B w' v' (A ++ [y]) → w.grownBy w' v.ownBlock → (v'.ownBlock = v.ownBlock ∨ ∃ k, v'.ownBlock = some k ∧ w.heap.size ≤ k) → wpList P ops Q rest (a.put o.dst v') w') : wpList P ops Q (o :: rest) a w := by
  obtain ⟨i, hi, hz, h1, h2⟩ := info_parts hinfo
  have hnews : ∀ j u, [Value.string y][j]? = some u → w.cell? ((⟨gx, 0, none⟩ : Addr).add j) = some u := by
    intro j u hj
    match j, hj with
    | 0, hj =>
      simp at hj
      subst hj
      simpa [Addr.add] using hcell
  have hone : ∀ u ∈ [Value.string y], u.oneCell' = true := by intro u hu; simp at hu; subst hu; rfl
  have hfin : ∀ v' w', w'.ownsRow w.heap.size 9 1 v' (A.length + 1) (A.map .string ++ [.string y]) → w.grownBy w' none → wpList P ops Q rest (a.put o.dst v') w' := by
    intro v' w' r1 r2
    obtain ⟨r3, r4⟩ := r1
    rcases r4 with ⟨-, h0⟩ | ⟨g, cap', cur, rfl, hb, hg, hn, hc, hcs, htk⟩
    · omega
    · refine h _ _ ⟨by simp; omega, some ⟨g, 0, none⟩, cap', by simp, by simpa using hn, by unfold maxLen at hc; omega, .inr ⟨g, 0, cur, rfl, by omega, hg, by omega, fun j hj => ?_⟩⟩ ⟨r2.os, r2.tape, r2.output, r2.size, fun k hk _ => r2.block k hk (by simp)⟩ (.inr ⟨g, rfl, hb⟩)
      have e : (cur.toList.take ((A.length + 1) * 1))[j]? = ((A ++ [y]).map Value.string)[j]? := by rw [htk]; simp
      rw [List.getElem?_take, if_pos (by simp at hj; omega), List.getElem?_map, List.getElem?_eq_getElem hj] at e
      simpa using e
  obtain ⟨h0, ao, cap, rfl, k1, k2, k3⟩ := hown
  rcases k3 with ⟨hc0, -⟩ | ⟨g, off, cur, rfl, hb, hg, hsz, hc⟩
  · subst hc0
    have hA : A = [] := List.eq_nil_of_length_eq_zero (by omega)
    subst hA
    refine wpList_append_grows w hgd s x t hop 9 i _ 1 16 ht hi hz h1 h2 rfl (by decide) ao 0 0 [] hs (fun _ => ⟨rfl, rfl⟩) rfl (fun b _ j u hj => by simp at hj) ⟨gx, 0, none⟩ 1 cx [.string y] hx rfl hnews hone (by decide) (by decide) (by decide) (fun v' w' r1 r2 => ?_)
    exact hfin v' w' (by simpa using r1) r2
  · have hcl := (cellsB hg).1
    have hfz := (cellsB hg).2
    refine wpList_append_arg w hgd s x t hop 9 i _ 1 16 ht hi hz h1 h2 rfl (by decide) g off A.length cap (A.map .string) hs (by simp) (fun j u hj => ?_) ⟨gx, 0, none⟩ 1 cx [.string y] hx rfl hnews hone (fun hr j hj => ?_) (by unfold maxLen; omega) (by omega) (fun hr => ?_) (fun hgr v' w' r1 r2 => hfin v' w' r1 r2)
    · rw [List.getElem?_map] at hj
      by_cases hjl : j < A.length
      · rw [List.getElem?_eq_getElem hjl] at hj
        simp at hj
        rw [hcl, hc j hjl, hj]
      · rw [List.getElem?_eq_none (by omega)] at hj; simp at hj
    · have : j = 0 := by simp at hj; omega
      subst this
      refine ⟨?_, hfz _⟩
      rw [hcl, Array.getElem?_eq_getElem (by omega)]; rfl
    · rw [Nat.mul_one]
      obtain ⟨q1, q2⟩ := grown_setCells (o := off + A.length) (u := .string y) hg
      refine h _ _ ⟨by simp; omega, some ⟨g, off, none⟩, cap, by simp, by simpa using hr, k2, .inr ⟨g, off, _, rfl, hb, q1, by simpa using hsz, fun j hj => ?_⟩⟩ q2 (.inl rfl)
      by_cases hjl : j < A.length
      · rw [Array.getElem?_setIfInBounds_ne (by omega), hc j hjl, List.getElem_append_left hjl]
      · have : j = A.length := by simp at hj; omega
        subst this
        rw [Array.getElem?_setIfInBounds_self_of_lt (by omega)]
        simp

/-- Such a slice without its last text, and without room for another one. -/
theorem OwnO.pop {B : Nat} {w : World} {ao : Option Addr} {n cap : Nat} {A : List ByteArray} {y : ByteArray} (h : OwnO B w (.slice ao n cap) (A ++ [y])) : OwnO B w (.slice ao A.length A.length) A := by
  obtain ⟨h0, ao', cap', he, h1, h2, h3⟩ := h
  simp only [Value.slice.injEq] at he
  obtain ⟨rfl, rfl, rfl⟩ := he
  simp only [List.length_append, List.length_singleton] at h0 h1
  refine ⟨by omega, ao, A.length, rfl, Nat.le_refl _, by omega, ?_⟩
  rcases h3 with ⟨h3, -⟩ | ⟨g, off, cur, rfl, hb, hg, hs, hc⟩
  · omega
  · refine .inr ⟨g, off, cur, rfl, hb, hg, by omega, fun j hj => ?_⟩
    have := hc j (by simp; omega)
    rwa [List.getElem_append_left hj] at this
/-- Such a slice without its first text. -/
theorem OwnO.shift {B : Nat} {w : World} {ao : Option Addr} {n cap : Nat} {A : List ByteArray} {y : ByteArray} (h : OwnO B w (.slice ao n cap) (y :: A)) :
    ∃ g off, ao = some ⟨g, off, none⟩ ∧ n = A.length + 1 ∧ A.length + 1 ≤ cap ∧ cap ≤ 9223372036854775807 ∧ w.cell? ⟨g, off, none⟩ = some (.string y) ∧ OwnO B w (.slice (some ⟨g, off + 1, none⟩) A.length (cap - 1)) A ∧ (cap = 1 → OwnO B w (.slice (some ⟨g, off, none⟩) 0 0) A) := by
  obtain ⟨h0, ao', cap', he, h1, h2, h3⟩ := h
  simp only [Value.slice.injEq] at he
  obtain ⟨rfl, rfl, rfl⟩ := he
  simp only [List.length_cons] at h0 h1
  rcases h3 with ⟨h3, -⟩ | ⟨g, off, cur, rfl, hb, hg, hs, hc⟩
  · omega
  · refine ⟨g, off, rfl, rfl, h1, h2, ?_, ⟨by omega, _, cap - 1, rfl, by omega, by omega, .inr ⟨g, off + 1, cur, rfl, hb, hg, by omega, fun j hj => ?_⟩⟩, fun h => ?_⟩
    · rw [(cellsB hg).1]; exact hc 0 (by simp)
    · have := hc (j + 1) (by simp; omega)
      rw [show off + 1 + j = off + (j + 1) by omega, this]; rfl
    · have : A = [] := List.eq_nil_of_length_eq_zero (by omega)
      subst this
      exact ⟨by simp, _, 0, rfl, by simp, by omega, .inl ⟨rfl, fun b hb' => by cases hb'; exact ⟨hb, lt_at hg⟩⟩⟩
/-- The last text's cell. -/
theorem OwnO.last {B : Nat} {w : World} {ao : Option Addr} {n cap : Nat} {A : List ByteArray} {y : ByteArray} (h : OwnO B w (.slice ao n cap) (A ++ [y])) :
    ∃ g off, ao = some ⟨g, off, none⟩ ∧ n = A.length + 1 ∧ A.length + 1 ≤ cap ∧ cap ≤ 9223372036854775807 ∧ w.cell? ⟨g, off + A.length, none⟩ = some (.string y) := by
  obtain ⟨h0, ao', cap', he, h1, h2, h3⟩ := h
  simp only [Value.slice.injEq] at he
  obtain ⟨rfl, rfl, rfl⟩ := he
  simp only [List.length_append, List.length_singleton] at h0 h1
  rcases h3 with ⟨h3, -⟩ | ⟨g, off, cur, rfl, hb, hg, hs, hc⟩
  · omega
  · refine ⟨g, off, rfl, by simp, h1, h2, ?_⟩
    rw [(cellsB hg).1, hc A.length (by simp)]
    simp
/-- A row that a call has just made is such a slice. -/
theorem OwnO.ofRow {B : Nat} {w : World} {v : Value} {A : List ByteArray} (h : w.ownsRow B 9 1 v A.length (A.flatMap encI)) (hl : A.length ≤ 40) (h1 : 1 ≤ A.length) : OwnO B w v A := by
  obtain ⟨r3, r4⟩ := h
  rcases r4 with ⟨-, h0⟩ | ⟨g, cap', cur, rfl, hb, hg, hn, hc, hcs, htk⟩
  · omega
  · refine ⟨hl, some ⟨g, 0, none⟩, cap', rfl, hn, by unfold maxLen at hc; omega, .inr ⟨g, 0, cur, rfl, hb, hg, by omega, fun j hj => ?_⟩⟩
    have hfm : A.flatMap encI = A.map Value.string := by
      clear htk hj h1 hl r3 hn
      induction A with
      | nil => rfl
      | cons y r ih => rw [List.flatMap_cons, ih]; rfl
    have e : (cur.toList.take (A.length * 1))[j]? = (A.map Value.string)[j]? := by rw [htk, hfm]
    rw [List.getElem?_take, if_pos (by omega), List.getElem?_map, List.getElem?_eq_getElem hj] at e
    simpa using e
theorem OwnO.inAt {B : Nat} {w : World} {v : Value} {A : List ByteArray} (h : OwnO B w v A) : InAt 1 encI (fun _ => True) w v A := by
  obtain ⟨h0, ao, cap, rfl, h1, h2, h3⟩ := h
  refine ⟨fun _ _ => trivial, ao, cap, rfl, h1, h2, ?_⟩
  rcases h3 with ⟨h3, -⟩ | ⟨g, off, cur, rfl, hb, hg, hs, hc⟩
  · exact .inl (List.eq_nil_of_length_eq_zero (by omega))
  · refine .inr ⟨g, off, rfl, lt_at hg, fun i hi c hc' => ?_⟩
    have h0 : c = 0 := by omega
    subst h0
    rw [show off + i * 1 + 0 = off + i by omega, (cellsB hg).1, hc i hi]
    rfl

set_option maxHeartbeats 2000000 in
theorem sameTexts_nil (a b : Option Addr) (c d : Nat) (w : World) :
    Calls Tryz.prog 18 #[.slice a 0 c, .slice b 0 d] w fun e w' => e = .returned (.bool true) ∧ Below w.heap.size w w' := by
  go_enter Tryz.func18, Tryz.ntmps18
  go_wp2
  go_loopw [5] (fun c wr => c = .int .i64 0 ∧ Below w.heap.size w wr) (fun _ _ => 0)
  case atStart => exact ⟨rfl, Below.refl _ _⟩
  case round =>
    obtain ⟨rfl, hb⟩ := hrel
    go_wp2_with fail
    go_ret
    exact ⟨rfl, hb⟩
set_option maxHeartbeats 2000000 in
theorem sameReply_eq (code : Int) (text : ByteArray) (n : Int) (a b : Option Addr) (c d : Nat) (w : World) :
    Calls Tryz.prog 17 #[repV code text n (.slice a 0 c), repV code text n (.slice b 0 d)] w fun e w' => e = .returned (.bool true) ∧ Below w.heap.size w w' := by
  have H : Hid (∀ W, Calls Tryz.prog 18 #[.slice a 0 c, .slice b 0 d] W fun e w' => e = .returned (.bool true) ∧ Below W.heap.size W w') := fun W => sameTexts_nil a b c d W
  have hB : Below w.heap.size w ((w.alloc (repO code text n (.slice a 0 c))).alloc (repO code text n (.slice b 0 d))) := (balloc _ _).alloc (by simp) _
  go_enter Tryz.func17, Tryz.ntmps17
  go_wp2_with fail
  refine (H.out _).mono ?_
  rintro e w' ⟨rfl, hb⟩
  replace hB := bstep hB hb
  go_wp2_with fail
  go_ret
  exact ⟨rfl, hB⟩
end Go.Proofs.YtgpdnhammdgndaaGreat
