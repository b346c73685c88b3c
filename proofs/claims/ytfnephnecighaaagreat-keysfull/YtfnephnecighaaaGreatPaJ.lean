/- What is taken from a value's own lists: a field, a text, a member. -/
import Derived.Test.YtfnephnecighaaaGreatSkJ
import Derived.Test.YtfnephnecighaaaGreatBsJ
import Derived.Test.YtfnephnecighaaaGreatWgJ
namespace Go.Proofs.YtfnephnecighaaaGreat
open Go.RowKit
set_option linter.unusedVariables false

/-- Of the blocks that were there, none has turned but those from B to N. -/
structure Keeps (B N : Nat) (w w' : World) : Prop where
  os : w'.os = w.os
  tape : w'.tape = w.tape
  output : w'.output = w.output
  size : w.heap.size ≤ w'.heap.size
  block : ∀ k, k < w.heap.size → (k < B ∨ N ≤ k) → w'.heap[k]? = w.heap[k]?
theorem Keeps.ofBelow {B N : Nat} {w w' : World} (h : Below w.heap.size w w') : Keeps B N w w' := ⟨h.os, h.tape, h.output, h.size, fun k hk _ => h.block k hk⟩
theorem Keeps.trans {B N : Nat} {w w1 w2 : World} (h : Keeps B N w w1) (h' : Keeps B N w1 w2) : Keeps B N w w2 :=
  ⟨h'.os.trans h.os, h'.tape.trans h.tape, h'.output.trans h.output, Nat.le_trans h.size h'.size, fun k hk ho => (h'.block k (Nat.lt_of_lt_of_le hk h.size) ho).trans (h.block k hk ho)⟩
theorem Keeps.grown {B N : Nat} {w w' : World} {o : Option Nat} (hg : w.grownBy w' o) (ho : ∀ k, o = some k → B ≤ k ∧ k < N) : Keeps B N w w' :=
  ⟨hg.os, hg.tape, hg.output, hg.size, fun k hk hk' => hg.block k hk (fun e => by have := ho k e.symm; omega)⟩
theorem Keeps.setCell {B N : Nat} {w w' : World} (h : Keeps B N w w') {p : Addr} (hp : w.heap.size ≤ p.block) (u : Value) : Keeps B N w (w'.setCell p u) :=
  ⟨h.os, h.tape, h.output, by simpa [World.setCell] using h.size, fun k hk ho => (Below.heap_setCell _ _ _ _ (by omega)).trans (h.block k hk ho)⟩
theorem Keeps.drew {B N : Nat} {w w' : World} (h : Keeps B N w w') : Keeps B N w w'.drew := ⟨h.os, h.tape, h.output, h.size, h.block⟩
theorem Keeps.below {B N : Nat} {w w' : World} (h : Keeps B N w w') (hB : B ≤ w.heap.size) : Below B w w' := ⟨h.os, h.tape, h.output, h.size, fun k hk => h.block k (by omega) (.inl hk)⟩
/-- A row that was made in the call is not touched by what is stored into older or other blocks. -/
def OwnIn (N : Nat) (s : Value) : Prop := ∀ k, s.ownBlock = some k → k < N

/-- A row that lies from B to N, or from M on. -/
def In (B N M : Nat) (s : Value) : Prop := ∀ k, s.ownBlock = some k → B ≤ k ∧ (k < N ∨ M ≤ k)
theorem In.nil (B N M : Nat) : In B N M (.slice none 0 0) := fun k h => by cases h
theorem In.mono {B N M N' M' : Nat} {s : Value} (h : In B N M s) (hN : N ≤ N') (hM : M' ≤ M) : In B N' M' s := fun k hk => ⟨(h k hk).1, by have := (h k hk).2; omega⟩
theorem In.from {B N M : Nat} {s : Value} (h : In B N M s) : From B s := fun a n c e => (h a.block (by rw [e]; rfl)).1
theorem row_set {α : Type} {k : Nat} {enc : α → List Value} {w : World} {s : Value} {l : List α} {B N M : Nat} (h : RowAt k enc w s l) (hI : In B N M s) {p : Addr} (h1 : N ≤ p.block) (h2 : p.block < M) (u : Value) : RowAt k enc (w.setCell p u) s l := by
  obtain ⟨hl, a, cap, hs, h3, h4, h5⟩ := h
  refine ⟨hl, a, cap, hs, h3, h4, ?_⟩
  rcases h5 with h5 | ⟨b, off, ha, hbk, hc⟩
  · exact .inl h5
  · have hb := (hI b (by rw [hs, ha]; rfl)).2
    refine .inr ⟨b, off, ha, by simpa [World.setCell] using hbk, fun i hi c hk => ?_⟩
    rw [← hc i hi c hk]
    exact World.cell?_of_block (a := ⟨b, off + i * k + c, none⟩) (Below.heap_setCell w p u b (by omega))
/-- A value that lies in memory as x, its rows from B to N or from M on. -/
def RepsA (B N M : Nat) (w : World) (v : Value) (x : Val) : Prop := ∃ ps is ss, v = valV x.kind x.text x.count ps is ss ∧ Lists w ps is ss x ∧ In B N M ps ∧ In B N M is ∧ In B N M ss
def RepRA (B N M : Nat) (w : World) (v : Value) (r : Rep) : Prop := ∃ ls, v = repV r.code r.text r.n ls ∧ RowAt 1 encI w ls r.list ∧ In B N M ls
theorem RepsA.repsF {B N M : Nat} {w : World} {v : Value} {x : Val} (h : RepsA B N M w v x) : RepsF B w v x := by
  obtain ⟨ps, is, ss, h1, h2, h3, h4, h5⟩ := h
  exact ⟨ps, is, ss, h1, h2, h3.from, h4.from, h5.from⟩
theorem RepRA.repRF {B N M : Nat} {w : World} {v : Value} {r : Rep} (h : RepRA B N M w v r) : RepRF B w v r := by
  obtain ⟨ls, h1, h2, h3⟩ := h
  exact ⟨ls, h1, h2, h3.from⟩
theorem RepsA.set {B N M : Nat} {w : World} {v : Value} {x : Val} (h : RepsA B N M w v x) {p : Addr} (h1 : N ≤ p.block) (h2 : p.block < M) (u : Value) : RepsA B N M (w.setCell p u) v x := by
  obtain ⟨ps, is, ss, e, hl, i1, i2, i3⟩ := h
  exact ⟨ps, is, ss, e, ⟨row_set hl.p i1 h1 h2 u, row_set hl.i i2 h1 h2 u, row_set hl.s i3 h1 h2 u⟩, i1, i2, i3⟩
theorem RepRA.set {B N M : Nat} {w : World} {v : Value} {r : Rep} (h : RepRA B N M w v r) {p : Addr} (h1 : N ≤ p.block) (h2 : p.block < M) (u : Value) : RepRA B N M (w.setCell p u) v r := by
  obtain ⟨ls, e, hl, i1⟩ := h
  exact ⟨ls, e, row_set hl i1 h1 h2 u, i1⟩
theorem RepsA.drew {B N M : Nat} {w : World} {v : Value} {x : Val} (h : RepsA B N M w v x) : RepsA B N M w.drew v x := by
  obtain ⟨ps, is, ss, e, hl, i1, i2, i3⟩ := h
  exact ⟨ps, is, ss, e, ⟨hl.p, hl.i, hl.s⟩, i1, i2, i3⟩
theorem RepRA.drew {B N M : Nat} {w : World} {v : Value} {r : Rep} (h : RepRA B N M w v r) : RepRA B N M w.drew v r := h
theorem RepsA.mono {B N M N' M' : Nat} {w : World} {v : Value} {x : Val} (h : RepsA B N M w v x) (hN : N ≤ N') (hM : M' ≤ M) : RepsA B N' M' w v x := by
  obtain ⟨ps, is, ss, e, hl, i1, i2, i3⟩ := h
  exact ⟨ps, is, ss, e, hl, i1.mono hN hM, i2.mono hN hM, i3.mono hN hM⟩
theorem RepRA.mono {B N M N' M' : Nat} {w : World} {v : Value} {r : Rep} (h : RepRA B N M w v r) (hN : N ≤ N') (hM : M' ≤ M) : RepRA B N' M' w v r := by
  obtain ⟨ls, e, hl, i1⟩ := h
  exact ⟨ls, e, hl, i1.mono hN hM⟩

/-- What a function makes of a value (its lists being the call's own, in blocks from B to N) and a command. -/
def Does (f : FuncId) (x : Val) (c : Cmd) (y : Val) (r : Rep) : Prop :=
  ∀ (B N : Nat) (W : World) (ps is ss : Value), B ≤ N → N ≤ W.heap.size → OwnLists B W ps is ss x → OwnIn N ps → OwnIn N is → OwnIn N ss →
    Calls Tryz.prog f #[valV x.kind x.text x.count ps is ss, c.v] W fun e w' => ∃ v u, e = .returned (.tuple #[v, u]) ∧ RepsA B N W.heap.size w' v y ∧ RepRA B N W.heap.size w' u r ∧ Keeps B N W w'

set_option maxHeartbeats 400000 in
theorem pairCmp_of (t : ByteArray) (w : World) : CmpOf Tryz.prog valP (.string t) (fun q => cmpS q.1 t) 130 #[] w := by
  intro x W hb
  go_enter Tryz.func130, Tryz.ntmps130
  go_wp2_with (go_at_call 78; refine (compareString_any _ _ _).mono ?_; rintro e w' ⟨rfl, rfl⟩)
  go_ret
  exact ⟨rfl, by first | exact Below.refl _ _ | exact balloc _ _⟩
theorem pairCmp_enter : ∀ args w, (callFunc 130 args).run Tryz.prog w = .ok (.enter 130 args) w := enters_of Tryz.func130 (by kernel_rfl) rfl

theorem Reps.own {B : Nat} {w : World} {ps is ss : Value} {x : Val} (h : OwnLists B w ps is ss x) (hi : x.items = []) (hs : x.scores = []) : is = .slice none 0 0 ∧ ss = .slice none 0 0 := ⟨h.i.2 hi, h.s.2 hs⟩

/-- A field that is there goes. -/
theorem four_at (w : World) (o0 o1 o2 o3 : Obj) : ((((w.alloc o0).alloc o1).alloc o2).alloc o3).heap[w.heap.size]? = some o0 ∧ ((((w.alloc o0).alloc o1).alloc o2).alloc o3).heap[w.heap.size + 1]? = some o1 ∧
    ((((w.alloc o0).alloc o1).alloc o2).alloc o3).heap[w.heap.size + 1 + 1]? = some o2 ∧ ((((w.alloc o0).alloc o1).alloc o2).alloc o3).heap[w.heap.size + 1 + 1 + 1]? = some o3 ∧
    Below w.heap.size w ((((w.alloc o0).alloc o1).alloc o2).alloc o3) ∧ ((((w.alloc o0).alloc o1).alloc o2).alloc o3).heap.size = w.heap.size + 4 := by
  refine ⟨?_, ?_, ?_, ?_, (((balloc w _).alloc (by simp) _).alloc (by simp; omega) _).alloc (by simp; omega) _, by simp⟩
  · rw [Below.heap_alloc _ _ _ (by simp; omega), Below.heap_alloc _ _ _ (by simp; omega), Below.heap_alloc _ _ _ (by simp)]
    show ((_ : Array Obj).push _)[_]? = _
    simp
  · rw [Below.heap_alloc _ _ _ (by simp <;> omega), Below.heap_alloc _ _ _ (by simp)]
    show ((_ : Array Obj).push _)[_]? = _
    rw [Array.getElem?_push, if_pos (by simp)]
  · rw [Below.heap_alloc _ _ _ (by simp)]
    show ((_ : Array Obj).push _)[_]? = _
    rw [Array.getElem?_push, if_pos (by simp)]
  · show ((_ : Array Obj).push _)[_]? = _
    rw [Array.getElem?_push, if_pos (by simp)]

theorem own_ne {w : World} {B k n b : Nat} {e t : TypeId} {s : Value} {xs : List Value} {cs : Array Value} {fr : Nat × Nat} (h : w.ownsRow B e k s n xs) (hb : w.heap[b]? = some (.cells cs t fr)) (hne : t ≠ e) : s.ownBlock ≠ some b := by
  intro hs
  rcases h.2 with ⟨rfl, -⟩ | ⟨g, cap, cur, rfl, -, hg, -⟩
  · cases hs
  · have : g = b := by simpa [Value.ownBlock] using hs
    subst this
    rw [hg] at hb
    exact hne (by injection hb with hb; injection hb with h1 h2 h3; exact h2.symm)
theorem own_set {w : World} {B k n : Nat} {e : TypeId} {s : Value} {xs : List Value} (h : w.ownsRow B e k s n xs) {p : Addr} (hne : s.ownBlock ≠ some p.block) (u : Value) : (w.setCell p u).ownsRow B e k s n xs := by
  refine ⟨h.1, ?_⟩
  rcases h.2 with h2 | ⟨g, cap, cur, rfl, h3, hg, h4⟩
  · exact .inl h2
  · refine .inr ⟨g, cap, cur, rfl, h3, ?_, h4⟩
    rw [Below.heap_setCell _ _ _ _ (fun e => hne (by rw [e]; rfl))]
    exact hg
theorem own_drew {w : World} {B k n : Nat} {e : TypeId} {s : Value} {xs : List Value} (h : w.ownsRow B e k s n xs) : w.drew.ownsRow B e k s n xs := h

abbrev cmdC (c : Cmd) : Obj := .cells #[.int .i64 c.k, .string c.key, .string c.fld, .string c.txt, .int .i64 c.n] 28

set_option maxHeartbeats 8000000 in
theorem hash_del (x : Val) (c : Cmd) (p : Nat) (hk : c.k = 6) (hm : x.pairs.length ≤ 1048576) (hi : x.items = []) (hs : x.scores = []) (hp : Parts (fun q : ByteArray × ByteArray => cmpS q.1 c.fld) x.pairs p) (hpl : p < x.pairs.length) (hh : hitB (fun q : ByteArray × ByteArray => cmpS q.1 c.fld) x.pairs p = true) :
    Does 96 x c { x with pairs := x.pairs.take p ++ x.pairs.drop (p + 1) } { n := 1 } := by
  intro B N W ps is ss hBN hN ho op oi os
  obtain rfl := ho.i.2 hi
  obtain rfl := ho.s.2 hs
  have hps := ho.p.1
  obtain ⟨pa, pc, rfl⟩ := ownsRow_shape hps
  have n4 : (c.k == 4) = false := by simp [hk]
  have n5 : (c.k == 5) = false := by simp [hk]
  have hb0 : Below W.heap.size W ((((W.alloc (valO x.kind x.text x.count (.slice pa x.pairs.length pc) (.slice none 0 0) (.slice none 0 0))).alloc (cmdC c)).alloc (valO 0 ⟨#[]⟩ 0 (.slice none 0 0) (.slice none 0 0) (.slice none 0 0))).alloc (repO 0 ⟨#[]⟩ 0 (.slice none 0 0))) := (((balloc W _).alloc (by simp) _).alloc (by simp; omega) _).alloc (by simp; omega) _
  have hBS := bsearchP 130 #[] c.fld (fun q => cmpS q.1 c.fld) pairCmp_enter (.slice pa x.pairs.length pc) x.pairs p _ ((RowAt.ofOwn lenP hps (by omega)).below hb0) (pairCmp_of c.fld _) hp
  rw [hh] at hBS
  clear hp hh hk
  go_enter Tryz.func96, Tryz.ntmps96
  go_wp2_with fail
  refine hBS.mono ?_
  rintro e w1 ⟨rfl, hb1⟩
  obtain ⟨n0, n1, n2, n3, -, hz0⟩ := four_at W (valO x.kind x.text x.count (.slice pa x.pairs.length pc) (.slice none 0 0) (.slice none 0 0)) (cmdC c) (valO 0 ⟨#[]⟩ 0 (.slice none 0 0) (.slice none 0 0) (.slice none 0 0)) (repO 0 ⟨#[]⟩ 0 (.slice none 0 0))
  have hB1 := bstep hb0 hb1
  have sz1 : W.heap.size + 4 ≤ w1.heap.size := by rw [← hz0]; exact hb1.size
  have m0 := (hb1.block W.heap.size (by omega)).trans n0
  have m1 := (hb1.block (W.heap.size + 1) (by omega)).trans n1
  have m2 := (hb1.block (W.heap.size + 1 + 1) (by omega)).trans n2
  have m3 := (hb1.block (W.heap.size + 1 + 1 + 1) (by omega)).trans n3
  clear n0 n1 n2 n3 hb1 hBS hz0 hb0
  obtain ⟨c0, f0⟩ := block_cells m0
  obtain ⟨c1, f1⟩ := block_cells m1
  have hw : IntKind.i64.wrap ((p : Int) + 1) = (p : Int) + 1 := by rw [IntKind.wrap_i64]; omega
  go_wp2_with fail
  refine (deleteP_any B p _ x.pairs w1 (ho.p.kept hB1).1 hpl hm).mono ?_
  rintro e w2 ⟨r, rfl, ho2, hg2, hrb⟩
  obtain ⟨a2, c2, rfl⟩ := ownsRow_shape ho2
  have hnb : ∀ k, W.heap.size ≤ k → some k ≠ (Value.slice pa x.pairs.length pc).ownBlock := fun k hk e => by have := op _ e.symm; omega
  have hK : Keeps B N W w2 := (Keeps.ofBelow hB1).trans (Keeps.grown hg2 (fun k hk => ⟨((ho.p.kept hB1).1.lt k hk).1, op k hk⟩))
  have sz2 := hg2.size
  have k0 := (hg2.block W.heap.size (by omega) (hnb _ (by omega))).trans m0
  have k2 := (hg2.block (W.heap.size + 1 + 1) (by omega) (hnb _ (by omega))).trans m2
  have k3 := (hg2.block (W.heap.size + 1 + 1 + 1) (by omega) (hnb _ (by omega))).trans m3
  have e0 := own_ne ho2 k0 (by decide)
  have e2 := own_ne ho2 k2 (by decide)
  have e3 := own_ne ho2 k3 (by decide)
  have hlen : (x.pairs.take p ++ x.pairs.drop (p + 1)).length = x.pairs.length - 1 := by simp; omega
  have HO : Hid (w2.ownsRow B 67 2 (.slice a2 (x.pairs.length - 1) c2) (x.pairs.take p ++ x.pairs.drop (p + 1)).length ((x.pairs.take p ++ x.pairs.drop (p + 1)).flatMap encP)) := (by rw [hlen]; exact ho2 : w2.ownsRow B 67 2 (.slice a2 (x.pairs.length - 1) c2) (x.pairs.take p ++ x.pairs.drop (p + 1)).length ((x.pairs.take p ++ x.pairs.drop (p + 1)).flatMap encP))
  have HE : Hid ((Value.slice a2 (x.pairs.length - 1) c2).ownBlock ≠ some W.heap.size ∧ (Value.slice a2 (x.pairs.length - 1) c2).ownBlock ≠ some (W.heap.size + 1 + 1) ∧ (Value.slice a2 (x.pairs.length - 1) c2).ownBlock ≠ some (W.heap.size + 1 + 1 + 1)) := ⟨e0, e2, e3⟩
  have HK : Hid (Keeps B N W w2) := hK
  have HIN : Hid (In B N W.heap.size (.slice a2 (x.pairs.length - 1) c2)) := (fun k hk => ⟨(ho2.lt k hk).1, .inl (op k (hrb ▸ hk))⟩ : In B N W.heap.size (.slice a2 (x.pairs.length - 1) c2))
  have HL : Hid ((x.pairs.take p ++ x.pairs.drop (p + 1)).length ≤ 140737488355328) := (by rw [hlen]; omega : (x.pairs.take p ++ x.pairs.drop (p + 1)).length ≤ 140737488355328)
  clear m0 m1 m2 m3 c0 f0 c1 f1 hg2 hnb hK e0 e2 e3 ho2 hlen hps hrb
  obtain ⟨c0, f0⟩ := block_cells k0
  obtain ⟨c2', f2⟩ := block_cells k2
  obtain ⟨c3, f3⟩ := block_cells k3
  clear k0 k2 k3
  have q0 : W.heap.size < w2.heap.size := by omega
  go_wp2_with fail
  go_region_with (go_at_call 133; refine (number_any _ _).mono ?_; rintro e w3 ⟨rfl, rfl⟩)
  all_goals
    go_wp2_with fail
    refine bodyPost_ret (v := .tuple #[valV x.kind x.text x.count (.slice a2 (x.pairs.length - 1) c2) (.slice none 0 0) (.slice none 0 0), repV 0 ⟨#[]⟩ 1 (.slice none 0 0)]) (by simp [results, Tryz.results96, go_sem, c2', c3]) rfl ⟨_, _, rfl, ⟨_, _, _, rfl, ⟨RowAt.ofOwn lenP (base := B) (e := 67) ?_ HL.out, (by show RowAt 1 encI _ (.slice none 0 0) x.items; rw [hi]; exact RowAt.nil _ _ _), (by show RowAt 2 encS _ (.slice none 0 0) x.scores; rw [hs]; exact RowAt.nil _ _ _)⟩, ?_, In.nil _ _ _, In.nil _ _ _⟩, ⟨_, rfl, RowAt.nil _ _ _, In.nil _ _ _⟩, ?_⟩
    · refine own_drew ?_
      (iterate 11 (refine own_set ?_ (by first | exact HE.out.1 | exact HE.out.2.1 | exact HE.out.2.2) _))
      exact HO.out
    · exact HIN.out
    · refine Keeps.drew ?_
      (iterate 11 (refine Keeps.setCell ?_ (by first | omega | (simp <;> omega)) _))
      exact HK.out
set_option maxHeartbeats 8000000 in
theorem set_del (x : Val) (c : Cmd) (p : Nat) (hk : c.k = 12) (hm : x.items.length ≤ 1048576) (hi : x.pairs = []) (hs : x.scores = []) (hp : Parts (fun q : ByteArray => cmpS q c.txt) x.items p) (hpl : p < x.items.length) (hh : hitB (fun q : ByteArray => cmpS q c.txt) x.items p = true) :
    Does 98 x c { x with items := x.items.take p ++ x.items.drop (p + 1) } { n := 1 } := by
  intro B N W ps is ss hBN hN ho op oi os
  obtain rfl := ho.p.2 hi
  obtain rfl := ho.s.2 hs
  have hps := ho.i.1
  obtain ⟨pa, pc, rfl⟩ := ownsRow_shape hps
  have n4 : (c.k == 11) = false := by simp [hk]
  have n5 : (c.k == 12) = true := by simp [hk]
  have hb0 : Below W.heap.size W ((((W.alloc (valO x.kind x.text x.count (.slice none 0 0) (.slice pa x.items.length pc) (.slice none 0 0))).alloc (cmdC c)).alloc (valO 0 ⟨#[]⟩ 0 (.slice none 0 0) (.slice none 0 0) (.slice none 0 0))).alloc (repO 0 ⟨#[]⟩ 0 (.slice none 0 0))) := (((balloc W _).alloc (by simp) _).alloc (by simp; omega) _).alloc (by simp; omega) _
  have hBS := bsearchI c.txt (.slice pa x.items.length pc) x.items p _ ((RowAt.ofOwn lenI hps (by omega)).below hb0) hp
  rw [hh] at hBS
  clear hp hh hk
  go_enter Tryz.func98, Tryz.ntmps98
  go_wp2_with fail
  refine hBS.mono ?_
  rintro e w1 ⟨rfl, hb1⟩
  obtain ⟨n0, n1, n2, n3, -, hz0⟩ := four_at W (valO x.kind x.text x.count (.slice none 0 0) (.slice pa x.items.length pc) (.slice none 0 0)) (cmdC c) (valO 0 ⟨#[]⟩ 0 (.slice none 0 0) (.slice none 0 0) (.slice none 0 0)) (repO 0 ⟨#[]⟩ 0 (.slice none 0 0))
  have hB1 := bstep hb0 hb1
  have sz1 : W.heap.size + 4 ≤ w1.heap.size := by rw [← hz0]; exact hb1.size
  have m0 := (hb1.block W.heap.size (by omega)).trans n0
  have m1 := (hb1.block (W.heap.size + 1) (by omega)).trans n1
  have m2 := (hb1.block (W.heap.size + 1 + 1) (by omega)).trans n2
  have m3 := (hb1.block (W.heap.size + 1 + 1 + 1) (by omega)).trans n3
  clear n0 n1 n2 n3 hb1 hBS hz0 hb0
  obtain ⟨c0, f0⟩ := block_cells m0
  obtain ⟨c1, f1⟩ := block_cells m1
  have hw : IntKind.i64.wrap ((p : Int) + 1) = (p : Int) + 1 := by rw [IntKind.wrap_i64]; omega
  go_wp2_with fail
  refine (deleteI_any B p _ x.items w1 (ho.i.kept hB1).1 hpl hm).mono ?_
  rintro e w2 ⟨r, rfl, ho2, hg2, hrb⟩
  obtain ⟨a2, c2, rfl⟩ := ownsRow_shape ho2
  have hnb : ∀ k, W.heap.size ≤ k → some k ≠ (Value.slice pa x.items.length pc).ownBlock := fun k hk e => by have := oi _ e.symm; omega
  have hK : Keeps B N W w2 := (Keeps.ofBelow hB1).trans (Keeps.grown hg2 (fun k hk => ⟨((ho.i.kept hB1).1.lt k hk).1, oi k hk⟩))
  have sz2 := hg2.size
  have k0 := (hg2.block W.heap.size (by omega) (hnb _ (by omega))).trans m0
  have k2 := (hg2.block (W.heap.size + 1 + 1) (by omega) (hnb _ (by omega))).trans m2
  have k3 := (hg2.block (W.heap.size + 1 + 1 + 1) (by omega) (hnb _ (by omega))).trans m3
  have e0 := own_ne ho2 k0 (by decide)
  have e2 := own_ne ho2 k2 (by decide)
  have e3 := own_ne ho2 k3 (by decide)
  have hlen : (x.items.take p ++ x.items.drop (p + 1)).length = x.items.length - 1 := by simp; omega
  have HO : Hid (w2.ownsRow B 9 1 (.slice a2 (x.items.length - 1) c2) (x.items.take p ++ x.items.drop (p + 1)).length ((x.items.take p ++ x.items.drop (p + 1)).flatMap encI)) := (by rw [hlen]; exact ho2 : w2.ownsRow B 9 1 (.slice a2 (x.items.length - 1) c2) (x.items.take p ++ x.items.drop (p + 1)).length ((x.items.take p ++ x.items.drop (p + 1)).flatMap encI))
  have HE : Hid ((Value.slice a2 (x.items.length - 1) c2).ownBlock ≠ some W.heap.size ∧ (Value.slice a2 (x.items.length - 1) c2).ownBlock ≠ some (W.heap.size + 1 + 1) ∧ (Value.slice a2 (x.items.length - 1) c2).ownBlock ≠ some (W.heap.size + 1 + 1 + 1)) := ⟨e0, e2, e3⟩
  have HK : Hid (Keeps B N W w2) := hK
  have HIN : Hid (In B N W.heap.size (.slice a2 (x.items.length - 1) c2)) := (fun k hk => ⟨(ho2.lt k hk).1, .inl (oi k (hrb ▸ hk))⟩ : In B N W.heap.size (.slice a2 (x.items.length - 1) c2))
  have HL : Hid ((x.items.take p ++ x.items.drop (p + 1)).length ≤ 140737488355328) := (by rw [hlen]; omega : (x.items.take p ++ x.items.drop (p + 1)).length ≤ 140737488355328)
  clear m0 m1 m2 m3 c0 f0 c1 f1 hg2 hnb hK e0 e2 e3 ho2 hlen hps hrb
  obtain ⟨c0, f0⟩ := block_cells k0
  obtain ⟨c2', f2⟩ := block_cells k2
  obtain ⟨c3, f3⟩ := block_cells k3
  clear k0 k2 k3
  have q0 : W.heap.size < w2.heap.size := by omega
  go_wp2_with fail
  go_region_with (go_at_call 133; refine (number_any _ _).mono ?_; rintro e w3 ⟨rfl, rfl⟩)
  all_goals
    go_wp2_with fail
    refine bodyPost_ret (v := .tuple #[valV x.kind x.text x.count (.slice none 0 0) (.slice a2 (x.items.length - 1) c2) (.slice none 0 0), repV 0 ⟨#[]⟩ 1 (.slice none 0 0)]) (by simp [results, Tryz.results98, go_sem, c2', c3]) rfl ⟨_, _, rfl, ⟨_, _, _, rfl, ⟨(by show RowAt 2 encP _ (.slice none 0 0) x.pairs; rw [hi]; exact RowAt.nil _ _ _), RowAt.ofOwn lenI (base := B) (e := 9) ?_ HL.out, (by show RowAt 2 encS _ (.slice none 0 0) x.scores; rw [hs]; exact RowAt.nil _ _ _)⟩, In.nil _ _ _, ?_, In.nil _ _ _⟩, ⟨_, rfl, RowAt.nil _ _ _, In.nil _ _ _⟩, ?_⟩
    · refine own_drew ?_
      (iterate 11 (refine own_set ?_ (by first | exact HE.out.1 | exact HE.out.2.1 | exact HE.out.2.2) _))
      exact HO.out
    · exact HIN.out
    · refine Keeps.drew ?_
      (iterate 11 (refine Keeps.setCell ?_ (by first | omega | (simp <;> omega)) _))
      exact HK.out
end Go.Proofs.YtfnephnecighaaaGreat

/- What is taken from a value's own lists: a text from an end, a member. -/
namespace Go.Proofs.YtfnephnecighaaaGreat
open Go.RowKit
set_option linter.unusedVariables false

theorem three_at (w : World) (o0 o1 o2 : Obj) : (((w.alloc o0).alloc o1).alloc o2).heap[w.heap.size]? = some o0 ∧ (((w.alloc o0).alloc o1).alloc o2).heap[w.heap.size + 1]? = some o1 ∧
    (((w.alloc o0).alloc o1).alloc o2).heap[w.heap.size + 1 + 1]? = some o2 ∧ Below w.heap.size w (((w.alloc o0).alloc o1).alloc o2) ∧ (((w.alloc o0).alloc o1).alloc o2).heap.size = w.heap.size + 3 := by
  refine ⟨?_, ?_, ?_, ((balloc w _).alloc (by simp) _).alloc (by simp; omega) _, by simp⟩
  · rw [Below.heap_alloc _ _ _ (by simp; omega), Below.heap_alloc _ _ _ (by simp)]
    show ((_ : Array Obj).push _)[_]? = _
    simp
  · rw [Below.heap_alloc _ _ _ (by simp)]
    show ((_ : Array Obj).push _)[_]? = _
    rw [Array.getElem?_push, if_pos (by simp)]
  · show ((_ : Array Obj).push _)[_]? = _
    rw [Array.getElem?_push, if_pos (by simp)]

set_option maxHeartbeats 8000000 in
theorem removeItem_at (x : Val) (i : Nat) (hm : x.items.length ≤ 1048576) (hi : x.pairs = []) (hs : x.scores = []) (hl : i < x.items.length) (B N : Nat) (W : World) (ps is ss : Value) (hBN : B ≤ N) (hN : N ≤ W.heap.size) (ho : OwnLists B W ps is ss x) (oi : OwnIn N is) :
    Calls Tryz.prog 135 #[valV x.kind x.text x.count ps is ss, .int .i64 (i : Int)] W fun e w' => ∃ v u, e = .returned (.tuple #[v, u]) ∧ RepsA B N W.heap.size w' v { x with items := x.items.take i ++ x.items.drop (i + 1) } ∧ RepRA B N W.heap.size w' u { text := x.items[i] } ∧ Keeps B N W w' := by
  obtain rfl := ho.p.2 hi
  obtain rfl := ho.s.2 hs
  have hps := ho.i.1
  obtain ⟨g, pc, S, rfl, hgB, hgb, hc1, hc2, hc3⟩ := own_open hps (by omega)
  obtain ⟨n0, n1, n2, hb0, hz0⟩ := three_at W (valO x.kind x.text x.count (.slice none 0 0) (.slice (some ⟨g, 0, none⟩) x.items.length pc) (.slice none 0 0)) (valO 0 ⟨#[]⟩ 0 (.slice none 0 0) (.slice none 0 0) (.slice none 0 0)) (repO 0 ⟨#[]⟩ 0 (.slice none 0 0))
  have hgl : g < W.heap.size := (Array.getElem?_eq_some_iff.1 hgb).1
  have cI : (((W.alloc (valO x.kind x.text x.count (.slice none 0 0) (.slice (some ⟨g, 0, none⟩) x.items.length pc) (.slice none 0 0))).alloc (valO 0 ⟨#[]⟩ 0 (.slice none 0 0) (.slice none 0 0) (.slice none 0 0))).alloc (repO 0 ⟨#[]⟩ 0 (.slice none 0 0))).cell? ⟨g, i, none⟩ = some (.string x.items[i]) := by
    rw [World.cell?_of_block (a := ⟨g, i, none⟩) (hb0.block g hgl), (block_cells hgb).1 i]
    have := flat_get 1 encI lenI x.items i hl 0 (by omega)
    simp only [Nat.mul_one, Nat.add_zero, encI, List.getElem?_cons_zero] at this
    rw [List.getElem?_toArray, List.getElem?_append_left (by rw [flat_length lenI]; omega)]
    exact this
  have hown := (ho.i.kept hb0).1
  have hil : (i : Int) < (x.items.length : Int) := by omega
  have hi0 : (0 : Int) ≤ (i : Int) := by omega
  have hw : IntKind.i64.wrap ((i : Int) + 1) = (i : Int) + 1 := by rw [IntKind.wrap_i64]; omega
  have HOW : Hid (World.ownsRow (((W.alloc (valO x.kind x.text x.count (.slice none 0 0) (.slice (some ⟨g, 0, none⟩) x.items.length pc) (.slice none 0 0))).alloc (valO 0 ⟨#[]⟩ 0 (.slice none 0 0) (.slice none 0 0) (.slice none 0 0))).alloc (repO 0 ⟨#[]⟩ 0 (.slice none 0 0))) B 9 1 (.slice (some ⟨g, 0, none⟩) x.items.length pc) x.items.length (x.items.flatMap encI)) := hown
  clear hown hps hgb hc3
  go_enter Tryz.func135, Tryz.ntmps135
  go_wp2_with fail
  generalize ((W.alloc (valO x.kind x.text x.count (.slice none 0 0) (.slice (some ⟨g, 0, none⟩) x.items.length pc) (.slice none 0 0))).alloc (valO 0 ⟨#[]⟩ 0 (.slice none 0 0) (.slice none 0 0) (.slice none 0 0))).alloc (repO 0 ⟨#[]⟩ 0 (.slice none 0 0)) = W0 at n0 n1 n2 hb0 hz0 HOW ⊢
  clear cI
  refine (deleteI_any B i _ x.items W0 HOW.out hl hm).mono ?_
  rintro e w2 ⟨r, rfl, ho2, hg2, hrb⟩
  obtain ⟨a2, c2, rfl⟩ := ownsRow_shape ho2
  have hnb : ∀ k, W.heap.size ≤ k → some k ≠ (Value.slice (some ⟨g, 0, none⟩) x.items.length pc).ownBlock := fun k hk e => by have := oi _ e.symm; omega
  have hK : Keeps B N W w2 := (Keeps.ofBelow hb0).trans (Keeps.grown hg2 (fun k hk => ⟨(HOW.out.lt k hk).1, oi k hk⟩))
  have sz2 := hg2.size
  have k0 := (hg2.block W.heap.size (by omega) (hnb _ (by omega))).trans n0
  have k2 := (hg2.block (W.heap.size + 1) (by omega) (hnb _ (by omega))).trans n1
  have k3 := (hg2.block (W.heap.size + 1 + 1) (by omega) (hnb _ (by omega))).trans n2
  have e0 := own_ne ho2 k0 (by decide)
  have e2 := own_ne ho2 k2 (by decide)
  have e3 := own_ne ho2 k3 (by decide)
  have hlen : (x.items.take i ++ x.items.drop (i + 1)).length = x.items.length - 1 := by simp; omega
  have HO : Hid (w2.ownsRow B 9 1 (.slice a2 (x.items.length - 1) c2) (x.items.take i ++ x.items.drop (i + 1)).length ((x.items.take i ++ x.items.drop (i + 1)).flatMap encI)) := (by rw [hlen]; exact ho2 : w2.ownsRow B 9 1 (.slice a2 (x.items.length - 1) c2) (x.items.take i ++ x.items.drop (i + 1)).length ((x.items.take i ++ x.items.drop (i + 1)).flatMap encI))
  have HE : Hid ((Value.slice a2 (x.items.length - 1) c2).ownBlock ≠ some W.heap.size ∧ (Value.slice a2 (x.items.length - 1) c2).ownBlock ≠ some (W.heap.size + 1) ∧ (Value.slice a2 (x.items.length - 1) c2).ownBlock ≠ some (W.heap.size + 1 + 1)) := ⟨e0, e2, e3⟩
  have HK : Hid (Keeps B N W w2) := hK
  have HIN : Hid (In B N W.heap.size (.slice a2 (x.items.length - 1) c2)) := (fun k hk => ⟨(ho2.lt k hk).1, .inl (oi k (hrb ▸ hk))⟩ : In B N W.heap.size (.slice a2 (x.items.length - 1) c2))
  have HL : Hid ((x.items.take i ++ x.items.drop (i + 1)).length ≤ 140737488355328) := (by rw [hlen]; omega : (x.items.take i ++ x.items.drop (i + 1)).length ≤ 140737488355328)
  clear n0 n1 n2 hg2 hnb hK e0 e2 e3 ho2 hlen HOW hrb
  obtain ⟨c0, f0⟩ := block_cells k0
  obtain ⟨c2', f2⟩ := block_cells k2
  obtain ⟨c3, f3⟩ := block_cells k3
  clear k0 k2 k3
  have q0 : W.heap.size < w2.heap.size := by omega
  go_wp2_with fail
  refine bodyPost_ret (v := .tuple #[valV x.kind x.text x.count (.slice none 0 0) (.slice a2 (x.items.length - 1) c2) (.slice none 0 0), repV 0 x.items[i] 0 (.slice none 0 0)]) (by simp [results, Tryz.results135, go_sem, c2', c3]) rfl
    ⟨_, _, rfl, ⟨_, _, _, rfl, ⟨(by show RowAt 2 encP _ (.slice none 0 0) x.pairs; rw [hi]; exact RowAt.nil _ _ _), RowAt.ofOwn lenI (base := B) (e := 9) ?_ HL.out, (by show RowAt 2 encS _ (.slice none 0 0) x.scores; rw [hs]; exact RowAt.nil _ _ _)⟩, In.nil _ _ _, ?_, In.nil _ _ _⟩, ⟨_, rfl, RowAt.nil _ _ _, In.nil _ _ _⟩, ?_⟩
  · (iterate 11 (refine own_set ?_ (by first | exact HE.out.1 | exact HE.out.2.1 | exact HE.out.2.2) _))
    exact HO.out
  · exact HIN.out
  · (iterate 11 (refine Keeps.setCell ?_ (by first | omega | (simp <;> omega)) _))
    exact HK.out

set_option maxHeartbeats 4000000 in
theorem list_pop (x : Val) (c : Cmd) (hk : c.k = 9) (hm : x.items.length ≤ 1048576) (hi : x.pairs = []) (hs : x.scores = []) (hl : 0 < x.items.length) :
    Does 97 x c { x with items := x.items.take (x.items.length - 1) ++ x.items.drop (x.items.length - 1 + 1) } { text := x.items[x.items.length - 1]'(by omega) } := by
  intro B N W ps is ss hBN hN ho op oi os
  have n7 : (c.k == 7) = false := (by simp [hk]); have n8 : (c.k == 8) = false := (by simp [hk]); have n9 : (c.k == 9) = true := (by simp [hk])
  have hlt : x.items.length - 1 < x.items.length := by omega
  obtain rfl := ho.p.2 hi
  obtain rfl := ho.s.2 hs
  obtain ⟨ia, ic, rfl⟩ := ownsRow_shape ho.i.1
  obtain ⟨n0, n1, n2, n3, hb0, hz0⟩ := four_at W (valO x.kind x.text x.count (.slice none 0 0) (.slice ia x.items.length ic) (.slice none 0 0)) (cmdC c) (valO 0 ⟨#[]⟩ 0 (.slice none 0 0) (.slice none 0 0) (.slice none 0 0)) (repO 0 ⟨#[]⟩ 0 (.slice none 0 0))
  have hR := removeItem_at x (x.items.length - 1) hm hi hs hlt B N _ _ _ _ hBN (Nat.le_trans hN hb0.size) (ho.kept hb0) oi
  have hw : IntKind.i64.wrap ((x.items.length : Int) - 1) = ((x.items.length - 1 : Nat) : Int) := by rw [IntKind.wrap_i64]; omega
  clear hk ho hi hs
  go_enter Tryz.func97, Tryz.ntmps97
  go_wp2_with fail
  refine hR.mono ?_
  rintro e w2 ⟨v2, u2, rfl, hr2, hu2, hK2⟩
  generalize hY : ({ x with items := x.items.take (x.items.length - 1) ++ x.items.drop (x.items.length - 1 + 1) } : Val) = y at hr2
  have HY : Hid (({ x with items := x.items.take (x.items.length - 1) ++ x.items.drop (x.items.length - 1 + 1) } : Val) = y) := hY
  clear hY
  obtain ⟨pa2, pc2, ia2, ic2, sa2, sc2, rfl⟩ := hr2.repsF.reps.shapes
  obtain ⟨la2, lc2, rfl⟩ := hu2.repRF.rep.shapes
  have k2 := (hK2.block (W.heap.size + 1 + 1) (by omega) (.inr (by omega))).trans n2
  have k3 := (hK2.block (W.heap.size + 1 + 1 + 1) (by omega) (.inr (by omega))).trans n3
  have sz2 := hK2.size
  have hK : Keeps B N W w2 := (Keeps.ofBelow hb0).trans hK2
  have HK : Hid (Keeps B N W w2) := hK
  clear n0 n1 n2 n3 hR hK2 hK
  obtain ⟨c2, f2⟩ := block_cells k2
  obtain ⟨c3, f3⟩ := block_cells k3
  clear k2 k3
  go_wp2_with fail
  refine bodyPost_ret (v := .tuple #[_, _]) (by simp [results, Tryz.results97, go_sem, c2, c3]; exact ⟨rfl, rfl⟩) rfl ⟨_, _, rfl, ?_, ?_, ?_⟩
  · rw [HY.out]
    refine RepsA.mono (N := N) ?_ (Nat.le_refl _) (show W.heap.size ≤ _ from hb0.size)
    (iterate 10 (refine RepsA.set ?_ (by first | omega | (simp <;> omega)) (by first | omega | (simp <;> omega)) _))
    exact hr2
  · refine RepRA.mono (N := N) ?_ (Nat.le_refl _) (show W.heap.size ≤ _ from hb0.size)
    (iterate 10 (refine RepRA.set ?_ (by first | omega | (simp <;> omega)) (by first | omega | (simp <;> omega)) _))
    exact hu2
  · (iterate 10 (refine Keeps.setCell ?_ (by first | omega | (simp <;> omega)) _))
    exact HK.out
set_option maxHeartbeats 4000000 in
theorem list_shift (x : Val) (c : Cmd) (hk : c.k = 10) (hm : x.items.length ≤ 1048576) (hi : x.pairs = []) (hs : x.scores = []) (hl : 0 < x.items.length) :
    Does 97 x c { x with items := x.items.take (0) ++ x.items.drop (0 + 1) } { text := x.items[0]'(by omega) } := by
  intro B N W ps is ss hBN hN ho op oi os
  have n7 : (c.k == 7) = false := (by simp [hk]); have n8 : (c.k == 8) = false := (by simp [hk]); have n9 : (c.k == 9) = false := (by simp [hk])
  have hlt : 0 < x.items.length := by omega
  obtain rfl := ho.p.2 hi
  obtain rfl := ho.s.2 hs
  obtain ⟨ia, ic, rfl⟩ := ownsRow_shape ho.i.1
  obtain ⟨n0, n1, n2, n3, hb0, hz0⟩ := four_at W (valO x.kind x.text x.count (.slice none 0 0) (.slice ia x.items.length ic) (.slice none 0 0)) (cmdC c) (valO 0 ⟨#[]⟩ 0 (.slice none 0 0) (.slice none 0 0) (.slice none 0 0)) (repO 0 ⟨#[]⟩ 0 (.slice none 0 0))
  have hR := removeItem_at x (0) hm hi hs hlt B N _ _ _ _ hBN (Nat.le_trans hN hb0.size) (ho.kept hb0) oi
  have hw : IntKind.i64.wrap ((x.items.length : Int) - 1) = ((x.items.length - 1 : Nat) : Int) := by rw [IntKind.wrap_i64]; omega
  clear hk ho hi hs
  go_enter Tryz.func97, Tryz.ntmps97
  go_wp2_with fail
  refine hR.mono ?_
  rintro e w2 ⟨v2, u2, rfl, hr2, hu2, hK2⟩
  generalize hY : ({ x with items := x.items.take (0) ++ x.items.drop (0 + 1) } : Val) = y at hr2
  have HY : Hid (({ x with items := x.items.take (0) ++ x.items.drop (0 + 1) } : Val) = y) := hY
  clear hY
  obtain ⟨pa2, pc2, ia2, ic2, sa2, sc2, rfl⟩ := hr2.repsF.reps.shapes
  obtain ⟨la2, lc2, rfl⟩ := hu2.repRF.rep.shapes
  have k2 := (hK2.block (W.heap.size + 1 + 1) (by omega) (.inr (by omega))).trans n2
  have k3 := (hK2.block (W.heap.size + 1 + 1 + 1) (by omega) (.inr (by omega))).trans n3
  have sz2 := hK2.size
  have hK : Keeps B N W w2 := (Keeps.ofBelow hb0).trans hK2
  have HK : Hid (Keeps B N W w2) := hK
  clear n0 n1 n2 n3 hR hK2 hK
  obtain ⟨c2, f2⟩ := block_cells k2
  obtain ⟨c3, f3⟩ := block_cells k3
  clear k2 k3
  go_wp2_with fail
  refine bodyPost_ret (v := .tuple #[_, _]) (by simp [results, Tryz.results97, go_sem, c2, c3]; exact ⟨rfl, rfl⟩) rfl ⟨_, _, rfl, ?_, ?_, ?_⟩
  · rw [HY.out]
    refine RepsA.mono (N := N) ?_ (Nat.le_refl _) (show W.heap.size ≤ _ from hb0.size)
    (iterate 10 (refine RepsA.set ?_ (by first | omega | (simp <;> omega)) (by first | omega | (simp <;> omega)) _))
    exact hr2
  · refine RepRA.mono (N := N) ?_ (Nat.le_refl _) (show W.heap.size ≤ _ from hb0.size)
    (iterate 10 (refine RepRA.set ?_ (by first | omega | (simp <;> omega)) (by first | omega | (simp <;> omega)) _))
    exact hu2
  · (iterate 10 (refine Keeps.setCell ?_ (by first | omega | (simp <;> omega)) _))
    exact HK.out
end Go.Proofs.YtfnephnecighaaaGreat

/- What is put into a value's own list of texts, at a place. -/
namespace Go.Proofs.YtfnephnecighaaaGreat
open Go.RowKit
set_option linter.unusedVariables false

set_option maxHeartbeats 8000000 in
theorem insertItem_at (x : Val) (i : Nat) (t : ByteArray) (hm : x.size < 20) (hi : x.pairs = []) (hs : x.scores = []) (hl : i ≤ x.items.length) (B N : Nat) (W : World) (ps is ss : Value) (hBN : B ≤ N) (hN : N ≤ W.heap.size) (ho : OwnLists B W ps is ss x) (oi : OwnIn N is) :
    Calls Tryz.prog 134 #[valV x.kind x.text x.count ps is ss, .int .i64 (i : Int), .string t] W fun e w' => ∃ v u, e = .returned (.tuple #[v, u]) ∧ RepsA B N W.heap.size w' v { x with items := x.items.take i ++ t :: x.items.drop i } ∧ RepRA B N W.heap.size w' u { n := (x.items.length : Int) + 1 } ∧ Keeps B N W w' := by
  have hlen20 : x.items.length < 20 := by unfold Val.size at hm; omega
  have hrep : Reps W (valV x.kind x.text x.count ps is ss) x := ⟨_, _, _, rfl, ho.lists (by omega)⟩
  obtain rfl := ho.p.2 hi
  obtain rfl := ho.s.2 hs
  obtain ⟨ia, ic, rfl⟩ := ownsRow_shape ho.i.1
  obtain ⟨n0, n1, n2, hb0, hz0⟩ := three_at W (valO x.kind x.text x.count (.slice none 0 0) (.slice ia x.items.length ic) (.slice none 0 0)) (valO 0 ⟨#[]⟩ 0 (.slice none 0 0) (.slice none 0 0) (.slice none 0 0)) (repO 0 ⟨#[]⟩ 0 (.slice none 0 0))
  have hF := isFull_any _ x _ (hrep.below hb0)
  rw [show decide (20 ≤ x.size) = false by simp; omega] at hF
  have hownW := ho.i
  clear hrep ho
  go_enter Tryz.func134, Tryz.ntmps134
  go_wp2_with fail
  refine hF.mono ?_
  rintro e w1 ⟨rfl, hb1⟩
  have hB1 := bstep hb0 hb1
  have sz1 : W.heap.size + 3 ≤ w1.heap.size := by rw [← hz0]; exact hb1.size
  have m0 := (hb1.block W.heap.size (by omega)).trans n0
  have m1 := (hb1.block (W.heap.size + 1) (by omega)).trans n1
  have m2 := (hb1.block (W.heap.size + 1 + 1) (by omega)).trans n2
  have hw1 := (hownW.kept hB1).1
  clear n0 n1 n2 hb1 hF hz0 hb0
  obtain ⟨c0, f0⟩ := block_cells m0
  go_wp2_with fail
  have hnew : (w1.alloc (.cells #[.string t] 9)).heap[w1.heap.size]? = some (.cells #[.string t] 9 (0, 0)) := by show ((_ : Array Obj).push _)[_]? = _; simp
  have hwl := (hownW.kept (hB1.alloc hB1.size (.cells #[.string t] 9))).1
  have hI := insertI_any B i (.slice ia x.items.length ic) x.items t w1.heap.size (w1.alloc (.cells #[.string t] 9)) hwl (by simp; omega) hl (by omega) hnew (fun k hk e => by have := oi k hk; omega)
  refine hI.mono ?_
  rintro e w2 ⟨r, rfl, ho2, hg2, hrb⟩
  obtain ⟨a2, c2, rfl⟩ := ownsRow_shape ho2
  have hnb : ∀ k, W.heap.size ≤ k → some k ≠ (Value.slice ia x.items.length ic).ownBlock := fun k hk e => by have := oi _ e.symm; omega
  have hK : Keeps B N W w2 := (Keeps.ofBelow (hB1.alloc hB1.size (.cells #[.string t] 9))).trans (Keeps.grown hg2 (fun k hk => ⟨(hwl.lt k hk).1, oi k hk⟩))
  have sz2 : w1.heap.size + 1 ≤ w2.heap.size := by have := hg2.size; simp at this; omega
  have k0 := (hg2.block W.heap.size (by simp; omega) (hnb _ (by omega))).trans ((Below.heap_alloc _ _ _ (by omega)).trans m0)
  have k2 := (hg2.block (W.heap.size + 1) (by simp; omega) (hnb _ (by omega))).trans ((Below.heap_alloc _ _ _ (by omega)).trans m1)
  have k3 := (hg2.block (W.heap.size + 1 + 1) (by simp; omega) (hnb _ (by omega))).trans ((Below.heap_alloc _ _ _ (by omega)).trans m2)
  have e0 := own_ne ho2 k0 (by decide)
  have e2 := own_ne ho2 k2 (by decide)
  have e3 := own_ne ho2 k3 (by decide)
  have hlen : (x.items.take i ++ t :: x.items.drop i).length = x.items.length + 1 := by simp; omega
  have HIN : Hid (In B N W.heap.size (.slice a2 (x.items.length + 1) c2)) := (fun k hk => ⟨(ho2.lt k hk).1, by rcases hrb k hk with h | h; exact .inl (oi k h); exact .inr (by simp at h; omega)⟩ : In B N W.heap.size (.slice a2 (x.items.length + 1) c2))
  obtain ⟨L, hL⟩ : ∃ L, L = x.items.take i ++ t :: x.items.drop i := ⟨_, rfl⟩
  rw [← hL] at ho2 hlen
  have HLI : Hid (L = x.items.take i ++ t :: x.items.drop i) := hL
  have HO : Hid (w2.ownsRow B 9 1 (.slice a2 (x.items.length + 1) c2) L.length (L.flatMap encI)) := (by rw [hlen]; exact ho2 : w2.ownsRow B 9 1 (.slice a2 (x.items.length + 1) c2) L.length (L.flatMap encI))
  have HE : Hid ((Value.slice a2 (x.items.length + 1) c2).ownBlock ≠ some W.heap.size ∧ (Value.slice a2 (x.items.length + 1) c2).ownBlock ≠ some (W.heap.size + 1) ∧ (Value.slice a2 (x.items.length + 1) c2).ownBlock ≠ some (W.heap.size + 1 + 1)) := ⟨e0, e2, e3⟩
  have HK : Hid (Keeps B N W w2) := hK
  have HL : Hid (L.length ≤ 140737488355328) := (by rw [hlen]; omega : L.length ≤ 140737488355328)
  clear m0 m1 m2 c0 f0 hg2 hnb hK e0 e2 e3 ho2 hlen hrb hL hI hwl hw1 hownW hnew
  obtain ⟨c0, f0⟩ := block_cells k0
  obtain ⟨c2', f2⟩ := block_cells k2
  obtain ⟨c3, f3⟩ := block_cells k3
  clear k0 k2 k3
  have q0 : W.heap.size < w2.heap.size := by omega
  go_wp2_with fail
  go_region
  all_goals
    go_wp2_with fail
    refine bodyPost_ret (v := .tuple #[valV x.kind x.text x.count (.slice none 0 0) (.slice a2 (x.items.length + 1) c2) (.slice none 0 0), repV 0 ⟨#[]⟩ ((x.items.length : Int) + 1) (.slice none 0 0)]) (by simp [results, Tryz.results134, go_sem, c2', c3]) rfl ?_
    rw [← HLI.out]
    refine ⟨_, _, rfl, ⟨_, _, _, rfl, ⟨(by show RowAt 2 encP _ (.slice none 0 0) x.pairs; rw [hi]; exact RowAt.nil _ _ _), RowAt.ofOwn lenI (base := B) (e := 9) ?_ HL.out, (by show RowAt 2 encS _ (.slice none 0 0) x.scores; rw [hs]; exact RowAt.nil _ _ _)⟩, In.nil _ _ _, ?_, In.nil _ _ _⟩, ⟨_, rfl, RowAt.nil _ _ _, In.nil _ _ _⟩, ?_⟩
    · refine own_drew ?_
      (iterate 11 (refine own_set ?_ (by first | exact HE.out.1 | exact HE.out.2.1 | exact HE.out.2.2) _))
      exact HO.out
    · exact HIN.out
    · refine Keeps.drew ?_
      (iterate 11 (refine Keeps.setCell ?_ (by first | omega | (simp <;> omega)) _))
      exact HK.out
set_option maxHeartbeats 8000000 in
theorem addItem_at (x : Val) (i : Nat) (t : ByteArray) (hm : x.size < 20) (hi : x.pairs = []) (hs : x.scores = []) (hl : i ≤ x.items.length) (B N : Nat) (W : World) (ps is ss : Value) (hBN : B ≤ N) (hN : N ≤ W.heap.size) (ho : OwnLists B W ps is ss x) (oi : OwnIn N is) :
    Calls Tryz.prog 137 #[valV x.kind x.text x.count ps is ss, .int .i64 (i : Int), .bool false, .string t] W fun e w' => ∃ v u, e = .returned (.tuple #[v, u]) ∧ RepsA B N W.heap.size w' v { x with items := x.items.take i ++ t :: x.items.drop i } ∧ RepRA B N W.heap.size w' u { n := 1 } ∧ Keeps B N W w' := by
  have hlen20 : x.items.length < 20 := by unfold Val.size at hm; omega
  have hrep : Reps W (valV x.kind x.text x.count ps is ss) x := ⟨_, _, _, rfl, ho.lists (by omega)⟩
  obtain rfl := ho.p.2 hi
  obtain rfl := ho.s.2 hs
  obtain ⟨ia, ic, rfl⟩ := ownsRow_shape ho.i.1
  obtain ⟨n0, n1, n2, hb0, hz0⟩ := three_at W (valO x.kind x.text x.count (.slice none 0 0) (.slice ia x.items.length ic) (.slice none 0 0)) (valO 0 ⟨#[]⟩ 0 (.slice none 0 0) (.slice none 0 0) (.slice none 0 0)) (repO 0 ⟨#[]⟩ 0 (.slice none 0 0))
  have hF := isFull_any _ x _ (hrep.below hb0)
  rw [show decide (20 ≤ x.size) = false by simp; omega] at hF
  have hownW := ho.i
  clear hrep ho
  go_enter Tryz.func137, Tryz.ntmps137
  go_wp2_with fail
  refine hF.mono ?_
  rintro e w1 ⟨rfl, hb1⟩
  have hB1 := bstep hb0 hb1
  have sz1 : W.heap.size + 3 ≤ w1.heap.size := by rw [← hz0]; exact hb1.size
  have m0 := (hb1.block W.heap.size (by omega)).trans n0
  have m1 := (hb1.block (W.heap.size + 1) (by omega)).trans n1
  have m2 := (hb1.block (W.heap.size + 1 + 1) (by omega)).trans n2
  have hw1 := (hownW.kept hB1).1
  clear n0 n1 n2 hb1 hF hz0 hb0
  obtain ⟨c0, f0⟩ := block_cells m0
  go_wp2_with fail
  have hnew : (w1.alloc (.cells #[.string t] 9)).heap[w1.heap.size]? = some (.cells #[.string t] 9 (0, 0)) := by show ((_ : Array Obj).push _)[_]? = _; simp
  have hwl := (hownW.kept (hB1.alloc hB1.size (.cells #[.string t] 9))).1
  have hI := insertI_any B i (.slice ia x.items.length ic) x.items t w1.heap.size (w1.alloc (.cells #[.string t] 9)) hwl (by simp; omega) hl (by omega) hnew (fun k hk e => by have := oi k hk; omega)
  refine hI.mono ?_
  rintro e w2 ⟨r, rfl, ho2, hg2, hrb⟩
  obtain ⟨a2, c2, rfl⟩ := ownsRow_shape ho2
  have hnb : ∀ k, W.heap.size ≤ k → some k ≠ (Value.slice ia x.items.length ic).ownBlock := fun k hk e => by have := oi _ e.symm; omega
  have hK : Keeps B N W w2 := (Keeps.ofBelow (hB1.alloc hB1.size (.cells #[.string t] 9))).trans (Keeps.grown hg2 (fun k hk => ⟨(hwl.lt k hk).1, oi k hk⟩))
  have sz2 : w1.heap.size + 1 ≤ w2.heap.size := by have := hg2.size; simp at this; omega
  have k0 := (hg2.block W.heap.size (by simp; omega) (hnb _ (by omega))).trans ((Below.heap_alloc _ _ _ (by omega)).trans m0)
  have k2 := (hg2.block (W.heap.size + 1) (by simp; omega) (hnb _ (by omega))).trans ((Below.heap_alloc _ _ _ (by omega)).trans m1)
  have k3 := (hg2.block (W.heap.size + 1 + 1) (by simp; omega) (hnb _ (by omega))).trans ((Below.heap_alloc _ _ _ (by omega)).trans m2)
  have e0 := own_ne ho2 k0 (by decide)
  have e2 := own_ne ho2 k2 (by decide)
  have e3 := own_ne ho2 k3 (by decide)
  have hlen : (x.items.take i ++ t :: x.items.drop i).length = x.items.length + 1 := by simp; omega
  have HIN : Hid (In B N W.heap.size (.slice a2 (x.items.length + 1) c2)) := (fun k hk => ⟨(ho2.lt k hk).1, by rcases hrb k hk with h | h; exact .inl (oi k h); exact .inr (by simp at h; omega)⟩ : In B N W.heap.size (.slice a2 (x.items.length + 1) c2))
  obtain ⟨L, hL⟩ : ∃ L, L = x.items.take i ++ t :: x.items.drop i := ⟨_, rfl⟩
  rw [← hL] at ho2 hlen
  have HLI : Hid (L = x.items.take i ++ t :: x.items.drop i) := hL
  have HO : Hid (w2.ownsRow B 9 1 (.slice a2 (x.items.length + 1) c2) L.length (L.flatMap encI)) := (by rw [hlen]; exact ho2 : w2.ownsRow B 9 1 (.slice a2 (x.items.length + 1) c2) L.length (L.flatMap encI))
  have HE : Hid ((Value.slice a2 (x.items.length + 1) c2).ownBlock ≠ some W.heap.size ∧ (Value.slice a2 (x.items.length + 1) c2).ownBlock ≠ some (W.heap.size + 1) ∧ (Value.slice a2 (x.items.length + 1) c2).ownBlock ≠ some (W.heap.size + 1 + 1)) := ⟨e0, e2, e3⟩
  have HK : Hid (Keeps B N W w2) := hK
  have HL : Hid (L.length ≤ 140737488355328) := (by rw [hlen]; omega : L.length ≤ 140737488355328)
  clear m0 m1 m2 c0 f0 hg2 hnb hK e0 e2 e3 ho2 hlen hrb hL hI hwl hw1 hownW hnew
  obtain ⟨c0, f0⟩ := block_cells k0
  obtain ⟨c2', f2⟩ := block_cells k2
  obtain ⟨c3, f3⟩ := block_cells k3
  clear k0 k2 k3
  have q0 : W.heap.size < w2.heap.size := by omega
  go_wp2_with fail
  skip
  all_goals
    skip
    refine bodyPost_ret (v := .tuple #[valV x.kind x.text x.count (.slice none 0 0) (.slice a2 (x.items.length + 1) c2) (.slice none 0 0), repV 0 ⟨#[]⟩ (1) (.slice none 0 0)]) (by simp [results, Tryz.results137, go_sem, c2', c3]) rfl ?_
    rw [← HLI.out]
    refine ⟨_, _, rfl, ⟨_, _, _, rfl, ⟨(by show RowAt 2 encP _ (.slice none 0 0) x.pairs; rw [hi]; exact RowAt.nil _ _ _), RowAt.ofOwn lenI (base := B) (e := 9) ?_ HL.out, (by show RowAt 2 encS _ (.slice none 0 0) x.scores; rw [hs]; exact RowAt.nil _ _ _)⟩, In.nil _ _ _, ?_, In.nil _ _ _⟩, ⟨_, rfl, RowAt.nil _ _ _, In.nil _ _ _⟩, ?_⟩
    · skip
      (iterate 11 (refine own_set ?_ (by first | exact HE.out.1 | exact HE.out.2.1 | exact HE.out.2.2) _))
      exact HO.out
    · exact HIN.out
    · skip
      (iterate 11 (refine Keeps.setCell ?_ (by first | omega | (simp <;> omega)) _))
      exact HK.out

set_option maxHeartbeats 4000000 in
theorem list_push (x : Val) (c : Cmd) (hk : c.k = 7) (hm : x.size < 20) (hi : x.pairs = []) (hs : x.scores = []) :
    Does 97 x c { x with items := x.items.take (x.items.length) ++ c.txt :: x.items.drop (x.items.length) } { n := (x.items.length : Int) + 1 } := by
  intro B N W ps is ss hBN hN ho op oi os
  have n7 : (c.k == 7) = true := (by simp [hk])
  have hlt : x.items.length ≤ x.items.length := by omega
  obtain rfl := ho.p.2 hi
  obtain rfl := ho.s.2 hs
  obtain ⟨ia, ic, rfl⟩ := ownsRow_shape ho.i.1
  obtain ⟨n0, n1, n2, n3, hb0, hz0⟩ := four_at W (valO x.kind x.text x.count (.slice none 0 0) (.slice ia x.items.length ic) (.slice none 0 0)) (cmdC c) (valO 0 ⟨#[]⟩ 0 (.slice none 0 0) (.slice none 0 0) (.slice none 0 0)) (repO 0 ⟨#[]⟩ 0 (.slice none 0 0))
  have hR := insertItem_at x (x.items.length) c.txt hm hi hs hlt B N _ _ _ _ hBN (Nat.le_trans hN hb0.size) (ho.kept hb0) oi
  clear hk ho hi hs
  go_enter Tryz.func97, Tryz.ntmps97
  go_wp2_with fail
  refine hR.mono ?_
  rintro e w2 ⟨v2, u2, rfl, hr2, hu2, hK2⟩
  generalize hY : ({ x with items := x.items.take (x.items.length) ++ c.txt :: x.items.drop (x.items.length) } : Val) = y at hr2
  have HY : Hid (({ x with items := x.items.take (x.items.length) ++ c.txt :: x.items.drop (x.items.length) } : Val) = y) := hY
  clear hY
  obtain ⟨pa2, pc2, ia2, ic2, sa2, sc2, rfl⟩ := hr2.repsF.reps.shapes
  obtain ⟨la2, lc2, rfl⟩ := hu2.repRF.rep.shapes
  have k2 := (hK2.block (W.heap.size + 1 + 1) (by omega) (.inr (by omega))).trans n2
  have k3 := (hK2.block (W.heap.size + 1 + 1 + 1) (by omega) (.inr (by omega))).trans n3
  have sz2 := hK2.size
  have hK : Keeps B N W w2 := (Keeps.ofBelow hb0).trans hK2
  have HK : Hid (Keeps B N W w2) := hK
  clear n0 n1 n2 n3 hR hK2 hK
  obtain ⟨c2, f2⟩ := block_cells k2
  obtain ⟨c3, f3⟩ := block_cells k3
  clear k2 k3
  go_wp2_with fail
  refine bodyPost_ret (v := .tuple #[_, _]) (by simp [results, Tryz.results97, go_sem, c2, c3]; exact ⟨rfl, rfl⟩) rfl ⟨_, _, rfl, ?_, ?_, ?_⟩
  · rw [HY.out]
    refine RepsA.mono (N := N) ?_ (Nat.le_refl _) (show W.heap.size ≤ _ from hb0.size)
    (iterate 10 (refine RepsA.set ?_ (by first | omega | (simp <;> omega)) (by first | omega | (simp <;> omega)) _))
    exact hr2
  · refine RepRA.mono (N := N) ?_ (Nat.le_refl _) (show W.heap.size ≤ _ from hb0.size)
    (iterate 10 (refine RepRA.set ?_ (by first | omega | (simp <;> omega)) (by first | omega | (simp <;> omega)) _))
    exact hu2
  · (iterate 10 (refine Keeps.setCell ?_ (by first | omega | (simp <;> omega)) _))
    exact HK.out
set_option maxHeartbeats 4000000 in
theorem list_front (x : Val) (c : Cmd) (hk : c.k = 8) (hm : x.size < 20) (hi : x.pairs = []) (hs : x.scores = []) :
    Does 97 x c { x with items := x.items.take (0) ++ c.txt :: x.items.drop (0) } { n := (x.items.length : Int) + 1 } := by
  intro B N W ps is ss hBN hN ho op oi os
  have n7 : (c.k == 7) = false := (by simp [hk]); have n8 : (c.k == 8) = true := (by simp [hk])
  have hlt : 0 ≤ x.items.length := by omega
  obtain rfl := ho.p.2 hi
  obtain rfl := ho.s.2 hs
  obtain ⟨ia, ic, rfl⟩ := ownsRow_shape ho.i.1
  obtain ⟨n0, n1, n2, n3, hb0, hz0⟩ := four_at W (valO x.kind x.text x.count (.slice none 0 0) (.slice ia x.items.length ic) (.slice none 0 0)) (cmdC c) (valO 0 ⟨#[]⟩ 0 (.slice none 0 0) (.slice none 0 0) (.slice none 0 0)) (repO 0 ⟨#[]⟩ 0 (.slice none 0 0))
  have hR := insertItem_at x (0) c.txt hm hi hs hlt B N _ _ _ _ hBN (Nat.le_trans hN hb0.size) (ho.kept hb0) oi
  clear hk ho hi hs
  go_enter Tryz.func97, Tryz.ntmps97
  go_wp2_with fail
  refine hR.mono ?_
  rintro e w2 ⟨v2, u2, rfl, hr2, hu2, hK2⟩
  generalize hY : ({ x with items := x.items.take (0) ++ c.txt :: x.items.drop (0) } : Val) = y at hr2
  have HY : Hid (({ x with items := x.items.take (0) ++ c.txt :: x.items.drop (0) } : Val) = y) := hY
  clear hY
  obtain ⟨pa2, pc2, ia2, ic2, sa2, sc2, rfl⟩ := hr2.repsF.reps.shapes
  obtain ⟨la2, lc2, rfl⟩ := hu2.repRF.rep.shapes
  have k2 := (hK2.block (W.heap.size + 1 + 1) (by omega) (.inr (by omega))).trans n2
  have k3 := (hK2.block (W.heap.size + 1 + 1 + 1) (by omega) (.inr (by omega))).trans n3
  have sz2 := hK2.size
  have hK : Keeps B N W w2 := (Keeps.ofBelow hb0).trans hK2
  have HK : Hid (Keeps B N W w2) := hK
  clear n0 n1 n2 n3 hR hK2 hK
  obtain ⟨c2, f2⟩ := block_cells k2
  obtain ⟨c3, f3⟩ := block_cells k3
  clear k2 k3
  go_wp2_with fail
  refine bodyPost_ret (v := .tuple #[_, _]) (by simp [results, Tryz.results97, go_sem, c2, c3]; exact ⟨rfl, rfl⟩) rfl ⟨_, _, rfl, ?_, ?_, ?_⟩
  · rw [HY.out]
    refine RepsA.mono (N := N) ?_ (Nat.le_refl _) (show W.heap.size ≤ _ from hb0.size)
    (iterate 10 (refine RepsA.set ?_ (by first | omega | (simp <;> omega)) (by first | omega | (simp <;> omega)) _))
    exact hr2
  · refine RepRA.mono (N := N) ?_ (Nat.le_refl _) (show W.heap.size ≤ _ from hb0.size)
    (iterate 10 (refine RepRA.set ?_ (by first | omega | (simp <;> omega)) (by first | omega | (simp <;> omega)) _))
    exact hu2
  · (iterate 10 (refine Keeps.setCell ?_ (by first | omega | (simp <;> omega)) _))
    exact HK.out
end Go.Proofs.YtfnephnecighaaaGreat
