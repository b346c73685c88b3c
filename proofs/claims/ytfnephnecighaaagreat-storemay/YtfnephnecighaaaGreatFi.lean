/- What a deed leaves: its block, its entries, what lies of their values. -/
import Derived.Test.YtfnephnecighaaaGreatSv
import Derived.Test.YtfnephnecighaaaGreatEx
namespace Go.Proofs.YtfnephnecighaaaGreat
open Go.RowKit
set_option linter.unusedVariables false
set_option maxRecDepth 100000

theorem Kept.deedBelow {w wr W : World} {now at' : Int} {c : Cmd} {found : Bool} {F : List Ent} {D : Nat} {es : Value} (h : Deed w now c at' found F D es wr) (hK : Kept D es.ownBlock wr W) : Below w.heap.size w W :=
  ⟨hK.os.trans h.below.os, hK.tape.trans h.below.tape, hK.output.trans h.below.output, Nat.le_trans h.below.size hK.size, fun b hb =>
    (hK.block b (by have := h.below.size; omega) (by have := h.bD; omega) (fun hh => by have := (World.ownsRow.lt h.own b hh.symm).1; omega)).trans (h.below.block b hb)⟩
/-- The deed behind a change of its block and its row. -/
theorem Deed.turn {w wr W : World} {now at' at2 : Int} {c : Cmd} {found f2 : Bool} {F F2 : List Ent} {D : Nat} {es es2 : Value} (h : Deed w now c at' found F D es wr) (hK : Kept D es.ownBlock wr W) (hD : W.heap[D]? = some (deedO now es2 c.k c.key c.fld c.txt c.n at2 f2))
    (ho : W.ownsRow w.heap.size 57 8 es2 F2.length (F2.flatMap encE)) (hl : ∀ e ∈ F2, e ∈ F ∨ OwnVL w.heap.size W e.ps e.is e.ss e.kv.x) : Deed w now c at2 f2 F2 D es2 W :=
  ⟨h.bD, hD, ho, fun e he => (hl e he).elim (fun h1 => Kept.ownVL hK (h.lists e h1) h.deed h.own) id, hK.deedBelow h⟩
/-- The deed behind the stroke of an entry. -/
theorem Deed.dropped {w wr w2 : World} {now at' : Int} {c : Cmd} {found : Bool} {F : List Ent} {D p : Nat} {es r : Value} (h : Deed w now c at' found F D es wr) (hp : p < F.length)
    (ho : w2.ownsRow w.heap.size 57 8 r (F.length - 1) ((F.take p ++ F.drop (p + 1)).flatMap encE)) (hg : wr.grownBy w2 es.ownBlock) (hob : r.ownBlock = es.ownBlock) : Deed w now c at' found (cutAt F p) D r (w2.setCell ⟨D, 1, none⟩ r) := by
  have hne := own_ne h.own h.deed (by decide)
  have hK := ((Kept.refl D es.ownBlock wr).grown hg).cell (o := 1) r
  refine h.turn hK (setCell_in r (o := 1) ((hg.block D (lt_at h.deed) (fun e => hne e.symm)).trans h.deed)) ?_ (fun e he => .inl (mem_delete he))
  have := own_set ho (p := ⟨D, 1, none⟩) (by rw [hob]; exact hne) r
  rw [show (cutAt F p).length = F.length - 1 by have := len_cut hp; omega]
  exact this

/-- An entry's lists, all from a block number on. -/
def ListsF (B : Nat) (w : World) (e : Ent) : Prop := Lists w e.ps e.is e.ss e.kv.x ∧ From B e.ps ∧ From B e.is ∧ From B e.ss
theorem ListsF.mid {B : Nat} {w W : World} {e : Ent} (h : ListsF B w e) (hb : Below w.heap.size w W) : ListsF B W e := ⟨h.1.below hb, h.2⟩
/-- What a deed leaves. -/
structure Fin (w : World) (now : Int) (c : Cmd) (F : List Ent) (D B : Nat) (es : Value) (wr : World) : Prop where
  bD : w.heap.size ≤ D
  hB : w.heap.size ≤ B
  deed : ∃ at' found, wr.heap[D]? = some (deedO now es c.k c.key c.fld c.txt c.n at' found)
  own : wr.ownsRow w.heap.size 57 8 es F.length (F.flatMap encE)
  lists : ∀ e ∈ F, OwnVL w.heap.size wr e.ps e.is e.ss e.kv.x ∨ ListsF B wr e
  below : Below w.heap.size w wr
theorem Deed.fin {w wr : World} {now at' : Int} {c : Cmd} {found : Bool} {F : List Ent} {D B : Nat} {es : Value} (h : Deed w now c at' found F D es wr) (hB : w.heap.size ≤ B) : Fin w now c F D B es wr := ⟨h.bD, hB, ⟨_, _, h.deed⟩, h.own, fun e he => .inl (h.lists e he), h.below⟩
theorem Fin.mid {w wr w2 : World} {now : Int} {c : Cmd} {F : List Ent} {D B : Nat} {es : Value} (h : Fin w now c F D B es wr) (hb : Below wr.heap.size wr w2) : Fin w now c F D B es w2 where
  bD := h.bD
  hB := h.hB
  deed := by obtain ⟨a, f, hd⟩ := h.deed; exact ⟨a, f, (hb.block _ (lt_at hd)).trans hd⟩
  own := ownsRow_kept h.own hb
  lists := fun e he => (h.lists e he).elim (fun h1 => .inl (h1.kept hb)) (fun h1 => .inr (h1.mid hb))
  below := bstep h.below hb
theorem Fin.box {w wr : World} {now : Int} {c : Cmd} {F : List Ent} {D B b o : Nat} {es : Value} {cs : Array Value} (h : Fin w now c F D B es wr) (hb : wr.heap[b]? = some (.cells cs 32 (0, 0))) (hbw : w.heap.size ≤ b) (hbB : b < B) (u : Value) : Fin w now c F D B es (wr.setCell ⟨b, o, none⟩ u) := by
  obtain ⟨a, f, hd⟩ := h.deed
  have hbD : b ≠ D := by
    rintro rfl
    have := hb.symm.trans hd
    simp at this
  refine ⟨h.bD, h.hB, ⟨a, f, (Below.heap_setCell _ _ _ _ (fun e => hbD e.symm)).trans hd⟩, own_set h.own (own_ne h.own hb (by decide)) _, fun e he => ?_, h.below.setCell hbw _⟩
  rcases h.lists e he with hx | ⟨⟨l1, l2, l3⟩, f1, f2, f3⟩
  · exact .inl ⟨own_set hx.p (own_ne hx.p hb (by decide)) _, own_set hx.i (own_ne hx.i hb (by decide)) _, own_set hx.s (own_ne hx.s hb (by decide)) _⟩
  · exact .inr ⟨⟨l1.setCell f1 (p := ⟨b, o, none⟩) hbB _, l2.setCell f2 (p := ⟨b, o, none⟩) hbB _, l3.setCell f3 (p := ⟨b, o, none⟩) hbB _⟩, f1, f2, f3⟩
theorem Fin.reply {w wr : World} {now : Int} {c : Cmd} {F : List Ent} {D B b : Nat} {es : Value} {cs : Array Value} (h : Fin w now c F D B es wr) (hb : wr.heap[b]? = some (.cells cs 32 (0, 0))) (hbw : w.heap.size ≤ b) (hbB : b < B) (u0 u1 u2 u3 : Value) :
    Fin w now c F D B es ((((wr.setCell ⟨b, 0, none⟩ u0).setCell ⟨b, 1, none⟩ u1).setCell ⟨b, 2, none⟩ u2).setCell ⟨b, 3, none⟩ u3) := by
  have h1 := setCell_in u0 (o := 0) hb
  have h2 := setCell_in u1 (o := 1) h1
  have h3 := setCell_in u2 (o := 2) h2
  exact (((h.box hb hbw hbB u0).box h1 hbw hbB u1).box h2 hbw hbB u2).box h3 hbw hbB u3

theorem own_same {w W : World} {B k n : Nat} {t : TypeId} {v : Value} {xs : List Value} (h : w.ownsRow B t k v n xs) (hb : ∀ b, v.ownBlock = some b → W.heap[b]? = w.heap[b]?) : W.ownsRow B t k v n xs := by
  refine ⟨h.1, ?_⟩
  rcases h.2 with h1 | ⟨g, cap, cur, rfl, h2, h3, h4⟩
  · exact .inl h1
  · exact .inr ⟨g, cap, cur, rfl, h2, (hb g rfl).trans h3, h4⟩
theorem RowAt.sameS {α : Type} {k B : Nat} {enc : α → List Value} {w w' : World} {s : Value} {l : List α} (h : RowAt k enc w s l) (hf : From B s) (hs : ∀ b, B ≤ b → b < w.heap.size → w'.heap[b]? = w.heap[b]?) (hz : w.heap.size ≤ w'.heap.size) : RowAt k enc w' s l := by
  obtain ⟨hl, a, cap, rfl, h1, h2, h3⟩ := h
  refine ⟨hl, a, cap, rfl, h1, h2, ?_⟩
  rcases h3 with h3 | ⟨b, off, rfl, hbk, hc⟩
  · exact .inl h3
  · exact .inr ⟨b, off, rfl, by omega, fun i hi c hk => (World.cell?_of_block (a := ⟨b, off + i * k + c, none⟩) (hs b (hf _ _ _ rfl) hbk)).trans (hc i hi c hk)⟩
/-- What a deed leaves whose row alone has turned. -/
theorem Deed.rowed {w wr W : World} {now at' : Int} {c : Cmd} {found : Bool} {F F2 : List Ent} {D g cap B : Nat} {S : List Value} (h : Deed w now c at' found F D (.slice (some ⟨g, 0, none⟩) F.length cap) wr) (hgD : g ≠ D) (hgw : w.heap.size ≤ g) (hc : F.length ≤ cap) (hm : cap ≤ maxLen)
    (hl2 : F2.length = F.length) (hrow : W.heap[g]? = some (.cells (F2.flatMap encE ++ S).toArray 57 (0, 0))) (hold : wr.heap[g]? = some (.cells (F.flatMap encE ++ S).toArray 57 (0, 0))) (hsz : (F.flatMap encE ++ S).length = cap * 8)
    (ho : ∀ b, b ≠ g → W.heap[b]? = wr.heap[b]?) (hz : W.heap.size = wr.heap.size) (h1 : W.os = wr.os) (h2 : W.tape = wr.tape) (h3 : W.output = wr.output) (hgB : g < B) (hwB : w.heap.size ≤ B)
    (hnew : ∀ e ∈ F2, (∃ a ∈ F, e.ps = a.ps ∧ e.is = a.is ∧ e.ss = a.ss ∧ e.kv.x = a.kv.x) ∨ ListsF B wr e) : Fin w now c F2 D B (.slice (some ⟨g, 0, none⟩) F.length cap) W ∧ Kept D (some g) wr W := by
  refine ⟨⟨h.bD, hwB, ⟨_, _, (ho D (fun e => hgD e.symm)).trans h.deed⟩, ?_, fun e he => ?_, ?_⟩, ⟨h1, h2, h3, by omega, fun b hl hb1 hb2 => ho b (fun e => hb2 (by rw [e]))⟩⟩
  · rw [← hl2]
    refine own_mk (S := S) (flat_length lenE _) hgw hrow (by omega) hm ?_
    rw [List.length_append, flat_length lenE] at hsz ⊢
    rw [hl2]; exact hsz
  · rcases hnew e he with ⟨a, ha, e1, e2, e3, e4⟩ | ⟨hl, f1, f2, f3⟩
    · have q := h.lists a ha
      rw [e1, e2, e3, e4]
      exact .inl ⟨own_same q.p fun b hb => ho b (fun e => own_ne q.p hold (by decide) (by rw [← e]; exact hb)), own_same q.i fun b hb => ho b (fun e => own_ne q.i hold (by decide) (by rw [← e]; exact hb)), own_same q.s fun b hb => ho b (fun e => own_ne q.s hold (by decide) (by rw [← e]; exact hb))⟩
    · have hsm : ∀ b, B ≤ b → b < wr.heap.size → W.heap[b]? = wr.heap[b]? := fun b hb _ => ho b (by omega)
      exact .inr ⟨⟨hl.p.sameS f1 hsm (by omega), hl.i.sameS f2 hsm (by omega), hl.s.sameS f3 hsm (by omega)⟩, f1, f2, f3⟩
  · have hb := h.below
    exact ⟨h1.trans hb.os, h2.trans hb.tape, h3.trans hb.output, by have := hb.size; omega, fun b hl => (ho b (by omega)).trans (hb.block b hl)⟩
end Go.Proofs.YtfnephnecighaaaGreat
