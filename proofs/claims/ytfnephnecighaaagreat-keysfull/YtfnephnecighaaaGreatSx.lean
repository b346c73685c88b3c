/- What store.Apply comes to, its store and its reply by their parts; a store's variable, stored anew. -/
import Derived.Test.YtfnephnecighaaaGreatEyJ
import Derived.Test.YtfnephnecighaaaGreatLwJ
namespace Go.Proofs.YtfnephnecighaaaGreat
open Go.RowKit
set_option linter.unusedVariables false
set_option maxRecDepth 100000

/-- A store of m entries that lies in memory. -/
def StL (w : World) (now : Int) (ea : Option Addr) (m ec : Nat) (L : List Kv) : Prop := RepsSt w (stoV now (.slice ea m ec)) ⟨now, L⟩
theorem StL.below {w w' : World} {now : Int} {ea : Option Addr} {m ec : Nat} {L : List Kv} (h : StL w now ea m ec L) (hb : Below w.heap.size w w') : StL w' now ea m ec L := RepsSt.below h hb
theorem StL.nil (w : World) (now : Int) : StL w now none 0 0 [] := (RepsStF.nil 0 w now).st
def ActsW (now : Int) (L : List Kv) (t k : Int) (key fld txt : ByteArray) (n now' : Int) (L' : List Kv) (m : Nat) (rc : Int) (rt : ByteArray) (rn : Int) (rl : List ByteArray) (q : Nat) (f : Int) : Prop :=
  ∀ (W : World) (ea : Option Addr) (m0 ec : Nat), StL W now ea m0 ec L → Calls Tryz.prog 17 #[stoV now (.slice ea m0 ec), .int .i64 t, cmdV k key fld txt n] W fun e w' =>
    ∃ ea ec la lc, e = .returned (.tuple #[stoV now' (.slice ea m ec), repV rc rt rn (.slice la q lc), .int .i64 f]) ∧ StL w' now' ea m ec L' ∧ RepsStF W.heap.size w' (stoV now' (.slice ea m ec)) ⟨now', L'⟩ ∧ RowAt 1 encI w' (.slice la q lc) rl ∧ Below W.heap.size W w'
theorem acts_w {s s' : Sto} {t : Int} {c : Cmd} {r : Rep} {f : Int} (h : ActsS s t c s' r f) {m q : Nat} (hm : s'.es.length = m) (hq : r.list.length = q) : ActsW s.now s.es t c.k c.key c.fld c.txt c.n s'.now s'.es m r.code r.text r.n r.list q f := by
  subst hm hq
  intro W ea m0 ec hs
  refine (h W _ hs).mono ?_
  rintro e w' ⟨ea, ec, la, lc, rfl, h1, h2, h3⟩
  exact ⟨ea, ec, la, lc, rfl, h1.st, h1, h2, h3⟩
/-- A store's variable, stored anew. -/
theorem restored {W w2 w : World} {b B : Nat} {now0 now : Int} {es0 : Value} {ea : Option Addr} {m ec : Nat} {L : List Kv} (hn : w2.heap[b]? = some (stoO now0 es0)) (hs : RepsStF W.heap.size w2 (stoV now (.slice ea m ec)) ⟨now, L⟩) (hb : b < W.heap.size) (hB : Below B w w2) (hBb : B ≤ b) :
    let Z := (w2.setCell ⟨b, 0, none⟩ (.int .i64 now)).setCell ⟨b, 1, none⟩ (.slice ea m ec)
    Z.heap[b]? = some (stoO now (.slice ea m ec)) ∧ StL Z now ea m ec L ∧ Below B w Z ∧ Z.heap.size = w2.heap.size ∧ ∀ k, k ≠ b → Z.heap[k]? = w2.heap[k]? := by
  intro Z
  have h1 := setCell_in (.int .i64 now) (o := 0) hn
  have h2 := setCell_in (.slice ea m ec) (o := 1) h1
  exact ⟨h2, ((hs.setCell (p := ⟨b, 0, none⟩) hb _).setCell (p := ⟨b, 1, none⟩) hb _).st, (hB.setCell hBb _).setCell hBb _, by simp [Z, World.setCell], fun k hk => (Below.heap_setCell _ _ _ _ hk).trans (Below.heap_setCell _ _ _ _ hk)⟩
theorem other_box {w : World} {b b' : Nat} {cs cs' : Array Value} {t t' : TypeId} (h : w.heap[b]? = some (.cells cs t (0, 0))) (h' : w.heap[b']? = some (.cells cs' t' (0, 0))) (ht : t ≠ t') : b ≠ b' := by
  rintro rfl
  have := h.symm.trans h'
  simp at this
  exact ht this.2
theorem entry_w {w : World} {now : Int} {ea : Option Addr} {m ec : Nat} {L : List Kv} (key : ByteArray) (h : StL w now ea m ec L) :
    Calls Tryz.prog 24 #[stoV now (.slice ea m ec), .string key] w fun e w' => ∃ ps is ss, e = .returned (.tuple #[entV (findE key L).key (findE key L).x.kind (findE key L).x.text (findE key L).x.count ps is ss (findE key L).til, .bool (thereB key L)]) ∧ Lists w' ps is ss (findE key L).x ∧ Below w.heap.size w w' := by
  refine (entry_any _ ⟨now, L⟩ key w h).mono ?_
  rintro e w' ⟨ev, rfl, ⟨ps, is, ss, rfl, hl⟩, hb⟩
  exact ⟨ps, is, ss, rfl, hl, hb⟩
end Go.Proofs.YtfnephnecighaaaGreat
