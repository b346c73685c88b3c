/- Commands that make values of a kind: rostrumkeep.maker. -/
import Derived.Test.YtgpdnhammdgndaaGreatRw
import Derived.Test.YtgpdnhammdgndaaGreatKcJ
import Derived.Test.YtgpdnhammdgndaaGreatMtJ
namespace Go.Proofs.YtgpdnhammdgndaaGreat
open Go.RowKit
set_option linter.unusedVariables false

/-- The commands' kinds, by the kinds of values. -/
def mkKind (p : Nat) : Nat := match p with | 0 => 1 | 1 => 3 | 2 => 4 | 3 => 7 | 4 => 11 | _ => 14
/-- The command of a kind and raw numbers. -/
def mkCmd (p : Nat) (r : Raw) : Cmd := cmdFor (mkKind p) r.key r.fld r.n r.txt
theorem mkCmd_fault (p : Nat) (r : Raw) : (mkCmd p r).fault = 0 := by
  unfold mkCmd
  apply cmdFor_fault <;> (unfold mkKind; split <;> omega)
theorem mkCmd_k (p : Nat) (r : Raw) : (mkCmd p r).k = (mkKind p : Nat) := rfl
theorem mkKind_cases (p : Nat) : mkKind p = 1 ∨ mkKind p = 3 ∨ mkKind p = 4 ∨ mkKind p = 7 ∨ mkKind p = 11 ∨ mkKind p = 14 := by unfold mkKind; split <;> omega
theorem mkCmd_store (p : Nat) (r : Raw) : ofStoreB (mkCmd p r).k = false := by
  rw [mkCmd_k]; rcases mkKind_cases p with h | h | h | h | h | h <;> rw [h] <;> rfl

set_option maxHeartbeats 4000000 in
theorem maker_any (kind : Int) (r : Raw) (w : World) (bk : -9223372036854775808 ≤ kind ∧ kind ≤ 9223372036854775807) (hr : r.wf) :
    Calls Tryz.prog 20 #[.int .i64 kind, r.v] w fun e w' => e = .returned (mkCmd (pickedN kind 6) r).v ∧ Below w.heap.size w w' := by
  have p6 := fun W => picked_any kind 6 W bk.1 bk.2 (by omega) (by omega)
  have l6 := pickedN_lt kind (show 0 < 6 by omega)
  generalize pickedN kind 6 = p at p6 l6 ⊢
  obtain ⟨k, key, fld, n, txt⟩ := r
  obtain ⟨b1, b2, b3, b4, b5⟩ := hr
  simp only [i64s] at b1 b2 b3 b4 b5
  have P : Hid (∀ W, Calls Tryz.prog 15 #[.int .i64 kind, .int .i64 6] W fun e w' => e = .returned (.int .i64 (p : Nat)) ∧ W = w') := p6
  clear p6
  have hc := fun kk W (h1 : -9223372036854775808 ≤ kk) (h2 : kk ≤ 9223372036854775807) => command_any kk key fld n txt W ⟨h1, h2⟩ b2 b3 b4 b5
  have HC : ∀ j : Nat, 1 ≤ j → j ≤ 22 → Hid (∀ W, Calls Tryz.prog 16 #[rawV ((j : Int) - 1) key fld n txt] W fun e w' => e = .returned (cmdFor j key fld n txt).v ∧ Below W.heap.size W w') := by
    intro j h1 h2
    have e : 1 + pickedN ((j : Int) - 1) 22 = j := by
      unfold pickedN; rw [if_neg (by omega)]; omega
    have h := fun W => hc ((j : Int) - 1) W (by omega) (by omega)
    rw [e] at h; exact h
  have hp : p = 0 ∨ p = 1 ∨ p = 2 ∨ p = 3 ∨ p = 4 ∨ p = 5 := by omega
  clear hc l6
  rcases hp with rfl | rfl | rfl | rfl | rfl | rfl
  · have H := HC 1 (by omega) (by omega)
    simp only [show ((1 : Nat) : Int) - 1 = 0 by rfl] at H
    show Calls Tryz.prog 20 #[.int .i64 kind, rawV k key fld n txt] w fun e w' => e = .returned (cmdFor 1 key fld n txt).v ∧ Below w.heap.size w w'
    generalize cmdFor 1 key fld n txt = c at H ⊢
    obtain ⟨ck, ckey, cfld, ctxt, cn⟩ := c
    have H' : Hid (∀ W, Calls Tryz.prog 16 #[rawV 0 key fld n txt] W fun e w' => e = .returned (cmdV ck ckey cfld ctxt cn) ∧ Below W.heap.size W w') := H
    clear HC H
    go_enter Tryz.func20, Tryz.ntmps20
    go_wp2_with (go_at_call 15; refine (P.out _).mono ?_; rintro e w' ⟨rfl, rfl⟩)
    refine (H'.out _).mono ?_
    rintro e w1 ⟨rfl, hb1⟩
    have hB0 : Below w.heap.size w (((w.alloc (.cells #[.int .i64 k, .int .i64 key, .int .i64 fld, .int .i64 n, .string txt] 43)).alloc (.cells #[.int .i64 0, .string ⟨#[]⟩, .string ⟨#[]⟩, .string ⟨#[]⟩, .int .i64 0] 28)).alloc (.cells #[.int .i64 1, .int .i64 3, .int .i64 4, .int .i64 7, .int .i64 11, .int .i64 14] 3)) := ((balloc _ _).alloc (by simp) _).alloc (by simp; omega) _
    have hB1 := bstep hB0 hb1
    obtain ⟨c1, f1⟩ := same_block (hb1.block (w.heap.size + 1) (by simp))
    have hz : w.heap.size + 1 < w1.heap.size := Nat.lt_of_lt_of_le (by simp) hb1.size
    clear hB0 hb1
    go_wp2_with fail
    refine bodyPost_ret (v := cmdV ck ckey cfld ctxt cn) (by simp [results, Tryz.results20, go_sem, c1]) rfl ⟨rfl, ?_⟩
    iterate 5 refine Below.setCell ?_ (by simp) _
    exact hB1
  · have H := HC 3 (by omega) (by omega)
    simp only [show ((3 : Nat) : Int) - 1 = 2 by rfl] at H
    show Calls Tryz.prog 20 #[.int .i64 kind, rawV k key fld n txt] w fun e w' => e = .returned (cmdFor 3 key fld n txt).v ∧ Below w.heap.size w w'
    generalize cmdFor 3 key fld n txt = c at H ⊢
    obtain ⟨ck, ckey, cfld, ctxt, cn⟩ := c
    have H' : Hid (∀ W, Calls Tryz.prog 16 #[rawV 2 key fld n txt] W fun e w' => e = .returned (cmdV ck ckey cfld ctxt cn) ∧ Below W.heap.size W w') := H
    clear HC H
    go_enter Tryz.func20, Tryz.ntmps20
    go_wp2_with (go_at_call 15; refine (P.out _).mono ?_; rintro e w' ⟨rfl, rfl⟩)
    refine (H'.out _).mono ?_
    rintro e w1 ⟨rfl, hb1⟩
    have hB0 : Below w.heap.size w (((w.alloc (.cells #[.int .i64 k, .int .i64 key, .int .i64 fld, .int .i64 n, .string txt] 43)).alloc (.cells #[.int .i64 0, .string ⟨#[]⟩, .string ⟨#[]⟩, .string ⟨#[]⟩, .int .i64 0] 28)).alloc (.cells #[.int .i64 1, .int .i64 3, .int .i64 4, .int .i64 7, .int .i64 11, .int .i64 14] 3)) := ((balloc _ _).alloc (by simp) _).alloc (by simp; omega) _
    have hB1 := bstep hB0 hb1
    obtain ⟨c1, f1⟩ := same_block (hb1.block (w.heap.size + 1) (by simp))
    have hz : w.heap.size + 1 < w1.heap.size := Nat.lt_of_lt_of_le (by simp) hb1.size
    clear hB0 hb1
    go_wp2_with fail
    refine bodyPost_ret (v := cmdV ck ckey cfld ctxt cn) (by simp [results, Tryz.results20, go_sem, c1]) rfl ⟨rfl, ?_⟩
    iterate 5 refine Below.setCell ?_ (by simp) _
    exact hB1
  · have H := HC 4 (by omega) (by omega)
    simp only [show ((4 : Nat) : Int) - 1 = 3 by rfl] at H
    show Calls Tryz.prog 20 #[.int .i64 kind, rawV k key fld n txt] w fun e w' => e = .returned (cmdFor 4 key fld n txt).v ∧ Below w.heap.size w w'
    generalize cmdFor 4 key fld n txt = c at H ⊢
    obtain ⟨ck, ckey, cfld, ctxt, cn⟩ := c
    have H' : Hid (∀ W, Calls Tryz.prog 16 #[rawV 3 key fld n txt] W fun e w' => e = .returned (cmdV ck ckey cfld ctxt cn) ∧ Below W.heap.size W w') := H
    clear HC H
    go_enter Tryz.func20, Tryz.ntmps20
    go_wp2_with (go_at_call 15; refine (P.out _).mono ?_; rintro e w' ⟨rfl, rfl⟩)
    refine (H'.out _).mono ?_
    rintro e w1 ⟨rfl, hb1⟩
    have hB0 : Below w.heap.size w (((w.alloc (.cells #[.int .i64 k, .int .i64 key, .int .i64 fld, .int .i64 n, .string txt] 43)).alloc (.cells #[.int .i64 0, .string ⟨#[]⟩, .string ⟨#[]⟩, .string ⟨#[]⟩, .int .i64 0] 28)).alloc (.cells #[.int .i64 1, .int .i64 3, .int .i64 4, .int .i64 7, .int .i64 11, .int .i64 14] 3)) := ((balloc _ _).alloc (by simp) _).alloc (by simp; omega) _
    have hB1 := bstep hB0 hb1
    obtain ⟨c1, f1⟩ := same_block (hb1.block (w.heap.size + 1) (by simp))
    have hz : w.heap.size + 1 < w1.heap.size := Nat.lt_of_lt_of_le (by simp) hb1.size
    clear hB0 hb1
    go_wp2_with fail
    refine bodyPost_ret (v := cmdV ck ckey cfld ctxt cn) (by simp [results, Tryz.results20, go_sem, c1]) rfl ⟨rfl, ?_⟩
    iterate 5 refine Below.setCell ?_ (by simp) _
    exact hB1
  · have H := HC 7 (by omega) (by omega)
    simp only [show ((7 : Nat) : Int) - 1 = 6 by rfl] at H
    show Calls Tryz.prog 20 #[.int .i64 kind, rawV k key fld n txt] w fun e w' => e = .returned (cmdFor 7 key fld n txt).v ∧ Below w.heap.size w w'
    generalize cmdFor 7 key fld n txt = c at H ⊢
    obtain ⟨ck, ckey, cfld, ctxt, cn⟩ := c
    have H' : Hid (∀ W, Calls Tryz.prog 16 #[rawV 6 key fld n txt] W fun e w' => e = .returned (cmdV ck ckey cfld ctxt cn) ∧ Below W.heap.size W w') := H
    clear HC H
    go_enter Tryz.func20, Tryz.ntmps20
    go_wp2_with (go_at_call 15; refine (P.out _).mono ?_; rintro e w' ⟨rfl, rfl⟩)
    refine (H'.out _).mono ?_
    rintro e w1 ⟨rfl, hb1⟩
    have hB0 : Below w.heap.size w (((w.alloc (.cells #[.int .i64 k, .int .i64 key, .int .i64 fld, .int .i64 n, .string txt] 43)).alloc (.cells #[.int .i64 0, .string ⟨#[]⟩, .string ⟨#[]⟩, .string ⟨#[]⟩, .int .i64 0] 28)).alloc (.cells #[.int .i64 1, .int .i64 3, .int .i64 4, .int .i64 7, .int .i64 11, .int .i64 14] 3)) := ((balloc _ _).alloc (by simp) _).alloc (by simp; omega) _
    have hB1 := bstep hB0 hb1
    obtain ⟨c1, f1⟩ := same_block (hb1.block (w.heap.size + 1) (by simp))
    have hz : w.heap.size + 1 < w1.heap.size := Nat.lt_of_lt_of_le (by simp) hb1.size
    clear hB0 hb1
    go_wp2_with fail
    refine bodyPost_ret (v := cmdV ck ckey cfld ctxt cn) (by simp [results, Tryz.results20, go_sem, c1]) rfl ⟨rfl, ?_⟩
    iterate 5 refine Below.setCell ?_ (by simp) _
    exact hB1
  · have H := HC 11 (by omega) (by omega)
    simp only [show ((11 : Nat) : Int) - 1 = 10 by rfl] at H
    show Calls Tryz.prog 20 #[.int .i64 kind, rawV k key fld n txt] w fun e w' => e = .returned (cmdFor 11 key fld n txt).v ∧ Below w.heap.size w w'
    generalize cmdFor 11 key fld n txt = c at H ⊢
    obtain ⟨ck, ckey, cfld, ctxt, cn⟩ := c
    have H' : Hid (∀ W, Calls Tryz.prog 16 #[rawV 10 key fld n txt] W fun e w' => e = .returned (cmdV ck ckey cfld ctxt cn) ∧ Below W.heap.size W w') := H
    clear HC H
    go_enter Tryz.func20, Tryz.ntmps20
    go_wp2_with (go_at_call 15; refine (P.out _).mono ?_; rintro e w' ⟨rfl, rfl⟩)
    refine (H'.out _).mono ?_
    rintro e w1 ⟨rfl, hb1⟩
    have hB0 : Below w.heap.size w (((w.alloc (.cells #[.int .i64 k, .int .i64 key, .int .i64 fld, .int .i64 n, .string txt] 43)).alloc (.cells #[.int .i64 0, .string ⟨#[]⟩, .string ⟨#[]⟩, .string ⟨#[]⟩, .int .i64 0] 28)).alloc (.cells #[.int .i64 1, .int .i64 3, .int .i64 4, .int .i64 7, .int .i64 11, .int .i64 14] 3)) := ((balloc _ _).alloc (by simp) _).alloc (by simp; omega) _
    have hB1 := bstep hB0 hb1
    obtain ⟨c1, f1⟩ := same_block (hb1.block (w.heap.size + 1) (by simp))
    have hz : w.heap.size + 1 < w1.heap.size := Nat.lt_of_lt_of_le (by simp) hb1.size
    clear hB0 hb1
    go_wp2_with fail
    refine bodyPost_ret (v := cmdV ck ckey cfld ctxt cn) (by simp [results, Tryz.results20, go_sem, c1]) rfl ⟨rfl, ?_⟩
    iterate 5 refine Below.setCell ?_ (by simp) _
    exact hB1
  · have H := HC 14 (by omega) (by omega)
    simp only [show ((14 : Nat) : Int) - 1 = 13 by rfl] at H
    show Calls Tryz.prog 20 #[.int .i64 kind, rawV k key fld n txt] w fun e w' => e = .returned (cmdFor 14 key fld n txt).v ∧ Below w.heap.size w w'
    generalize cmdFor 14 key fld n txt = c at H ⊢
    obtain ⟨ck, ckey, cfld, ctxt, cn⟩ := c
    have H' : Hid (∀ W, Calls Tryz.prog 16 #[rawV 13 key fld n txt] W fun e w' => e = .returned (cmdV ck ckey cfld ctxt cn) ∧ Below W.heap.size W w') := H
    clear HC H
    go_enter Tryz.func20, Tryz.ntmps20
    go_wp2_with (go_at_call 15; refine (P.out _).mono ?_; rintro e w' ⟨rfl, rfl⟩)
    refine (H'.out _).mono ?_
    rintro e w1 ⟨rfl, hb1⟩
    have hB0 : Below w.heap.size w (((w.alloc (.cells #[.int .i64 k, .int .i64 key, .int .i64 fld, .int .i64 n, .string txt] 43)).alloc (.cells #[.int .i64 0, .string ⟨#[]⟩, .string ⟨#[]⟩, .string ⟨#[]⟩, .int .i64 0] 28)).alloc (.cells #[.int .i64 1, .int .i64 3, .int .i64 4, .int .i64 7, .int .i64 11, .int .i64 14] 3)) := ((balloc _ _).alloc (by simp) _).alloc (by simp; omega) _
    have hB1 := bstep hB0 hb1
    obtain ⟨c1, f1⟩ := same_block (hb1.block (w.heap.size + 1) (by simp))
    have hz : w.heap.size + 1 < w1.heap.size := Nat.lt_of_lt_of_le (by simp) hb1.size
    clear hB0 hb1
    go_wp2_with fail
    refine bodyPost_ret (v := cmdV ck ckey cfld ctxt cn) (by simp [results, Tryz.results20, go_sem, c1]) rfl ⟨rfl, ?_⟩
    iterate 5 refine Below.setCell ?_ (by simp) _
    exact hB1
end Go.Proofs.YtgpdnhammdgndaaGreat

/- A value of a kind, by commands in raw numbers: rostrumkeep.Value. -/
namespace Go.Proofs.YtgpdnhammdgndaaGreat
open Go.RowKit
set_option linter.unusedVariables false

/-- What commands make, one behind the other. -/
def foldV (p : Nat) (x : Val) (l : List Raw) : Val := l.foldl (fun x r => doV x (mkCmd p r)) x
def valFor (p : Nat) (l : List Raw) : Val := foldV p (emptyVal 0) (l.take 24)
theorem foldV_well (p : Nat) : ∀ (l : List Raw) (x : Val), Well x → Well (foldV p x l)
  | [], _, h => h
  | r :: l, x, h => foldV_well p l _ (doV_well (mkCmd p r) h)
theorem valFor_well (p : Nat) (l : List Raw) : Well (valFor p l) := foldV_well p _ _ (.inl rfl)
theorem foldV_snoc (p : Nat) (x : Val) (l : List Raw) (r : Raw) : foldV p x (l ++ [r]) = doV (foldV p x l) (mkCmd p r) := by simp [foldV]

theorem setCell_sameV {w : World} {g o : Nat} {cs : Array Value} {t : TypeId} (v : Value) (h : w.heap[g]? = some (.cells cs t (0, 0))) : (w.setCell ⟨g, o, none⟩ v).heap[g]? = some (.cells (cs.setIfInBounds o v) t (0, 0)) := by
  rw [setCell_eq_setRow w g o cs t (0, 0) v h]
  exact setRow_heap w g cs _ t _ h
/-- A local value of block g, stored anew. -/
abbrev storedV (w1 : World) (g : Nat) (kind : Int) (text : ByteArray) (count : Int) (ps is ss : Value) : World :=
  (((((w1.setCell ⟨g, 0, none⟩ (.int .i64 kind)).setCell ⟨g, 1, none⟩ (.string text)).setCell ⟨g, 2, none⟩ (.int .i64 count)).setCell ⟨g, 3, none⟩ ps).setCell ⟨g, 4, none⟩ is).setCell ⟨g, 5, none⟩ ss
theorem storedV_block {w1 : World} {g : Nat} {kind kind' : Int} {text text' : ByteArray} {count count' : Int} {ps is ss ps' is' ss' : Value} (h : w1.heap[g]? = some (valO kind' text' count' ps' is' ss')) :
    (storedV w1 g kind text count ps is ss).heap[g]? = some (valO kind text count ps is ss) :=
  setCell_sameV (o := 5) ss (setCell_sameV (o := 4) is (setCell_sameV (o := 3) ps (setCell_sameV (o := 2) (.int .i64 count) (setCell_sameV (o := 1) (.string text) (setCell_sameV (o := 0) (.int .i64 kind) h)))))
theorem storedV_below {B : Nat} {w w1 : World} {g : Nat} {kind : Int} {text : ByteArray} {count : Int} {ps is ss : Value} (h : Below B w w1) (hg : B ≤ g) : Below B w (storedV w1 g kind text count ps is ss) :=
  (((((h.setCell hg _).setCell hg _).setCell hg _).setCell hg _).setCell hg _).setCell hg _
theorem storedV_reps {B : Nat} {w1 : World} {g : Nat} {kind : Int} {text : ByteArray} {count : Int} {ps is ss : Value} {v : Value} {x : Val} (h : RepsF B w1 v x) (hg : g < B) : RepsF B (storedV w1 g kind text count ps is ss) v x :=
  (((((h.setCell (p := ⟨g, 0, none⟩) hg _).setCell (p := ⟨g, 1, none⟩) hg _).setCell (p := ⟨g, 2, none⟩) hg _).setCell (p := ⟨g, 3, none⟩) hg _).setCell (p := ⟨g, 4, none⟩) hg _).setCell (p := ⟨g, 5, none⟩) hg _

theorem keepV {w : World} {g k : Nat} {kind : Int} {text : ByteArray} {count : Int} {ps is ss : Value} (h : k ≠ g) : (storedV w g kind text count ps is ss).heap[k]? = w.heap[k]? := by
  unfold storedV
  iterate 6 rw [Below.heap_setCell _ _ _ _ h]
/-- A local reply of block g, stored anew. -/
abbrev storedR (w1 : World) (g : Nat) (code : Int) (text : ByteArray) (n : Int) (ls : Value) : World :=
  (((w1.setCell ⟨g, 0, none⟩ (.int .i64 code)).setCell ⟨g, 1, none⟩ (.string text)).setCell ⟨g, 2, none⟩ (.int .i64 n)).setCell ⟨g, 3, none⟩ ls
theorem keepR {w : World} {g k : Nat} {code : Int} {text : ByteArray} {n : Int} {ls : Value} (h : k ≠ g) : (storedR w g code text n ls).heap[k]? = w.heap[k]? := by
  unfold storedR
  iterate 4 rw [Below.heap_setCell _ _ _ _ h]
theorem sizeV (w : World) (g : Nat) (kind : Int) (text : ByteArray) (count : Int) (ps is ss : Value) : (storedV w g kind text count ps is ss).heap.size = w.heap.size := by simp [storedV, World.setCell]
theorem sizeR (w : World) (g : Nat) (code : Int) (text : ByteArray) (n : Int) (ls : Value) : (storedR w g code text n ls).heap.size = w.heap.size := by simp [storedR, World.setCell]
theorem RowAt.same {α : Type} {k B : Nat} {enc : α → List Value} {w w' : World} {s : Value} {l : List α} (h : RowAt k enc w s l) (hf : From B s) (hs : ∀ b, B ≤ b → b < w.heap.size → w'.heap[b]? = w.heap[b]?) (hz : w.heap.size ≤ w'.heap.size) : RowAt k enc w' s l := by
  obtain ⟨hl, a, cap, rfl, h1, h2, h3⟩ := h
  refine ⟨hl, a, cap, rfl, h1, h2, ?_⟩
  rcases h3 with h3 | ⟨b, off, rfl, hbk, hc⟩
  · exact .inl h3
  · exact .inr ⟨b, off, rfl, by omega, fun i hi c hk => (World.cell?_of_block (a := ⟨b, off + i * k + c, none⟩) (hs b (hf _ _ _ rfl) hbk)).trans (hc i hi c hk)⟩
theorem RepsF.same {B : Nat} {w w' : World} {v : Value} {x : Val} (h : RepsF B w v x) (hs : ∀ b, B ≤ b → b < w.heap.size → w'.heap[b]? = w.heap[b]?) (hz : w.heap.size ≤ w'.heap.size) : RepsF B w' v x := by
  obtain ⟨ps, is, ss, h1, h2, h3, h4, h5⟩ := h
  exact ⟨ps, is, ss, h1, ⟨h2.p.same h3 hs hz, h2.i.same h4 hs hz, h2.s.same h5 hs hz⟩, h3, h4, h5⟩
theorem alloc_here (w : World) (o : Obj) : (w.alloc o).heap[w.heap.size]? = some o := by show ((_ : Array Obj).push _)[_]? = _; simp
theorem size_a0 (w : World) (o : Obj) : w.heap.size ≤ (w.alloc o).heap.size := by simp
/-- What two local boxes, laid and stored, leave. -/
structure Aft (w3 Z : World) (g g' : Nat) (o : Obj) : Prop where
  at' : Z.heap[g]? = some o
  kept : ∀ k, k < w3.heap.size → k ≠ g → k ≠ g' → Z.heap[k]? = w3.heap[k]?
  size : w3.heap.size ≤ Z.heap.size
  below : ∀ B w, Below B w w3 → B ≤ g → B ≤ g' → B ≤ w3.heap.size → Below B w Z
theorem aft1 (w3 : World) (o o' : Obj) : Aft w3 ((w3.alloc o).alloc o') w3.heap.size (w3.heap.size + 1) o :=
  ⟨(two_new w3 o o').1, fun k hk _ _ => by rw [Below.heap_alloc _ _ _ (by simp; omega), Below.heap_alloc _ _ _ hk], by simp; omega, fun B w h h1 h2 h3 => (h.alloc h3 _).alloc (by simp; omega) _⟩
theorem aft2 (w3 : World) (o o' : Obj) : Aft w3 ((w3.alloc o').alloc o) (w3.heap.size + 1) w3.heap.size o :=
  ⟨(two_new w3 o' o).2, fun k hk _ _ => by rw [Below.heap_alloc _ _ _ (by simp; omega), Below.heap_alloc _ _ _ hk], by simp; omega, fun B w h h1 h2 h3 => (h.alloc h3 _).alloc (by simp; omega) _⟩
theorem aft3 {w3 : World} {g : Nat} {kind count : Int} {text : ByteArray} {ps is ss : Value} (o' : Obj) (h : w3.heap[g]? = some (valO 0 ⟨#[]⟩ 0 (.slice none 0 0) (.slice none 0 0) (.slice none 0 0))) : Aft w3 ((storedV w3 g kind text count ps is ss).alloc o') g w3.heap.size (valO kind text count ps is ss) := by
  have hl := (Array.getElem?_eq_some_iff.1 h).1
  have hz := sizeV w3 g kind text count ps is ss
  exact ⟨by rw [Below.heap_alloc _ _ _ (by omega)]; exact storedV_block h, fun k hk h1 _ => by rw [Below.heap_alloc _ _ _ (by omega)]; exact keepV h1, by have := size_a0 (storedV w3 g kind text count ps is ss) o'; omega,
    fun B w h h1 h2 h3 => (storedV_below h h1).alloc (by omega) _⟩
theorem aft4 {w3 : World} {g g' : Nat} {kind count code n : Int} {text text' : ByteArray} {ps is ss ls : Value} (h : w3.heap[g]? = some (valO 0 ⟨#[]⟩ 0 (.slice none 0 0) (.slice none 0 0) (.slice none 0 0))) (hg : g ≠ g') : Aft w3 (storedR (storedV w3 g kind text count ps is ss) g' code text' n ls) g g' (valO kind text count ps is ss) :=
  ⟨(keepR hg).trans (storedV_block h), fun k _ h1 h2 => (keepR h2).trans (keepV h1), Nat.le_of_eq ((sizeR _ _ _ _ _ _).trans (sizeV _ _ _ _ _ _ _ _)).symm,
    fun B w h h1 h2 h3 => ((((storedV_below h h1).setCell h2 _).setCell h2 _).setCell h2 _).setCell h2 _⟩
theorem aft5 {w3 : World} {g' : Nat} {code n : Int} {text' : ByteArray} {ls : Value} (o : Obj) (hl : g' < w3.heap.size) : Aft w3 ((storedR w3 g' code text' n ls).alloc o) w3.heap.size g' o := by
  have hz := sizeR w3 g' code text' n ls
  refine ⟨?_, fun k hk _ h2 => by rw [Below.heap_alloc _ _ _ (by omega)]; exact keepR h2, by have := size_a0 (storedR w3 g' code text' n ls) o; omega, fun B w h h1 h2 h3 => ((((h.setCell h2 _).setCell h2 _).setCell h2 _).setCell h2 _).alloc (Nat.le_trans h3 (Nat.le_of_eq hz.symm)) _⟩
  have := alloc_here (storedR w3 g' code text' n ls) o
  rwa [hz] at this
theorem lt_heap {w : World} {b : Nat} {o : Obj} (h : w.heap[b]? = some o) : b < w.heap.size := (Array.getElem?_eq_some_iff.1 h).1
theorem size_a1 (w : World) (o : Obj) : w.heap.size < (w.alloc o).heap.size := by simp
theorem boxD1 {W w2 : World} {o : Obj} (hb : Below (W.alloc o).drew.heap.size (W.alloc o).drew w2) : w2.heap[W.heap.size]? = some o :=
  (hb.block W.heap.size (by simp [World.drew])).trans (show (W.alloc o).drew.heap[W.heap.size]? = some o by show ((_ : Array Obj).push _)[_]? = _; simp)
theorem boxD2 {W w2 : World} {o o' : Obj} (hb : Below ((W.alloc o).alloc o').drew.heap.size ((W.alloc o).alloc o').drew w2) : w2.heap[W.heap.size]? = some o ∧ w2.heap[W.heap.size + 1]? = some o' :=
  ⟨(hb.block W.heap.size (by simp [World.drew]; omega)).trans (two_new W _ _).1, (hb.block (W.heap.size + 1) (by simp [World.drew])).trans (two_new W _ _).2⟩
theorem sizeD1 {W w2 : World} {o : Obj} (hb : Below (W.alloc o).drew.heap.size (W.alloc o).drew w2) : W.heap.size < w2.heap.size := by
  have := hb.size
  simp [World.drew] at this
  omega
theorem sizeD2 {W w2 : World} {o o' : Obj} (hb : Below ((W.alloc o).alloc o').drew.heap.size ((W.alloc o).alloc o').drew w2) : W.heap.size + 1 < w2.heap.size := by
  have := hb.size
  simp [World.drew] at this
  omega
theorem boxA1 {W w2 : World} {o : Obj} (hb : Below (W.alloc o).heap.size (W.alloc o) w2) : w2.heap[W.heap.size]? = some o :=
  (hb.block W.heap.size (by simp)).trans (show (W.alloc o).heap[W.heap.size]? = some o by show ((_ : Array Obj).push _)[_]? = _; simp)
theorem boxA2 {W w2 : World} {o o' : Obj} (hb : Below ((W.alloc o).alloc o').heap.size ((W.alloc o).alloc o') w2) : w2.heap[W.heap.size]? = some o ∧ w2.heap[W.heap.size + 1]? = some o' :=
  ⟨(hb.block W.heap.size (by simp; omega)).trans (two_new W _ _).1, (hb.block (W.heap.size + 1) (by simp)).trans (two_new W _ _).2⟩
theorem sizeA1 {W w2 : World} {o : Obj} (hb : Below (W.alloc o).heap.size (W.alloc o) w2) : W.heap.size < w2.heap.size := by
  have := hb.size
  simp at this
  omega
theorem sizeA2 {W w2 : World} {o o' : Obj} (hb : Below ((W.alloc o).alloc o').heap.size ((W.alloc o).alloc o') w2) : W.heap.size + 1 < w2.heap.size := by
  have := hb.size
  simp at this
  omega

theorem fin_cut {w w3 Z : World} {a b1 b2 B g g' : Nat} {oa ob : Obj} {y : Val} {ps is ss t : Value} (A : Aft w3 Z g g' (valO y.kind y.text y.count ps is ss)) (h0 : w3.heap[a]? = some oa) (h1 : w3.heap[b1]? = some ob)
    (hl : Lists w3 ps is ss y) (hf1 : From B ps) (hf2 : From B is) (hf3 : From B ss) (HB : Below a w w3) (ht : t = .pointer (some ⟨g, 0, none⟩)) (e1 : a < b2) (e2 : b1 < b2) (e3 : b2 ≤ g) (e4 : b2 ≤ g') (e5 : b2 ≤ B) (e6 : (g < B ∨ w3.heap.size ≤ g) ∧ (g' < B ∨ w3.heap.size ≤ g')) :
    ∃ g ps' is' ss', t = .pointer (some ⟨g, 0, none⟩) ∧ (Value.int .i64 0) = .int .i64 0 ∧ Z.heap[a]? = some oa ∧ Z.heap[b1]? = some ob ∧ Z.heap[g]? = some (valO y.kind y.text y.count ps' is' ss') ∧ RepsF b2 Z (valV y.kind y.text y.count ps' is' ss') y ∧ b2 ≤ g ∧ b2 ≤ Z.heap.size ∧ Below a w Z := by
  have l0 := (Array.getElem?_eq_some_iff.1 h0).1
  have l1 := (Array.getElem?_eq_some_iff.1 h1).1
  have lg := (Array.getElem?_eq_some_iff.1 A.at').1
  refine ⟨g, ps, is, ss, ht, rfl, (A.kept a l0 (by omega) (by omega)).trans h0, (A.kept b1 l1 (by omega) (by omega)).trans h1, A.at', ?_, e3, by omega, A.below a w HB (by omega) (by omega) (by omega)⟩
  have hr : RepsF B w3 (valV y.kind y.text y.count ps is ss) y := ⟨ps, is, ss, rfl, hl, hf1, hf2, hf3⟩
  exact (hr.same (fun k hk1 hk2 => A.kept k hk2 (by omega) (by omega)) A.size).mono e5

set_option maxHeartbeats 4000000 in
theorem value_any (kind : Int) (s : Value) (l : List Raw) (w : World) (bk : -9223372036854775808 ≤ kind ∧ kind ≤ 9223372036854775807) (hl : RawsAt w s l) :
    Calls Tryz.prog 33 #[.int .i64 kind, s] w fun e w' => ∃ v, e = .returned v ∧ RepsF w.heap.size w' v (valFor (pickedN kind 6) l) ∧ Below w.heap.size w w' := by
  obtain ⟨hw, a, cap, rfl, k1, k2, k3⟩ := hl
  have hM := fun r W (hr : Raw.wf r) => maker_any kind r W bk hr
  generalize pickedN kind 6 = p at hM ⊢
  have HM : Hid (∀ r W, Raw.wf r → Calls Tryz.prog 20 #[.int .i64 kind, r.v] W fun e w' => e = .returned (mkCmd p r).v ∧ Below W.heap.size W w') := hM
  clear hM
  go_enter Tryz.func33, Tryz.ntmps33
  go_wp2_with fail
  have hz0 : ((w.alloc (valO 0 ⟨#[]⟩ 0 (.slice none 0 0) (.slice none 0 0) (.slice none 0 0))).alloc (valO 0 ⟨#[]⟩ 0 (.slice none 0 0) (.slice none 0 0) (.slice none 0 0))).heap.size = w.heap.size + 2 := by simp
  obtain ⟨n0, n1⟩ := two_new w (valO 0 ⟨#[]⟩ 0 (.slice none 0 0) (.slice none 0 0) (.slice none 0 0)) (valO 0 ⟨#[]⟩ 0 (.slice none 0 0) (.slice none 0 0) (.slice none 0 0))
  have hB0 : Below w.heap.size w ((w.alloc (valO 0 ⟨#[]⟩ 0 (.slice none 0 0) (.slice none 0 0) (.slice none 0 0))).alloc (valO 0 ⟨#[]⟩ 0 (.slice none 0 0) (.slice none 0 0) (.slice none 0 0))) := (balloc _ _).alloc (by simp) _
  generalize (w.alloc (valO 0 ⟨#[]⟩ 0 (.slice none 0 0) (.slice none 0 0) (.slice none 0 0))).alloc (valO 0 ⟨#[]⟩ 0 (.slice none 0 0) (.slice none 0 0) (.slice none 0 0)) = V at hz0 n0 n1 hB0 ⊢
  have hg1 : w.heap.size < w.heap.size + 1 := by omega
  have hg2 : w.heap.size + 1 < w.heap.size + 2 := by omega
  generalize hb1e : w.heap.size + 1 = b1 at n1 hg1 hg2 ⊢
  generalize hb2e : w.heap.size + 2 = b2 at hz0 hg2
  go_loopw [6] (fun c wr => ∃ (m : Nat) (x : Val) (ps is ss : Value), c = .int .i64 (m : Int) ∧ m ≤ l.length ∧ m ≤ 24 ∧ x = foldV p (emptyVal 0) (l.take m) ∧
      wr.heap[w.heap.size]? = some (valO 0 ⟨#[]⟩ 0 (.slice none 0 0) (.slice none 0 0) (.slice none 0 0)) ∧ wr.heap[b1]? = some (valO x.kind x.text x.count ps is ss) ∧ RepsF b2 wr (valV x.kind x.text x.count ps is ss) x ∧ b2 ≤ wr.heap.size ∧ Below w.heap.size w wr)
    (fun c _ => 24 - (intOf c).toNat)
  case atStart => exact ⟨0, emptyVal 0, _, _, _, rfl, by omega, by omega, by simp [foldV], n0, n1, ⟨_, _, _, rfl, Lists.empty _ 0, From.nil _, From.nil _, From.nil _⟩, by omega, hB0⟩
  case round =>
    clear n0 n1 hB0 hz0
    obtain ⟨m, x, ps, is, ss, rfl, hm, hm24, hx, h0, h1, hrep, hsz, hb⟩ := hrel
    by_cases hlt : m < l.length ∧ m < 24
    · obtain ⟨hl1, hl2⟩ := hlt
      rcases k3 with rfl | ⟨b, off, rfl, hbk, hc⟩
      · simp at hl1
      · have hcw : ∀ i (h : i < l.length) (c : Nat), c < 5 → wr.cell? ⟨b, off + i * 5 + c, none⟩ = (encRw l[i])[c]? := fun i hi c hk => (hb.cell (p := ⟨b, off + i * 5 + c, none⟩) hbk).trans (hc i hi c hk)
        obtain ⟨c0, c1, c2, c3, c4⟩ := fiveR hcw m hl1
        have hdw := hw l[m] (List.getElem_mem hl1)
        have hsn : foldV p (emptyVal 0) (l.take (m + 1)) = doV x (mkCmd p l[m]) := by rw [List.take_succ_eq_append_getElem hl1, foldV_snoc, ← hx]
        have hwl : Well x := by rw [hx]; exact foldV_well _ _ _ (.inl rfl)
        have href := hwl.ref (mkCmd_fault p l[m]) (mkCmd_store p l[m])
        have hD := do_any x (mkCmd p l[m])
        rw [href] at hD
        have hMk := fun W => HM.out l[m] W hdw
        have HSN : Hid (foldV p (emptyVal 0) (l.take (m + 1)) = doV x (mkCmd p l[m])) := hsn
        clear hcw hc hw hsn hwl href hx
        generalize l[m] = d at *
        obtain ⟨dk, dkey, dfld, dn, dtxt⟩ := d
        simp only at c0 c1 c2 c3 c4
        generalize doV x (mkCmd p ⟨dk, dkey, dfld, dn, dtxt⟩) = y at *
        generalize doR x (mkCmd p ⟨dk, dkey, dfld, dn, dtxt⟩) = r at *
        generalize mkCmd p ⟨dk, dkey, dfld, dn, dtxt⟩ = c at *
        obtain ⟨ck, ckey, cfld, ctxt, cn⟩ := c
        have HK : Hid (∀ W, Calls Tryz.prog 20 #[.int .i64 kind, rawV dk dkey dfld dn dtxt] W fun e w' => e = .returned (cmdV ck ckey cfld ctxt cn) ∧ Below W.heap.size W w') := hMk
        have HD : Hid (∀ (W : World) (v : Value), Reps W v x → Calls Tryz.prog 11 #[v, cmdV ck ckey cfld ctxt cn] W fun e w' => ∃ v' u, e = .returned (.tuple #[v', u, .int .i64 0]) ∧ RepsF W.heap.size w' v' y ∧ RepRF W.heap.size w' u r ∧ Below W.heap.size W w') := hD
        clear hMk hD hdw
        have hi0 : (m : Int) < (l.length : Int) := by omega
        have hi1 : (m : Int) < 24 := by omega
        have hbw : b < wr.heap.size := Nat.lt_of_lt_of_le hbk hb.size
        have hb1w : b1 < wr.heap.size := by omega
        obtain ⟨v0, v1⟩ := block_cells h1
        obtain ⟨s0, s1, s2, s3, s4, s5⟩ : wr.cell? ⟨b1, 0, none⟩ = some (.int .i64 x.kind) ∧ wr.cell? ⟨b1, 1, none⟩ = some (.string x.text) ∧ wr.cell? ⟨b1, 2, none⟩ = some (.int .i64 x.count) ∧ wr.cell? ⟨b1, 3, none⟩ = some ps ∧ wr.cell? ⟨b1, 4, none⟩ = some is ∧ wr.cell? ⟨b1, 5, none⟩ = some ss := ⟨v0 0, v0 1, v0 2, v0 3, v0 4, v0 5⟩
        clear v0
        have HR : Hid (∀ W, Below wr.heap.size wr W → Reps W (valV x.kind x.text x.count ps is ss) x) := fun W hW => hrep.reps.below hW
        go_wp2_with fail
        go_cut [7, 9] from 10 to 34 (fun s7 s9 wx => ∃ g ps' is' ss', s7 = .pointer (some ⟨g, 0, none⟩) ∧ s9 = .int .i64 0 ∧ wx.heap[w.heap.size]? = some (valO 0 ⟨#[]⟩ 0 (.slice none 0 0) (.slice none 0 0) (.slice none 0 0)) ∧ wx.heap[b1]? = some (valO x.kind x.text x.count ps is ss) ∧
            wx.heap[g]? = some (valO y.kind y.text y.count ps' is' ss') ∧ RepsF b2 wx (valV y.kind y.text y.count ps' is' ss') y ∧ b2 ≤ g ∧ b2 ≤ wx.heap.size ∧ Below w.heap.size w wx)
        case first =>
          go_region_held3 (fun w' => w'.cell? ⟨b1, 0, none⟩ = some (.int .i64 x.kind) ∧ w'.cell? ⟨b1, 1, none⟩ = some (.string x.text) ∧ w'.cell? ⟨b1, 2, none⟩ = some (.int .i64 x.count) ∧ w'.cell? ⟨b1, 3, none⟩ = some ps ∧ w'.cell? ⟨b1, 4, none⟩ = some is ∧ w'.cell? ⟨b1, 5, none⟩ = some ss ∧ w'.cell? ⟨b, off + m * 5, none⟩ = some (.int .i64 dk) ∧ w'.cell? ⟨b, off + m * 5 + 1, none⟩ = some (.int .i64 dkey) ∧ w'.cell? ⟨b, off + m * 5 + 2, none⟩ = some (.int .i64 dfld) ∧ w'.cell? ⟨b, off + m * 5 + 3, none⟩ = some (.int .i64 dn) ∧ w'.cell? ⟨b, off + m * 5 + 4, none⟩ = some (.string dtxt)) (go_keep) (first
            | (go_at_call 20; refine (HK.out _).mono ?_; rintro e w2 ⟨rfl, hb2⟩; (first
                | (have u2 : Below wr.heap.size wr w2 := (by with_reducible exact bstep (Below.refl _ _).drew hb2); have t0 : (7 : Nat) < 8 := (by decide))
                | (have u2 : Below wr.heap.size wr w2 := (by with_reducible exact bstep (balloc _ _).drew hb2); have m7 := boxD1 hb2; have sz2 := sizeD1 hb2; have t0 : (7 : Nat) < 9 := (by decide))
                | (have u2 : Below wr.heap.size wr w2 := (by with_reducible exact bstep ((balloc _ _).alloc (Nat.le_of_lt (size_a1 _ _)) _).drew hb2); obtain ⟨m7, m8⟩ := boxD2 hb2; have sz2 := sizeD2 hb2; have t0 : (7 : Nat) < 10 := (by decide))); obtain ⟨e1, e2⟩ := same_block (u2.block b1 hb1w); obtain ⟨e3, e4⟩ := same_block (u2.block b hbw))
            | (go_at_call 11; (first
                | (with_reducible refine (HD.out _ _ (HR.out _ ((u2.alloc u2.size _).alloc (Nat.le_trans u2.size (Nat.le_of_lt (size_a1 _ _))) _))).mono ?_; rintro e w3 ⟨v', u, rfl, hv', hu', hb3⟩; have u3 : Below wr.heap.size wr w3 := (by with_reducible exact bstep ((u2.alloc u2.size _).alloc (Nat.le_trans u2.size (Nat.le_of_lt (size_a1 _ _))) _) hb3); have hv2 : RepsF (w2.heap.size + 2) w3 v' y := hv'.mono (by simp); have t1 : (7 : Nat) < 8 := (by assumption); obtain ⟨m9, m10⟩ := boxA2 hb3; obtain ⟨p1, p2⟩ := block_cells m9; obtain ⟨p3, p4⟩ := block_cells m10; have s3 := sizeA2 hb3; have z3 := u3.size; have z2 := u2.size; have y1 : ¬ b1 = w2.heap.size := (by omega); have x1 : ¬ w2.heap.size = b1 := (by omega); have y2 : ¬ b1 = (w2.heap.size + 1) := (by omega); have x2 : ¬ (w2.heap.size + 1) = b1 := (by omega); have y3 : ¬ b = w2.heap.size := (by omega); have x3 : ¬ w2.heap.size = b := (by omega); have y4 : ¬ b = (w2.heap.size + 1) := (by omega); have x4 : ¬ (w2.heap.size + 1) = b := (by omega); have y5 : ¬ w2.heap.size = (w2.heap.size + 1) := (by omega); have x5 : ¬ (w2.heap.size + 1) = w2.heap.size := (by omega))
                | (with_reducible refine (HD.out _ _ (HR.out _ (u2.alloc u2.size _))).mono ?_; rintro e w3 ⟨v', u, rfl, hv', hu', hb3⟩; have u3 : Below wr.heap.size wr w3 := (by with_reducible exact bstep (u2.alloc u2.size _) hb3); have hv2 : RepsF (w2.heap.size + 1) w3 v' y := hv'.mono (by simp); have t1 : (7 : Nat) < 8 := (by assumption); have m9 := boxA1 hb3; obtain ⟨p1, p2⟩ := block_cells m9; have s3 := sizeA1 hb3; have z3 := u3.size; have z2 := u2.size; have y1 : ¬ b1 = w2.heap.size := (by omega); have x1 : ¬ w2.heap.size = b1 := (by omega); have y2 : ¬ b1 = w3.heap.size := (by omega); have x2 : ¬ w3.heap.size = b1 := (by omega); have y3 : ¬ b = w2.heap.size := (by omega); have x3 : ¬ w2.heap.size = b := (by omega); have y4 : ¬ b = w3.heap.size := (by omega); have x4 : ¬ w3.heap.size = b := (by omega); have y5 : ¬ w2.heap.size = w3.heap.size := (by omega); have x5 : ¬ w3.heap.size = w2.heap.size := (by omega))
                | (with_reducible refine (HD.out _ _ (HR.out _ (u2))).mono ?_; rintro e w3 ⟨v', u, rfl, hv', hu', hb3⟩; have u3 : Below wr.heap.size wr w3 := (by with_reducible exact bstep (u2) hb3); have hv2 : RepsF (w2.heap.size) w3 v' y := hv'.mono (by simp); have t1 : (7 : Nat) < 8 := (by assumption); have s3 := hb3.size; have z3 := u3.size; have z2 := u2.size; have y1 : ¬ b1 = w3.heap.size := (by omega); have x1 : ¬ w3.heap.size = b1 := (by omega); have y2 : ¬ b1 = (w3.heap.size + 1) := (by omega); have x2 : ¬ (w3.heap.size + 1) = b1 := (by omega); have y3 : ¬ b = w3.heap.size := (by omega); have x3 : ¬ w3.heap.size = b := (by omega); have y4 : ¬ b = (w3.heap.size + 1) := (by omega); have x4 : ¬ (w3.heap.size + 1) = b := (by omega); have y5 : ¬ w3.heap.size = (w3.heap.size + 1) := (by omega); have x5 : ¬ (w3.heap.size + 1) = w3.heap.size := (by omega))
                | (with_reducible refine (HD.out _ _ (HR.out _ (u2))).mono ?_; rintro e w3 ⟨v', u, rfl, hv', hu', hb3⟩; have u3 : Below wr.heap.size wr w3 := (by with_reducible exact bstep (u2) hb3); have hv2 : RepsF (w2.heap.size) w3 v' y := hv'.mono (by simp); have t1 : (7 : Nat) < 10 := (by assumption); have ux := hb3; have m7' := ((ux.block wr.heap.size (by omega)).trans m7); obtain ⟨p1, p2⟩ := block_cells m7'; have l7 : wr.heap.size < w3.heap.size := lt_heap m7'; have m8' := ((ux.block (wr.heap.size + 1) (by omega)).trans m8); obtain ⟨p3, p4⟩ := block_cells m8'; have l8 : wr.heap.size + 1 < w3.heap.size := lt_heap m8'; have z3 := u3.size; have z2 := u2.size; have y1 : ¬ b1 = wr.heap.size := (by omega); have x1 : ¬ wr.heap.size = b1 := (by omega); have y2 : ¬ b1 = (wr.heap.size + 1) := (by omega); have x2 : ¬ (wr.heap.size + 1) = b1 := (by omega); have y3 : ¬ b = wr.heap.size := (by omega); have x3 : ¬ wr.heap.size = b := (by omega); have y4 : ¬ b = (wr.heap.size + 1) := (by omega); have x4 : ¬ (wr.heap.size + 1) = b := (by omega); have y5 : ¬ wr.heap.size = (wr.heap.size + 1) := (by omega); have x5 : ¬ (wr.heap.size + 1) = wr.heap.size := (by omega))
                | (with_reducible refine (HD.out _ _ (HR.out _ (u2.alloc u2.size _))).mono ?_; rintro e w3 ⟨v', u, rfl, hv', hu', hb3⟩; have u3 : Below wr.heap.size wr w3 := (by with_reducible exact bstep (u2.alloc u2.size _) hb3); have hv2 : RepsF (w2.heap.size + 1) w3 v' y := hv'.mono (by simp); have t1 : (7 : Nat) < 9 := (by assumption); have ux := bstep (balloc w2 _) hb3; have m9 := boxA1 hb3; obtain ⟨p3, p4⟩ := block_cells m9; have s3 := sizeA1 hb3; have m7' := ((ux.block wr.heap.size (by omega)).trans m7); obtain ⟨p1, p2⟩ := block_cells m7'; have l7 : wr.heap.size < w3.heap.size := lt_heap m7'; have z3 := u3.size; have z2 := u2.size; have y1 : ¬ b1 = wr.heap.size := (by omega); have x1 : ¬ wr.heap.size = b1 := (by omega); have y2 : ¬ b1 = w2.heap.size := (by omega); have x2 : ¬ w2.heap.size = b1 := (by omega); have y3 : ¬ b = wr.heap.size := (by omega); have x3 : ¬ wr.heap.size = b := (by omega); have y4 : ¬ b = w2.heap.size := (by omega); have x4 : ¬ w2.heap.size = b := (by omega); have y5 : ¬ wr.heap.size = w2.heap.size := (by omega); have x5 : ¬ w2.heap.size = wr.heap.size := (by omega))
                | (with_reducible refine (HD.out _ _ (HR.out _ (u2))).mono ?_; rintro e w3 ⟨v', u, rfl, hv', hu', hb3⟩; have u3 : Below wr.heap.size wr w3 := (by with_reducible exact bstep (u2) hb3); have hv2 : RepsF (w2.heap.size) w3 v' y := hv'.mono (by simp); have t1 : (7 : Nat) < 9 := (by assumption); have ux := hb3; have s3 := hb3.size; have m7' := ((ux.block wr.heap.size (by omega)).trans m7); obtain ⟨p1, p2⟩ := block_cells m7'; have l7 : wr.heap.size < w3.heap.size := lt_heap m7'; have z3 := u3.size; have z2 := u2.size; have y1 : ¬ b1 = wr.heap.size := (by omega); have x1 : ¬ wr.heap.size = b1 := (by omega); have y2 : ¬ b1 = w3.heap.size := (by omega); have x2 : ¬ w3.heap.size = b1 := (by omega); have y3 : ¬ b = wr.heap.size := (by omega); have x3 : ¬ wr.heap.size = b := (by omega); have y4 : ¬ b = w3.heap.size := (by omega); have x4 : ¬ w3.heap.size = b := (by omega); have y5 : ¬ wr.heap.size = w3.heap.size := (by omega); have x5 : ¬ w3.heap.size = wr.heap.size := (by omega))); obtain ⟨ps', is', ss', rfl, hl', hf1, hf2, hf3⟩ := hv2; obtain ⟨pa, pc, ia, ic, sa, sc, rfl, rfl, rfl, -⟩ := hl'.lens; obtain ⟨la, lc, rfl⟩ := hu'.rep.shapes; obtain ⟨e5, e6⟩ := same_block (u3.block b1 hb1w); obtain ⟨e7, e8⟩ := same_block (u3.block b hbw)))
          all_goals
            have H0 := (u3.block w.heap.size (by omega)).trans h0
            have H1 := (u3.block b1 hb1w).trans h1
            have HB := hb.trans (u3.mono hb.size)
            go_wp2_with fail
            go_meet
            with_reducible refine fin_cut (g' := ?_) ?_ H0 H1 hl' hf1 hf2 hf3 HB rfl ?_ ?_ ?_ ?_ ?_ ?_
            any_goals first
                | with_reducible exact aft1 _ _ _
                | with_reducible exact aft2 _ _ _
                | ((with_reducible refine aft4 ?_ ?_) <;> (first | assumption | omega))
                | ((with_reducible refine aft3 _ ?_) <;> assumption)
                | ((with_reducible refine aft5 _ ?_) <;> omega)
            all_goals omega
        case rest =>
          obtain ⟨g, ps', is', ss', rfl, rfl, H0, H1, Hg, hrep', hg, hsz', HB⟩ := hcut
          obtain ⟨q1, q2, q3, he, hl, hf1, hf2, hf3⟩ := hrep'
          have he' : ps' = q1 ∧ is' = q2 ∧ ss' = q3 := by simpa [valV] using he
          obtain ⟨rfl, rfl, rfl⟩ := he'
          clear he
          obtain ⟨pa, pc, ia, ic, sa, sc, rfl, rfl, rfl, -⟩ := hl.lens
          obtain ⟨d0, d1⟩ := block_cells Hg
          obtain ⟨d2, d3⟩ := block_cells H1
          have hgl := lt_heap Hg
          have hbl := lt_heap H1
          have hgb : ¬ g = b1 := by omega
          have hgb' : ¬ b1 = g := by omega
          clear h0 h1 hrep HK HD HR c0 c1 c2 c3 c4 s0 s1 s2 s3 s4 s5 v1
          go_wp2_with fail
          refine ⟨⟨m + 1, y, _, _, _, by go_num, by omega, by omega, HSN.out.symm, (keepV (by omega)).trans H0, storedV_block H1, storedV_reps ⟨_, _, _, rfl, hl, hf1, hf2, hf3⟩ (by omega), by rw [sizeV]; exact hsz', storedV_below HB (by omega)⟩, by simp [intOf]; omega⟩
    · have hx24 : x = valFor p l := by
        rw [hx, valFor]
        congr 1
        by_cases h24 : m < 24
        · rw [List.take_of_length_le (by omega), List.take_of_length_le (by omega)]
        · rw [show m = 24 by omega]
      obtain ⟨q1, q2, q3, he, hl, hf1, hf2, hf3⟩ := hrep
      have he' : ps = q1 ∧ is = q2 ∧ ss = q3 := by simpa [valV] using he
      obtain ⟨rfl, rfl, rfl⟩ := he'
      clear he k3
      obtain ⟨pa, pc, ia, ic, sa, sc, rfl, rfl, rfl, -⟩ := hl.lens
      obtain ⟨d0, d1⟩ := block_cells h0
      obtain ⟨d2, d3⟩ := block_cells h1
      have hgl := lt_heap h0
      have hbl := lt_heap h1
      have hgb : ¬ w.heap.size = b1 := by omega
      have hgb' : ¬ b1 = w.heap.size := by omega
      have hx' : (¬ (m : Int) < (l.length : Int)) ∨ ((m : Int) < (l.length : Int) ∧ ¬ (m : Int) < 24) := by omega
      have HX : Hid (x = valFor p l) := hx24
      clear hx hx24 h0 h1 hlt
      rcases hx' with hx | ⟨hx, hy⟩
      · go_wp2_with fail
        refine bodyPost_ret (v := valV x.kind x.text x.count (.slice pa x.pairs.length pc) (.slice ia x.items.length ic) (.slice sa x.scores.length sc)) (by simp [results, Tryz.results33, go_sem, d0]) rfl ⟨_, rfl, ?_, storedV_below hb (Nat.le_refl _)⟩
        rw [← HX.out]
        exact (storedV_reps (B := b2) ⟨_, _, _, rfl, hl, hf1, hf2, hf3⟩ (by omega)).mono (by omega)
      · go_wp2_with fail
        refine bodyPost_ret (v := valV x.kind x.text x.count (.slice pa x.pairs.length pc) (.slice ia x.items.length ic) (.slice sa x.scores.length sc)) (by simp [results, Tryz.results33, go_sem, d0]) rfl ⟨_, rfl, ?_, storedV_below hb (Nat.le_refl _)⟩
        rw [← HX.out]
        exact (storedV_reps (B := b2) ⟨_, _, _, rfl, hl, hf1, hf2, hf3⟩ (by omega)).mono (by omega)
end Go.Proofs.YtgpdnhammdgndaaGreat
