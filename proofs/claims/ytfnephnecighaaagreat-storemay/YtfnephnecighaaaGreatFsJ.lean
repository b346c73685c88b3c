/- A store that shares no list with another one: fresh.Store. -/
import Derived.Test.YtfnephnecighaaaGreatSl8J
import Derived.Test.YtfnephnecighaaaGreatPaJ
import Derived.Deep.RegionHeld3
import Derived.Test.YtfnephnecighaaaGreatVe8
namespace Go.Proofs.YtfnephnecighaaaGreat
open Go.RowKit
set_option linter.unusedVariables false
set_option maxRecDepth 100000

theorem six_own {w : World} {B kk n g o : Nat} {t : TypeId} {v : Value} {xs : List Value} {v1 v2 v3 v4 v5 v6 : Value} (h : w.ownsRow B t kk v n xs) (hne : v.ownBlock ≠ some g) : (sixC w g o v1 v2 v3 v4 v5 v6).ownsRow B t kk v n xs := by
  unfold sixC
  exact own_set (own_set (own_set (own_set (own_set (own_set h hne _) hne _) hne _) hne _) hne _) hne _

/-- A store's copy, as far as its values are copied. -/
structure FS (w : World) (now : Int) (E A : List Ent) (ra : Option Addr) (rc m : Nat) (wr : World) : Prop where
  len : A.length = E.length
  size : w.heap.size + 2 ≤ wr.heap.size
  below : Below w.heap.size w wr
  n0 : wr.heap[w.heap.size]? = some (stoO now (.slice ra E.length rc))
  n1 : wr.heap[w.heap.size + 1]? = some (stoO 0 (.slice none 0 0))
  own : wr.ownsRow (w.heap.size + 2) 57 8 (.slice ra E.length rc) A.length (A.flatMap encE)
  kvs : A.map (·.kv) = E.map (·.kv)
  done : ∀ j (h : j < A.length), j < m → OwnVL (w.heap.size + 2) wr A[j].ps A[j].is A[j].ss A[j].kv.x
  todo : ∀ j (h : j < A.length) (h' : j < E.length), m ≤ j → A[j] = E[j]
theorem FS.mid {w wr w2 : World} {now : Int} {E A : List Ent} {ra : Option Addr} {rc m : Nat} (h : FS w now E A ra rc m wr) (hb : Below wr.heap.size wr w2) : FS w now E A ra rc m w2 where
  len := h.len
  size := Nat.le_trans h.size hb.size
  below := bstep h.below hb
  n0 := (hb.block _ (lt_at h.n0)).trans h.n0
  n1 := (hb.block _ (lt_at h.n1)).trans h.n1
  own := ownsRow_kept h.own hb
  kvs := h.kvs
  done := fun j hj hm => (h.done j hj hm).kept hb
  todo := h.todo
theorem FS.kv {w wr : World} {now : Int} {E A : List Ent} {ra : Option Addr} {rc m : Nat} (h : FS w now E A ra rc m wr) (j : Nat) (hj : j < A.length) (hj' : j < E.length) : A[j].kv = E[j].kv := by
  have := congrArg (fun l => l[j]?) h.kvs
  simp only [List.getElem?_map, List.getElem?_eq_getElem hj, List.getElem?_eq_getElem hj', Option.map_some, Option.some.injEq] at this
  exact this
theorem FS.next {w w2 : World} {now : Int} {E A : List Ent} {g rc m : Nat} (h : FS w now E A (some ⟨g, 0, none⟩) rc m w2) (hm : m < E.length) (e : Ent) (hkv : e.kv = E[m].kv) (hl : OwnVL (w.heap.size + 2) w2 e.ps e.is e.ss e.kv.x) :
    FS w now E (A.set m e) (some ⟨g, 0, none⟩) rc (m + 1) (sixC w2 g (m * 8) (.int .i64 e.kv.x.kind) (.string e.kv.x.text) (.int .i64 e.kv.x.count) e.ps e.is e.ss) := by
  have hmA : m < A.length := by rw [h.len]; exact hm
  obtain ⟨g', cap, S, hs, hgB, hb, hc1, hc2, hc3⟩ := own_open h.own (by omega)
  simp only [Value.slice.injEq, Option.some.injEq, Addr.mk.injEq] at hs
  obtain ⟨⟨rfl, -⟩, hl1, rfl⟩ := hs
  have hk := h.kv m hmA hm
  have hrow := six_block hb (m * 8) (.int .i64 e.kv.x.kind) (.string e.kv.x.text) (.int .i64 e.kv.x.count) e.ps e.is e.ss
  rw [flat_val e A m S hmA (by rw [hkv, hk]) (by rw [hkv, hk])] at hrow
  have hO : ∀ x : Ent, OwnVL (w.heap.size + 2) w2 x.ps x.is x.ss x.kv.x → OwnVL (w.heap.size + 2) (sixC w2 g (m * 8) (.int .i64 e.kv.x.kind) (.string e.kv.x.text) (.int .i64 e.kv.x.count) e.ps e.is e.ss) x.ps x.is x.ss x.kv.x := fun x hx =>
    ⟨six_own hx.p (own_ne hx.p hb (by decide)), six_own hx.i (own_ne hx.i hb (by decide)), six_own hx.s (own_ne hx.s hb (by decide))⟩
  exact {
    len := by rw [List.length_set, h.len]
    size := by rw [six_size]; exact h.size
    below := six_below h.below (by omega)
    n0 := (six_other (by omega)).trans h.n0
    n1 := (six_other (by omega)).trans h.n1
    own := by
      rw [List.length_set, ← hl1]
      refine own_mk (S := S) (by rw [flat_length lenE, List.length_set]; omega) hgB hrow (by omega) hc2 ?_
      rw [List.length_append, flat_length lenE] at hc3 ⊢
      rw [List.length_set]; exact hc3
    kvs := by
      rw [List.map_set, h.kvs, hkv]
      apply List.ext_getElem?
      intro j
      rw [List.getElem?_set]
      split
      · next he => subst he; simp [hm]
      · rfl
    done := fun j hj hjm => by
      rw [List.getElem_set]
      split
      · exact hO e hl
      · exact hO _ (h.done j (by simpa using hj) (by omega))
    todo := fun j hj hj' hjm => by
      rw [List.getElem_set, if_neg (by omega)]
      exact h.todo j (by simpa using hj) hj' (by omega) }

theorem row_eight {w : World} {g m : Nat} {A : List Ent} {S : List Value} {t : TypeId} {e : Ent} (hb : w.heap[g]? = some (.cells (A.flatMap encE ++ S).toArray t (0, 0))) (hm : m < A.length) (he : A[m] = e) :
    w.cell? ⟨g, m * 8, none⟩ = some (.string e.kv.key) ∧ w.cell? ⟨g, m * 8 + 1, none⟩ = some (.int .i64 e.kv.x.kind) ∧ w.cell? ⟨g, m * 8 + 2, none⟩ = some (.string e.kv.x.text) ∧ w.cell? ⟨g, m * 8 + 3, none⟩ = some (.int .i64 e.kv.x.count) ∧
    w.cell? ⟨g, m * 8 + 4, none⟩ = some e.ps ∧ w.cell? ⟨g, m * 8 + 5, none⟩ = some e.is ∧ w.cell? ⟨g, m * 8 + 6, none⟩ = some e.ss ∧ w.cell? ⟨g, m * 8 + 7, none⟩ = some (.int .i64 e.kv.til) ∧ (∀ o, w.frozen? ⟨g, o, none⟩ = false) := by
  have hcw : ∀ c, c < 8 → w.cell? ⟨g, m * 8 + c, none⟩ = (encE e)[c]? := by
    intro c hc
    rw [(cellsB hb).1 (m * 8 + c), List.getElem?_toArray, List.getElem?_append_left (by rw [flat_length lenE]; omega), flat_get 8 encE lenE A m hm c hc, he]
  exact ⟨hcw 0 (by omega), hcw 1 (by omega), hcw 2 (by omega), hcw 3 (by omega), hcw 4 (by omega), hcw 5 (by omega), hcw 6 (by omega), hcw 7 (by omega), (cellsB hb).2⟩

theorem two_newF (w : World) (o0 o1 : Obj) : ((w.alloc o0).alloc o1).heap[w.heap.size]? = some o0 ∧ ((w.alloc o0).alloc o1).heap[w.heap.size + 1]? = some o1 ∧ Below w.heap.size w ((w.alloc o0).alloc o1) ∧ ((w.alloc o0).alloc o1).heap.size = w.heap.size + 2 := by
  refine ⟨?_, ?_, (balloc _ _).alloc (by simp) _, by simp⟩
  · rw [Below.heap_alloc _ _ _ (by simp)]
    show ((_ : Array Obj).push _)[_]? = _
    simp
  · show ((_ : Array Obj).push _)[_]? = _
    rw [Array.getElem?_push, if_pos (by simp)]

set_option maxHeartbeats 8000000 in
theorem freshStore_core (now : Int) (ea : Option Addr) (ec : Nat) (E : List Ent) (w : World) (hrow : RowAt 8 encE w (.slice ea E.length ec) E) (hls : ∀ e ∈ E, Lists w e.ps e.is e.ss e.kv.x) (hsz : ∀ e ∈ E, e.kv.x.size ≤ 1048576) (hn : E.length ≤ 1048576) :
    Calls Tryz.prog 74 #[stoV now (.slice ea E.length ec)] w fun e w' => ∃ (sv : Value) (A : List Ent), e = .returned (stoV now sv) ∧ w'.ownsRow w.heap.size 57 8 sv A.length (A.flatMap encE) ∧ A.map (·.kv) = E.map (·.kv) ∧ (∀ e ∈ A, OwnVL w.heap.size w' e.ps e.is e.ss e.kv.x) ∧ Below w.heap.size w w' := by
  have HLS : Hid (∀ e ∈ E, Lists w e.ps e.is e.ss e.kv.x) := hls
  have HSZ : Hid (∀ e ∈ E, e.kv.x.size ≤ 1048576) := hsz
  have HL : Hid (∀ W, Below w.heap.size w W → Calls Tryz.prog 101 #[.slice ea E.length ec] W fun e w' => ∃ r, e = .returned r ∧ OwnL W.heap.size 57 8 encE w' r E ∧ Below W.heap.size W w') := fun W hW => listE_any _ E W (hrow.below hW) hn
  clear hrow hls hsz
  go_enter Tryz.func74, Tryz.ntmps74
  go_wp2_with fail
  obtain ⟨n0, n1, hB0, hs0⟩ := two_newF w (stoO now (.slice ea E.length ec)) (stoO 0 (.slice none 0 0))
  generalize (w.alloc (stoO now (.slice ea E.length ec))).alloc (stoO 0 (.slice none 0 0)) = V0 at n0 n1 hB0 hs0 ⊢
  refine (HL.out _ hB0).mono ?_
  rintro e w1 ⟨r, rfl, hown, hb1⟩
  obtain ⟨ra, rc, rfl⟩ := ownsRow_shape hown.1
  have m0 := (hb1.block _ (lt_at n0)).trans n0
  have m1 := (hb1.block _ (lt_at n1)).trans n1
  have hB1 := bstep hB0 hb1
  have hz1 : w.heap.size + 2 ≤ w1.heap.size := by rw [← hs0]; exact hb1.size
  have hst : FS w now E E ra rc 0 (w1.setCell ⟨w.heap.size, 1, none⟩ (.slice ra E.length rc)) := {
    len := rfl
    size := by simpa [World.setCell] using hz1
    below := hB1.setCell (by simp) _
    n0 := setCell_in (.slice ra E.length rc) (o := 1) m0
    n1 := (Below.heap_setCell _ _ _ _ (by simp)).trans m1
    own := ownsRow_setCell_below (ownsRow_base hown.1 (by omega)) (a := ⟨w.heap.size, 1, none⟩) (by show w.heap.size < w.heap.size + 2; omega) _
    kvs := rfl
    done := fun j hj hm => absurd hm (by omega)
    todo := fun j hj hj' hm => rfl }
  have ST : Hid (FS w now E E ra rc 0 (w1.setCell ⟨w.heap.size, 1, none⟩ (.slice ra E.length rc))) := hst
  obtain ⟨c0, f0⟩ := cellsB m0
  have hl0 := lt_at m0
  clear n0 n1 hB0 hs0 hown hb1 m0 m1 hB1 hz1 hst HL
  go_wp2_with fail
  clear c0 f0 hl0
  go_loopw [12] (fun c wr => ∃ (m : Nat) (A : List Ent), c = .int .i64 (m : Int) ∧ FS w now E A ra rc m wr ∧ m ≤ E.length) (fun c _ => E.length - (intOf c).toNat)
  case atStart => exact ⟨0, E, by simp, ST.out, by omega⟩
  case round =>
    clear ST
    obtain ⟨m, A, rfl, hst, hmE⟩ := hrel
    have HST : Hid (FS w now E A ra rc m wr) := hst
    obtain ⟨q0, f0⟩ := cellsB hst.n0
    by_cases hlt : m < E.length
    · have hi0 : (m : Int) < (E.length : Int) := by omega
      have hmA : m < A.length := by rw [hst.len]; exact hlt
      obtain ⟨g, cap, S, hs, hgB, hb, hc1, hc2, hc3⟩ := own_open hst.own (by omega)
      simp only [Value.slice.injEq] at hs
      obtain ⟨rfl, -, rfl⟩ := hs
      have hAm := hst.todo m hmA hlt (Nat.le_refl _)
      have hgl := lt_at hb
      have hlm := (HLS.out E[m] (List.getElem_mem hlt)).below hst.below
      have hsm := HSZ.out E[m] (List.getElem_mem hlt)
      have hkvE : ∃ y : Ent, y = E[m] := ⟨_, rfl⟩
      obtain ⟨⟨⟨key, ⟨kind, text, count, pairs, items, scores⟩, til⟩, pa, pc, ia, ic, sa, sc⟩, hel⟩ := hkvE
      have HKV : Hid (E[m].kv = ⟨key, ⟨kind, text, count, pairs, items, scores⟩, til⟩) := by show E[m].kv = _; rw [← hel]
      rw [← hel] at hlm hsm hAm
      simp only at hlm hsm
      have HE8 : Hid (∀ W : World, W.heap[g]? = some (.cells (A.flatMap encE ++ S).toArray 57 (0, 0)) → _) := fun W h => row_eight (e := ⟨⟨key, ⟨kind, text, count, pairs, items, scores⟩, til⟩, pa, pc, ia, ic, sa, sc⟩) h hmA hAm
      have HB : Hid (wr.heap[g]? = some (.cells (A.flatMap encE ++ S).toArray 57 (0, 0))) := hb
      obtain ⟨c0, c1, c2, c3, c4, c5, c6, c7, fz⟩ := HE8.out wr hb
      simp only at c0 c1 c2 c3 c4 c5 c6 c7
      have hvc := fun W (hW : Below wr.heap.size wr W) => copied_any (valV kind text count (.slice pa pairs.length pc) (.slice ia items.length ic) (.slice sa scores.length sc)) ⟨kind, text, count, pairs, items, scores⟩ W ⟨_, _, _, rfl, hlm.below hW⟩ hsm
      clear hel hlm hsm hAm hb hc3 hst
      have ngb : ¬ g = wr.heap.size := by omega
      have ngw : ¬ g = w.heap.size := by omega
      go_upto_region 5 with fail
      have nx := alloc_at wr (entO key kind text count (.slice pa pairs.length pc) (.slice ia items.length ic) (.slice sa scores.length sc) til)
      have hbl := balloc wr (entO key kind text count (.slice pa pairs.length pc) (.slice ia items.length ic) (.slice sa scores.length sc) til)
      have hV := HST.out.mid hbl
      have hbV := (hbl.block g hgl).trans HB.out
      have HC : Hid (∀ W, Below (wr.alloc (entO key kind text count (.slice pa pairs.length pc) (.slice ia items.length ic) (.slice sa scores.length sc) til)).heap.size (wr.alloc (entO key kind text count (.slice pa pairs.length pc) (.slice ia items.length ic) (.slice sa scores.length sc) til)) W → Calls Tryz.prog 30 #[valV kind text count (.slice pa pairs.length pc) (.slice ia items.length ic) (.slice sa scores.length sc)] W fun e w' => ∃ ps is ss, e = .returned (valV kind text count ps is ss) ∧ OwnLists W.heap.size w' ps is ss ⟨kind, text, count, pairs, items, scores⟩ ∧ Below W.heap.size W w') := fun W hW => hvc W (bstep hbl hW)
      clear c0 c1 c2 c3 c4 c5 c6 c7 fz q0 f0 hvc hbl HB hgl
      generalize wr.alloc (entO key kind text count (.slice pa pairs.length pc) (.slice ia items.length ic) (.slice sa scores.length sc) til) = V at nx hV hbV HC ⊢
      generalize wr.heap.size = b4 at nx ngb ⊢
      obtain ⟨q0, f0⟩ := cellsB hV.n0
      obtain ⟨x0, xf⟩ := cellsB nx
      obtain ⟨s1, s2, s3, s4, s5, s6⟩ : V.cell? ⟨b4, 1, none⟩ = some (.int .i64 kind) ∧ V.cell? ⟨b4, 2, none⟩ = some (.string text) ∧ V.cell? ⟨b4, 3, none⟩ = some (.int .i64 count) ∧ V.cell? ⟨b4, 4, none⟩ = some (.slice pa pairs.length pc) ∧ V.cell? ⟨b4, 5, none⟩ = some (.slice ia items.length ic) ∧ V.cell? ⟨b4, 6, none⟩ = some (.slice sa scores.length sc) := ⟨x0 1, x0 2, x0 3, x0 4, x0 5, x0 6⟩
      have s7 : V.cell? ⟨w.heap.size, 1, none⟩ = some (.slice (some ⟨g, 0, none⟩) E.length rc) := q0 1
      have HV : Hid (FS w now E A (some ⟨g, 0, none⟩) rc m V) := hV
      have HBV : Hid (V.heap[g]? = some (.cells (A.flatMap encE ++ S).toArray 57 (0, 0))) := hbV
      have l0 := lt_at hV.n0
      have l4 := lt_at nx
      have lg := lt_at hbV
      clear q0 x0 hV hbV nx
      go_region_held3 (fun w' => w'.cell? ⟨b4, 1, none⟩ = some (.int .i64 kind) ∧ w'.cell? ⟨b4, 2, none⟩ = some (.string text) ∧ w'.cell? ⟨b4, 3, none⟩ = some (.int .i64 count) ∧ w'.cell? ⟨b4, 4, none⟩ = some (.slice pa pairs.length pc) ∧ w'.cell? ⟨b4, 5, none⟩ = some (.slice ia items.length ic) ∧ w'.cell? ⟨b4, 6, none⟩ = some (.slice sa scores.length sc) ∧ w'.cell? ⟨w.heap.size, 1, none⟩ = some (.slice (some ⟨g, 0, none⟩) E.length rc)) (go_keep)
        (first | (go_at_call 30; refine (HC.out _ (by first | exact Below.refl _ _ | exact (Below.refl _ _).drew)).mono ?_; rintro e w2 ⟨p1, p2, p3, rfl, hown, hb2⟩; obtain ⟨a1, e1, rfl⟩ := ownsRow_shape hown.p.1; obtain ⟨a2, e2, rfl⟩ := ownsRow_shape hown.i.1; obtain ⟨a3, e3, rfl⟩ := ownsRow_shape hown.s.1; have hb2 : Below V.heap.size V w2 := (by first | exact hb2 | exact bstep (Below.refl _ _).drew hb2); have HOW : Hid (OwnVL V.heap.size w2 (.slice a1 pairs.length e1) (.slice a2 items.length e2) (.slice a3 scores.length e3) ⟨kind, text, count, pairs, items, scores⟩) := (⟨hown.p.1, hown.i.1, hown.s.1⟩ : OwnVL V.heap.size w2 (.slice a1 pairs.length e1) (.slice a2 items.length e2) (.slice a3 scores.length e3) ⟨kind, text, count, pairs, items, scores⟩); obtain ⟨y1, y2⟩ := same_block (hb2.block b4 l4); obtain ⟨y3, y4⟩ := same_block (hb2.block w.heap.size l0); obtain ⟨c0, c1, c2, c3, c4, c5, c6, c7, fz⟩ := HE8.out w2 ((hb2.block g lg).trans HBV.out); simp only at c0 c1 c2 c3 c4 c5 c6 c7; have lg2 := bsize hb2 lg; clear hown))
      all_goals
        have hnx := FS.next (HV.out.mid hb2) hlt ⟨⟨key, ⟨kind, text, count, pairs, items, scores⟩, til⟩, a1, e1, a2, e2, a3, e3⟩ HKV.out.symm (HOW.out.base HV.out.size)
        clear y1 y2 y3 y4 c0 c7
        go_wp2_with fail
        refine ⟨⟨m + 1, _, by go_num, hnx, by omega⟩, ?_⟩
        simp [intOf]; omega
    · have hge : ¬ (m : Int) < (E.length : Int) := by omega
      have hme : m = E.length := by omega
      obtain ⟨q1, f1⟩ := cellsB hst.n1
      have z1 : w.heap.size < wr.heap.size := by have := hst.size; omega
      have z2 : w.heap.size + 1 < wr.heap.size := by have := hst.size; omega
      have HME : Hid (m = E.length) := hme
      have hown : ∀ {e : TypeId} {k n : Nat} {v : Value} {xs : List Value} {u0 u1 : Value}, wr.ownsRow (w.heap.size + 2) e k v n xs →
          (((wr.setCell ⟨w.heap.size + 1, 0, none⟩ u0).setCell ⟨w.heap.size + 1, 1, none⟩ u1)).ownsRow (w.heap.size + 2) e k v n xs := by
        intro e k n v xs u0 u1 h
        refine ownsRow_setCell_below (ownsRow_setCell_below h ?_ _) ?_ _
        all_goals (show w.heap.size + 1 < w.heap.size + 2; omega)
      clear hst hme
      go_wp2_with fail
      refine bodyPost_ret (v := stoV now (.slice ra E.length rc)) (by simp [results, Tryz.results74, go_sem, q1]) rfl ?_
      first | refine ⟨.slice ra E.length rc, rfl, A, ?_, HST.out.kvs, ?_, ?_⟩ | refine ⟨.slice ra E.length rc, A, rfl, ?_, HST.out.kvs, ?_, ?_⟩
      · exact ownsRow_base (hown HST.out.own) (by omega)
      · intro x hx
        obtain ⟨j, hj, rfl⟩ := List.getElem_of_mem hx
        have h := HST.out.done j hj (by rw [HME.out, ← HST.out.len]; exact hj)
        exact OwnVL.base ⟨hown h.p, hown h.i, hown h.s⟩ (by omega)
      · exact (HST.out.below.setCell (by simp) _).setCell (by simp) _
end Go.Proofs.YtfnephnecighaaaGreat

/- slices.DeleteFunc over a row of entries of the call's own: what stays. -/
namespace Go.Proofs.YtfnephnecighaaaGreat
open Go.RowKit
set_option linter.unusedVariables false
set_option maxRecDepth 100000

theorem idxI_cases {α : Type} (pr : α → Bool) (l : List α) : (idxI pr l = -1 ∧ ∀ a ∈ l, pr a = false) ∨ ∃ i, ∃ h : i < l.length, idxI pr l = (i : Int) ∧ pr l[i] = true ∧ ∀ j (hj : j < i), pr (l[j]'(by omega)) = false := by
  unfold idxI
  cases h : l.findIdx? pr with
  | none =>
    rw [List.findIdx?_eq_none_iff] at h
    exact .inl ⟨rfl, h⟩
  | some i =>
    rw [List.findIdx?_eq_some_iff_getElem] at h
    obtain ⟨hi, hp, hno⟩ := h
    exact .inr ⟨i, hi, rfl, hp, fun j hj => by simpa using hno j hj⟩
theorem ret_slice {a : Option Addr} {i n c : Nat} (h : n = i) : Ending.returned (.slice a i c) = .returned (.slice a n c) := by rw [h]
theorem drop_at {α : Type} {C A : List α} {j : Nat} (h : C.drop j = A.drop j) (hC : j < C.length) (hA : j < A.length) : C[j] = A[j] := by
  rw [List.drop_eq_getElem_cons hC, List.drop_eq_getElem_cons hA] at h
  exact (List.cons.inj h).1
theorem drop_next {α : Type} {C A : List α} {j : Nat} (h : C.drop j = A.drop j) : C.drop (j + 1) = A.drop (j + 1) := by
  have := congrArg (List.drop 1) h
  simpa [List.drop_drop] using this

set_option maxHeartbeats 8000000 in
theorem deleteFuncE (B g cap f : Nat) (lb : Array Value) (pr : Ent → Bool) (A : List Ent) (S : List Value) (w : World) (eg : ∀ args w, (callFunc f args).run Tryz.prog w = .ok (.enter f args) w)
    (hgB : B ≤ g) (hBw : B ≤ w.heap.size) (hb : w.heap[g]? = some (.cells (A.flatMap encE ++ S).toArray 57 (0, 0))) (hcap : A.length ≤ cap) (hmax : cap ≤ maxLen) (hsm : A.length ≤ 1048576) (hS : (A.flatMap encE ++ S).length = cap * 8)
    (hf : ∀ e ∈ A, ∀ W, Apart B g w W → Calls Tryz.prog f (#[valE e] ++ lb) W fun r w' => r = .returned (.bool (pr e)) ∧ Below W.heap.size W w') :
    Calls Tryz.prog 102 #[.slice (some ⟨g, 0, none⟩) A.length cap, .func (.func f) #[] lb] w fun e w' =>
      e = .returned (.slice (some ⟨g, 0, none⟩) (A.filter (fun e => !pr e)).length cap) ∧ (∃ S', w'.heap[g]? = some (.cells ((A.filter (fun e => !pr e)).flatMap encE ++ S').toArray 57 (0, 0)) ∧ ((A.filter (fun e => !pr e)).flatMap encE ++ S').length = cap * 8) ∧ Apart B g w w' := by
  obtain ⟨ti, hti, hz, hszi, hby⟩ := info_parts info_entry
  have hown : w.ownsRow B 57 8 (.slice (some ⟨g, 0, none⟩) A.length cap) A.length (A.flatMap encE) := own_mk (flat_length lenE A) hgB hb hcap hmax hS
  have hidx := indexFuncE f lb pr _ A eg w (RowAt.ofOwn lenE hown (by omega)) (fun e he W hW => hf e he W ((Apart.refl B g w).step hBw hW))
  have HF : Hid (∀ e ∈ A, ∀ W, Apart B g w W → Calls Tryz.prog f (#[valE e] ++ lb) W fun r w' => r = .returned (.bool (pr e)) ∧ Below W.heap.size W w') := hf
  have HI : Hid (Calls Tryz.prog 86 #[.slice (some ⟨g, 0, none⟩) A.length cap, .func (.func f) #[] lb] w fun e w' => e = .returned (.int .i64 (idxI pr A)) ∧ Below w.heap.size w w') := hidx
  have HB : Hid (w.heap[g]? = some (.cells (A.flatMap encE ++ S).toArray 57 (0, 0)) ∧ (A.flatMap encE ++ S).length = cap * 8) := ⟨hb, hS⟩
  have hgl := lt_at hb
  unfold maxLen at hmax
  clear hf hown hidx hb hS
  go_enter Tryz.func102, Tryz.ntmps102
  go_wp2_with fail
  refine HI.out.mono ?_
  rintro e w1 ⟨rfl, hb1⟩
  have AP1 : Hid (Apart B g w w1) := (Apart.refl B g w).step hBw hb1
  have HB1 : Hid (w1.heap[g]? = some (.cells (A.flatMap encE ++ S).toArray 57 (0, 0))) := (hb1.block g hgl).trans HB.out.1
  clear hb1 HI
  rcases idxI_cases pr A with ⟨hi, hall⟩ | ⟨i0, hi0, hi, hp, hno⟩
  · rw [hi]
    have HA : Hid (A.filter (fun e => !pr e) = A) := List.filter_eq_self.2 fun a ha => by simp [hall a ha]
    clear hall hi
    go_wp2_with fail
    go_ret
    rw [HA.out]
    exact ⟨rfl, ⟨S, HB1.out, HB.out.2⟩, AP1.out⟩
  · rw [hi]
    have HST : Hid (A.take i0 = (A.take (i0 + 1)).filter (fun e => !pr e)) := by
      show A.take i0 = _
      rw [filter_snoc _ _ _ hi0, if_neg (by simp [hp]), List.append_nil]
      symm
      rw [List.filter_eq_self]
      intro a ha
      obtain ⟨j, hj, rfl⟩ := List.getElem_of_mem ha
      rw [List.length_take] at hj
      rw [List.getElem_take, hno j (by omega)]; rfl
    have hne : ((i0 : Int) == -1) = false := beq_eq_false_iff_ne.2 (by omega)
    have hw0 : IntKind.i64.wrap ((i0 : Int) + 1) = (i0 : Int) + 1 := by rw [IntKind.wrap_i64]; omega
    clear hi hp hno
    go_wp2_with fail
    clear hne hw0
    go_loopw [5, 6] (fun iv jv wr => ∃ (i j : Nat) (C : List Ent), iv = .int .i64 (i : Int) ∧ jv = .int .i64 (j : Int) ∧ i < j ∧ j ≤ A.length ∧ C.length = A.length ∧ C.take i = (A.take j).filter (fun e => !pr e) ∧ C.drop j = A.drop j ∧
      wr.heap[g]? = some (.cells (C.flatMap encE ++ S).toArray 57 (0, 0)) ∧ Apart B g w wr) (fun _ jv _ => A.length - (intOf jv).toNat)
    case atStart => exact ⟨i0, i0 + 1, A, rfl, by go_num, by omega, by omega, rfl, HST.out, rfl, HB1.out, AP1.out⟩
    case round =>
      clear HST HB1 AP1 hi0
      obtain ⟨i, j, C, rfl, rfl, hij, hjn, hCl, hCt, hCd, hrow, hap⟩ := hrel
      have HCT : Hid (C.take i = (A.take j).filter (fun e => !pr e)) := hCt
      have HCD : Hid (C.drop j = A.drop j) := hCd
      have HRW : Hid (wr.heap[g]? = some (.cells (C.flatMap encE ++ S).toArray 57 (0, 0))) := hrow
      have HAP : Hid (Apart B g w wr) := hap
      clear hCt hCd hap
      by_cases hlt : j < A.length
      · have hj0 : (j : Int) < (A.length : Int) := by omega
        have hjc : j < C.length := by omega
        have hic : i < C.length := by omega
        have hCj := drop_at HCD.out hjc hlt
        have hkvE : ∃ y : Ent, y = A[j] := ⟨_, rfl⟩
        obtain ⟨e, hel⟩ := hkvE
        have HFe : Hid (∀ W, Apart B g w W → Calls Tryz.prog f (#[valE e] ++ lb) W fun r w' => r = .returned (.bool (pr e)) ∧ Below W.heap.size W w') := fun W hW => HF.out e (by rw [hel]; exact List.getElem_mem hlt) W hW
        have HSN : Hid ((A.take (j + 1)).filter (fun e => !pr e) = C.take i ++ (if (!pr e) = true then [e] else [])) := by
          show (A.take (j + 1)).filter _ = _
          rw [filter_snoc _ _ _ hlt, HCT.out, hel]
        rw [← hel] at hCj
        have HCE : Hid (C[j] = e) := hCj
        obtain ⟨⟨key, ⟨kind, text, count, pairs, items, scores⟩, til⟩, pa, pc, ia, ic, sa, sc⟩ := e
        obtain ⟨c0, c1, c2, c3, c4, c5, c6, c7, fz⟩ := row_eight hrow hjc hCj
        simp only at c0 c1 c2 c3 c4 c5 c6 c7
        have hgw := lt_at hrow
        have hii : (i : Int) < (A.length : Int) := by omega
        have hii0 : (0 : Int) ≤ (i : Int) := by omega
        have hBr : B ≤ wr.heap.size := Nat.le_trans hBw HAP.out.size
        clear hrow hel hCj HF
        go_wp2_with fail
        have hbl := balloc wr (entO key kind text count (.slice pa pairs.length pc) (.slice ia items.length ic) (.slice sa scores.length sc) til)
        have nx := alloc_at wr (entO key kind text count (.slice pa pairs.length pc) (.slice ia items.length ic) (.slice sa scores.length sc) til)
        refine (HFe.out _ (HAP.out.step hBr hbl)).mono ?_
        rintro e w2 ⟨rfl, hb2⟩
        have nx2 := (hb2.block _ (lt_at nx)).trans nx
        have hbb := bstep hbl hb2
        have HRW2 : Hid (w2.heap[g]? = some (.cells (C.flatMap encE ++ S).toArray 57 (0, 0))) := (hbb.block g hgw).trans HRW.out
        have HAP2 : Hid (Apart B g w w2) := HAP.out.step hBr hbb
        clear c0 c1 c2 c3 c4 c5 c6 c7 fz hbl nx hb2 hbb HFe HRW HAP
        cases hp : pr ⟨⟨key, ⟨kind, text, count, pairs, items, scores⟩, til⟩, pa, pc, ia, ic, sa, sc⟩
        · have HP : Hid (pr ⟨⟨key, ⟨kind, text, count, pairs, items, scores⟩, til⟩, pa, pc, ia, ic, sa, sc⟩ = false) := hp
          clear hp
          obtain ⟨x0, xf⟩ := cellsB nx2
          have hCi : ∃ y : Ent, C[i] = y := ⟨_, rfl⟩
          obtain ⟨y, hy⟩ := hCi
          obtain ⟨c0, c1, c2, c3, c4, c5, c6, c7, fz⟩ := row_eight HRW2.out hic hy
          have hg2 := lt_at HRW2.out
          have hgx : ¬ g = wr.heap.size := by omega
          have HNB : Hid _ := eightC_block HRW2.out (i * 8) (.string key) (.int .i64 kind) (.string text) (.int .i64 count) (.slice pa pairs.length pc) (.slice ia items.length ic) (.slice sa scores.length sc) (.int .i64 til)
          have HNA : Hid _ := HAP2.out.eight (o := i * 8) (v0 := .string key) (v1 := .int .i64 kind) (v2 := .string text) (v3 := .int .i64 count) (v4 := .slice pa pairs.length pc) (v5 := .slice ia items.length ic) (v6 := .slice sa scores.length sc) (v7 := .int .i64 til) hgB
          have hwi : IntKind.i64.wrap ((i : Int) + 1) = (i : Int) + 1 := by rw [IntKind.wrap_i64]; omega
          have hwj : IntKind.i64.wrap ((j : Int) + 1) = (j : Int) + 1 := by rw [IntKind.wrap_i64]; omega
          clear hy
          go_wp2_with fail
          refine ⟨⟨i + 1, j + 1, C.set i ⟨⟨key, ⟨kind, text, count, pairs, items, scores⟩, til⟩, pa, pc, ia, ic, sa, sc⟩, by go_num, by go_num, by omega, by omega, by rw [List.length_set]; exact hCl, ?_, ?_, ?_, HNA.out⟩, by simp [intOf]; omega⟩
          · rw [HSN.out, HP.out, List.take_succ_eq_append_getElem (by rw [List.length_set]; exact hic), take_set_self]
            simp
          · rw [List.drop_set_of_lt (by omega)]; exact drop_next HCD.out
          · have := HNB.out
            rw [flat_ent ⟨⟨key, ⟨kind, text, count, pairs, items, scores⟩, til⟩, pa, pc, ia, ic, sa, sc⟩ C i S hic] at this
            exact this
        · have HP : Hid (pr ⟨⟨key, ⟨kind, text, count, pairs, items, scores⟩, til⟩, pa, pc, ia, ic, sa, sc⟩ = true) := hp
          clear hp
          have hwj : IntKind.i64.wrap ((j : Int) + 1) = (j : Int) + 1 := by rw [IntKind.wrap_i64]; omega
          clear nx2
          go_wp2_with fail
          exact ⟨⟨i, j + 1, C, rfl, by go_num, by omega, by omega, hCl, by rw [HSN.out, HP.out]; simp, drop_next HCD.out, HRW2.out, HAP2.out⟩, by simp [intOf]; omega⟩
      · have hge : ¬ (j : Int) < (A.length : Int) := by omega
        obtain rfl : j = A.length := by omega
        have HFL : Hid (A.filter (fun e => !pr e) = C.take i) := by show _ = _; rw [HCT.out, List.take_length]
        have hlenS : (C.flatMap encE ++ S).length = cap * 8 := by
          have := HB.out.2
          rw [List.length_append, flat_length lenE] at this ⊢
          rw [hCl]; exact this
        have q1 : (0 : Int) ≤ (i : Int) := by omega
        have q2 : (i : Int) ≤ (A.length : Int) := by omega
        have q3 : i ≤ A.length := by omega
        have q4 : ¬ cap = i := by omega
        have q5 : (i : Int) ≤ (cap : Int) := by omega
        have q6 : i ≤ cap := by omega
        have hcl : ∀ ty c, (Builtin.clear_ #[38] ty #[.slice (some ⟨g, i * 8, none⟩) (A.length - i) c]).run Tryz.prog wr = .ok (.tuple #[]) (wr.setRow g (laid (C.flatMap encE ++ S) (i * 8) (Builtin.zeroCells (zeroE).cells (A.length - i)).toList).toArray) := by
          intro ty c
          refine run_clearK (P := Tryz.prog) wr 38 ty 57 ti zeroE Tryz.underlying38 hti hz g (i * 8) (A.length - i) c _ 57 hrow (by omega) ?_ (zero_ones _)
          rw [zero_len, List.size_toArray, hlenS]
          omega
        have HCL : Hid (∀ ty c, (Builtin.clear_ #[38] ty #[.slice (some ⟨g, i * 8, none⟩) (A.length - i) c]).run Tryz.prog wr = .ok (.tuple #[]) (wr.setRow g (laid (C.flatMap encE ++ S) (i * 8) (Builtin.zeroCells (zeroE).cells (A.length - i)).toList).toArray)) := hcl
        have HLS : Hid ((C.flatMap encE ++ S).length = cap * 8) := hlenS
        have hil : (C.take i).length = i := by rw [List.length_take]; omega
        have HIL : Hid ((C.take i).length = i) := hil
        clear hcl hlenS hrow hil
        go_wp2_with fail
        rw [HCL.out]
        go_wp2_with fail
        go_ret
        have hl8 : ((C.take i).flatMap encE).length = i * 8 := by rw [flat_length lenE, HIL.out]
        have hfl : (C.take i).flatMap encE ++ ((Builtin.zeroCells (zeroE).cells (A.length - i)).toList ++ (C.flatMap encE ++ S).drop (i * 8 + (Builtin.zeroCells (zeroE).cells (A.length - i)).toList.length)) = laid (C.flatMap encE ++ S) (i * 8) (Builtin.zeroCells (zeroE).cells (A.length - i)).toList := by
          have ht : (C.flatMap encE ++ S).take (i * 8) = (C.take i).flatMap encE := by
            rw [flat_split encE C i, List.append_assoc, ← hl8, List.take_left]
          unfold laid
          rw [ht, List.append_assoc]
        rw [HFL.out]
        generalize (Builtin.zeroCells (zeroE).cells (A.length - i)).toList ++ (C.flatMap encE ++ S).drop (i * 8 + (Builtin.zeroCells (zeroE).cells (A.length - i)).toList.length) = Z at hfl
        refine ⟨ret_slice HIL.out, ⟨Z, ?_, ?_⟩, ?_⟩
        · rw [hfl]
          exact setRow_heap wr g _ _ _ _ HRW.out
        · rw [hfl, laid_len _ _ _ (by rw [zero_len, HLS.out]; omega), HLS.out]
        · exact ⟨(HAP.out.below).trans (JustRow.below (JustRow.setRow (g := g) (w := wr) (w' := wr) ⟨⟨rfl, rfl, rfl⟩, rfl, fun _ _ => rfl⟩ _) hgB), by simpa [World.setRow] using HAP.out.size, fun b hl hne => (setRow_other wr g b _ hne).trans (HAP.out.other b hl hne)⟩
end Go.Proofs.YtfnephnecighaaaGreat
