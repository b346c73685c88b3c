/- A store that shares no list with another one: fresh.Store. -/
import Derived.Test.YtfnephnecighaaaGreatFs0
import Derived.Test.YtfnephnecighaaaGreatPa
import Derived.Deep.RegionHeld3
namespace Go.Proofs.YtfnephnecighaaaGreat
open Go.RowKit
set_option linter.unusedVariables false
set_option maxRecDepth 100000

theorem six_own {w : World} {B kk n g o : Nat} {t : TypeId} {v : Value} {xs : List Value} {v1 v2 v3 v4 v5 v6 : Value} (h : w.ownsRow B t kk v n xs) (hne : v.ownBlock ≠ some g) : (sixC w g o v1 v2 v3 v4 v5 v6).ownsRow B t kk v n xs := by
  unfold sixC
  exact own_set (own_set (own_set (own_set (own_set (own_set h hne _) hne _) hne _) hne _) hne _) hne _

/-- A store's copy, as far as its values are copied. -/
structure FS (w : World) (now : Int) (E A : List Ent) (ra : Option Addr) (rc m : Nat) (wr : World) : Prop where
  len : A.length = E.length
  size : w.heap.size + 2 ≤ wr.heap.size
  below : Below w.heap.size w wr
  n0 : wr.heap[w.heap.size]? = some (stoO now (.slice ra E.length rc))
  n1 : wr.heap[w.heap.size + 1]? = some (stoO 0 (.slice none 0 0))
  own : wr.ownsRow (w.heap.size + 2) 57 8 (.slice ra E.length rc) A.length (A.flatMap encE)
  kvs : A.map (·.kv) = E.map (·.kv)
  done : ∀ j (h : j < A.length), j < m → OwnVL (w.heap.size + 2) wr A[j].ps A[j].is A[j].ss A[j].kv.x
  todo : ∀ j (h : j < A.length) (h' : j < E.length), m ≤ j → A[j] = E[j]
theorem FS.mid {w wr w2 : World} {now : Int} {E A : List Ent} {ra : Option Addr} {rc m : Nat} (h : FS w now E A ra rc m wr) (hb : Below wr.heap.size wr w2) : FS w now E A ra rc m w2 where
  len := h.len
  size := Nat.le_trans h.size hb.size
  below := bstep h.below hb
  n0 := (hb.block _ (lt_at h.n0)).trans h.n0
  n1 := (hb.block _ (lt_at h.n1)).trans h.n1
  own := ownsRow_kept h.own hb
  kvs := h.kvs
  done := fun j hj hm => (h.done j hj hm).kept hb
  todo := h.todo
theorem FS.kv {w wr : World} {now : Int} {E A : List Ent} {ra : Option Addr} {rc m : Nat} (h : FS w now E A ra rc m wr) (j : Nat) (hj : j < A.length) (hj' : j < E.length) : A[j].kv = E[j].kv := by
  have := congrArg (fun l => l[j]?) h.kvs
  simp only [List.getElem?_map, List.getElem?_eq_getElem hj, List.getElem?_eq_getElem hj', Option.map_some, Option.some.injEq] at this
  exact this
theorem FS.next {w w2 : World} {now : Int} {E A : List Ent} {g rc m : Nat} (h : FS w now E A (some ⟨g, 0, none⟩) rc m w2) (hm : m < E.length) (e : Ent) (hkv : e.kv = E[m].kv) (hl : OwnVL (w.heap.size + 2) w2 e.ps e.is e.ss e.kv.x) :
    FS w now E (A.set m e) (some ⟨g, 0, none⟩) rc (m + 1) (sixC w2 g (m * 8) (.int .i64 e.kv.x.kind) (.string e.kv.x.text) (.int .i64 e.kv.x.count) e.ps e.is e.ss) := by
  have hmA : m < A.length := by rw [h.len]; exact hm
  obtain ⟨g', cap, S, hs, hgB, hb, hc1, hc2, hc3⟩ := own_open h.own (by omega)
  simp only [Value.slice.injEq, Option.some.injEq, Addr.mk.injEq] at hs
  obtain ⟨⟨rfl, -⟩, hl1, rfl⟩ := hs
  have hk := h.kv m hmA hm
  have hrow := six_block hb (m * 8) (.int .i64 e.kv.x.kind) (.string e.kv.x.text) (.int .i64 e.kv.x.count) e.ps e.is e.ss
  rw [flat_val e A m S hmA (by rw [hkv, hk]) (by rw [hkv, hk])] at hrow
  have hO : ∀ x : Ent, OwnVL (w.heap.size + 2) w2 x.ps x.is x.ss x.kv.x → OwnVL (w.heap.size + 2) (sixC w2 g (m * 8) (.int .i64 e.kv.x.kind) (.string e.kv.x.text) (.int .i64 e.kv.x.count) e.ps e.is e.ss) x.ps x.is x.ss x.kv.x := fun x hx =>
    ⟨six_own hx.p (own_ne hx.p hb (by decide)), six_own hx.i (own_ne hx.i hb (by decide)), six_own hx.s (own_ne hx.s hb (by decide))⟩
  exact {
    len := by rw [List.length_set, h.len]
    size := by rw [six_size]; exact h.size
    below := six_below h.below (by omega)
    n0 := (six_other (by omega)).trans h.n0
    n1 := (six_other (by omega)).trans h.n1
    own := by
      rw [List.length_set, ← hl1]
      refine own_mk (S := S) (by rw [flat_length lenE, List.length_set]; omega) hgB hrow (by omega) hc2 ?_
      rw [List.length_append, flat_length lenE] at hc3 ⊢
      rw [List.length_set]; exact hc3
    kvs := by
      rw [List.map_set, h.kvs, hkv]
      apply List.ext_getElem?
      intro j
      rw [List.getElem?_set]
      split
      · next he => subst he; simp [hm]
      · rfl
    done := fun j hj hjm => by
      rw [List.getElem_set]
      split
      · exact hO e hl
      · exact hO _ (h.done j (by simpa using hj) (by omega))
    todo := fun j hj hj' hjm => by
      rw [List.getElem_set, if_neg (by omega)]
      exact h.todo j (by simpa using hj) hj' (by omega) }

theorem row_eight {w : World} {g m : Nat} {A : List Ent} {S : List Value} {t : TypeId} {e : Ent} (hb : w.heap[g]? = some (.cells (A.flatMap encE ++ S).toArray t (0, 0))) (hm : m < A.length) (he : A[m] = e) :
    w.cell? ⟨g, m * 8, none⟩ = some (.string e.kv.key) ∧ w.cell? ⟨g, m * 8 + 1, none⟩ = some (.int .i64 e.kv.x.kind) ∧ w.cell? ⟨g, m * 8 + 2, none⟩ = some (.string e.kv.x.text) ∧ w.cell? ⟨g, m * 8 + 3, none⟩ = some (.int .i64 e.kv.x.count) ∧
    w.cell? ⟨g, m * 8 + 4, none⟩ = some e.ps ∧ w.cell? ⟨g, m * 8 + 5, none⟩ = some e.is ∧ w.cell? ⟨g, m * 8 + 6, none⟩ = some e.ss ∧ w.cell? ⟨g, m * 8 + 7, none⟩ = some (.int .i64 e.kv.til) ∧ (∀ o, w.frozen? ⟨g, o, none⟩ = false) := by
  have hcw : ∀ c, c < 8 → w.cell? ⟨g, m * 8 + c, none⟩ = (encE e)[c]? := by
    intro c hc
    rw [(cellsB hb).1 (m * 8 + c), List.getElem?_toArray, List.getElem?_append_left (by rw [flat_length lenE]; omega), flat_get 8 encE lenE A m hm c hc, he]
  exact ⟨hcw 0 (by omega), hcw 1 (by omega), hcw 2 (by omega), hcw 3 (by omega), hcw 4 (by omega), hcw 5 (by omega), hcw 6 (by omega), hcw 7 (by omega), (cellsB hb).2⟩

theorem two_newF (w : World) (o0 o1 : Obj) : ((w.alloc o0).alloc o1).heap[w.heap.size]? = some o0 ∧ ((w.alloc o0).alloc o1).heap[w.heap.size + 1]? = some o1 ∧ Below w.heap.size w ((w.alloc o0).alloc o1) ∧ ((w.alloc o0).alloc o1).heap.size = w.heap.size + 2 := by
  refine ⟨?_, ?_, (balloc _ _).alloc (by simp) _, by simp⟩
  · rw [Below.heap_alloc _ _ _ (by simp)]
    show ((_ : Array Obj).push _)[_]? = _
    simp
  · show ((_ : Array Obj).push _)[_]? = _
    rw [Array.getElem?_push, if_pos (by simp)]

set_option maxHeartbeats 8000000 in
theorem freshStore_core (now : Int) (ea : Option Addr) (ec : Nat) (E : List Ent) (w : World) (hrow : RowAt 8 encE w (.slice ea E.length ec) E) (hls : ∀ e ∈ E, Lists w e.ps e.is e.ss e.kv.x) (hsz : ∀ e ∈ E, e.kv.x.size ≤ 1048576) (hn : E.length ≤ 1048576) :
    Calls Tryz.prog 74 #[stoV now (.slice ea E.length ec)] w fun e w' => ∃ (sv : Value) (A : List Ent), e = .returned (stoV now sv) ∧ w'.ownsRow w.heap.size 57 8 sv A.length (A.flatMap encE) ∧ A.map (·.kv) = E.map (·.kv) ∧ (∀ e ∈ A, OwnVL w.heap.size w' e.ps e.is e.ss e.kv.x) ∧ Below w.heap.size w w' := by
  have HLS : Hid (∀ e ∈ E, Lists w e.ps e.is e.ss e.kv.x) := hls
  have HSZ : Hid (∀ e ∈ E, e.kv.x.size ≤ 1048576) := hsz
  have HL : Hid (∀ W, Below w.heap.size w W → Calls Tryz.prog 101 #[.slice ea E.length ec] W fun e w' => ∃ r, e = .returned r ∧ OwnL W.heap.size 57 8 encE w' r E ∧ Below W.heap.size W w') := fun W hW => listE_any _ E W (hrow.below hW) hn
  clear hrow hls hsz
  go_enter Tryz.func74, Tryz.ntmps74
  go_wp2_with fail
  obtain ⟨n0, n1, hB0, hs0⟩ := two_newF w (stoO now (.slice ea E.length ec)) (stoO 0 (.slice none 0 0))
  generalize (w.alloc (stoO now (.slice ea E.length ec))).alloc (stoO 0 (.slice none 0 0)) = V0 at n0 n1 hB0 hs0 ⊢
  refine (HL.out _ hB0).mono ?_
  rintro e w1 ⟨r, rfl, hown, hb1⟩
  obtain ⟨ra, rc, rfl⟩ := ownsRow_shape hown.1
  have m0 := (hb1.block _ (lt_at n0)).trans n0
  have m1 := (hb1.block _ (lt_at n1)).trans n1
  have hB1 := bstep hB0 hb1
  have hz1 : w.heap.size + 2 ≤ w1.heap.size := by rw [← hs0]; exact hb1.size
  have hst : FS w now E E ra rc 0 (w1.setCell ⟨w.heap.size, 1, none⟩ (.slice ra E.length rc)) := {
    len := rfl
    size := by simpa [World.setCell] using hz1
    below := hB1.setCell (by simp) _
    n0 := setCell_in (.slice ra E.length rc) (o := 1) m0
    n1 := (Below.heap_setCell _ _ _ _ (by simp)).trans m1
    own := ownsRow_setCell_below (ownsRow_base hown.1 (by omega)) (a := ⟨w.heap.size, 1, none⟩) (by show w.heap.size < w.heap.size + 2; omega) _
    kvs := rfl
    done := fun j hj hm => absurd hm (by omega)
    todo := fun j hj hj' hm => rfl }
  have ST : Hid (FS w now E E ra rc 0 (w1.setCell ⟨w.heap.size, 1, none⟩ (.slice ra E.length rc))) := hst
  obtain ⟨c0, f0⟩ := cellsB m0
  have hl0 := lt_at m0
  clear n0 n1 hB0 hs0 hown hb1 m0 m1 hB1 hz1 hst HL
  go_wp2_with fail
  clear c0 f0 hl0
  go_loopw [12] (fun c wr => ∃ (m : Nat) (A : List Ent), c = .int .i64 (m : Int) ∧ FS w now E A ra rc m wr ∧ m ≤ E.length) (fun c _ => E.length - (intOf c).toNat)
  case atStart => exact ⟨0, E, by simp, ST.out, by omega⟩
  case round =>
    clear ST
    obtain ⟨m, A, rfl, hst, hmE⟩ := hrel
    have HST : Hid (FS w now E A ra rc m wr) := hst
    obtain ⟨q0, f0⟩ := cellsB hst.n0
    by_cases hlt : m < E.length
    · have hi0 : (m : Int) < (E.length : Int) := by omega
      have hmA : m < A.length := by rw [hst.len]; exact hlt
      obtain ⟨g, cap, S, hs, hgB, hb, hc1, hc2, hc3⟩ := own_open hst.own (by omega)
      simp only [Value.slice.injEq] at hs
      obtain ⟨rfl, -, rfl⟩ := hs
      have hAm := hst.todo m hmA hlt (Nat.le_refl _)
      have hgl := lt_at hb
      have hlm := (HLS.out E[m] (List.getElem_mem hlt)).below hst.below
      have hsm := HSZ.out E[m] (List.getElem_mem hlt)
      have hkvE : ∃ y : Ent, y = E[m] := ⟨_, rfl⟩
      obtain ⟨⟨⟨key, ⟨kind, text, count, pairs, items, scores⟩, til⟩, pa, pc, ia, ic, sa, sc⟩, hel⟩ := hkvE
      have HKV : Hid (E[m].kv = ⟨key, ⟨kind, text, count, pairs, items, scores⟩, til⟩) := by show E[m].kv = _; rw [← hel]
      rw [← hel] at hlm hsm hAm
      simp only at hlm hsm
      have HE8 : Hid (∀ W : World, W.heap[g]? = some (.cells (A.flatMap encE ++ S).toArray 57 (0, 0)) → _) := fun W h => row_eight (e := ⟨⟨key, ⟨kind, text, count, pairs, items, scores⟩, til⟩, pa, pc, ia, ic, sa, sc⟩) h hmA hAm
      have HB : Hid (wr.heap[g]? = some (.cells (A.flatMap encE ++ S).toArray 57 (0, 0))) := hb
      obtain ⟨c0, c1, c2, c3, c4, c5, c6, c7, fz⟩ := HE8.out wr hb
      simp only at c0 c1 c2 c3 c4 c5 c6 c7
      have hvc := fun W (hW : Below wr.heap.size wr W) => copied_any (valV kind text count (.slice pa pairs.length pc) (.slice ia items.length ic) (.slice sa scores.length sc)) ⟨kind, text, count, pairs, items, scores⟩ W ⟨_, _, _, rfl, hlm.below hW⟩ hsm
      clear hel hlm hsm hAm hb hc3 hst
      have ngb : ¬ g = wr.heap.size := by omega
      have ngw : ¬ g = w.heap.size := by omega
      go_upto_region 5 with fail
      have nx := alloc_at wr (entO key kind text count (.slice pa pairs.length pc) (.slice ia items.length ic) (.slice sa scores.length sc) til)
      have hbl := balloc wr (entO key kind text count (.slice pa pairs.length pc) (.slice ia items.length ic) (.slice sa scores.length sc) til)
      have hV := HST.out.mid hbl
      have hbV := (hbl.block g hgl).trans HB.out
      have HC : Hid (∀ W, Below (wr.alloc (entO key kind text count (.slice pa pairs.length pc) (.slice ia items.length ic) (.slice sa scores.length sc) til)).heap.size (wr.alloc (entO key kind text count (.slice pa pairs.length pc) (.slice ia items.length ic) (.slice sa scores.length sc) til)) W → Calls Tryz.prog 30 #[valV kind text count (.slice pa pairs.length pc) (.slice ia items.length ic) (.slice sa scores.length sc)] W fun e w' => ∃ ps is ss, e = .returned (valV kind text count ps is ss) ∧ OwnLists W.heap.size w' ps is ss ⟨kind, text, count, pairs, items, scores⟩ ∧ Below W.heap.size W w') := fun W hW => hvc W (bstep hbl hW)
      clear c0 c1 c2 c3 c4 c5 c6 c7 fz q0 f0 hvc hbl HB hgl
      generalize wr.alloc (entO key kind text count (.slice pa pairs.length pc) (.slice ia items.length ic) (.slice sa scores.length sc) til) = V at nx hV hbV HC ⊢
      generalize wr.heap.size = b4 at nx ngb ⊢
      obtain ⟨q0, f0⟩ := cellsB hV.n0
      obtain ⟨x0, xf⟩ := cellsB nx
      obtain ⟨s1, s2, s3, s4, s5, s6⟩ : V.cell? ⟨b4, 1, none⟩ = some (.int .i64 kind) ∧ V.cell? ⟨b4, 2, none⟩ = some (.string text) ∧ V.cell? ⟨b4, 3, none⟩ = some (.int .i64 count) ∧ V.cell? ⟨b4, 4, none⟩ = some (.slice pa pairs.length pc) ∧ V.cell? ⟨b4, 5, none⟩ = some (.slice ia items.length ic) ∧ V.cell? ⟨b4, 6, none⟩ = some (.slice sa scores.length sc) := ⟨x0 1, x0 2, x0 3, x0 4, x0 5, x0 6⟩
      have s7 : V.cell? ⟨w.heap.size, 1, none⟩ = some (.slice (some ⟨g, 0, none⟩) E.length rc) := q0 1
      have HV : Hid (FS w now E A (some ⟨g, 0, none⟩) rc m V) := hV
      have HBV : Hid (V.heap[g]? = some (.cells (A.flatMap encE ++ S).toArray 57 (0, 0))) := hbV
      have l0 := lt_at hV.n0
      have l4 := lt_at nx
      have lg := lt_at hbV
      clear q0 x0 hV hbV nx
      go_region_held3 (fun w' => w'.cell? ⟨b4, 1, none⟩ = some (.int .i64 kind) ∧ w'.cell? ⟨b4, 2, none⟩ = some (.string text) ∧ w'.cell? ⟨b4, 3, none⟩ = some (.int .i64 count) ∧ w'.cell? ⟨b4, 4, none⟩ = some (.slice pa pairs.length pc) ∧ w'.cell? ⟨b4, 5, none⟩ = some (.slice ia items.length ic) ∧ w'.cell? ⟨b4, 6, none⟩ = some (.slice sa scores.length sc) ∧ w'.cell? ⟨w.heap.size, 1, none⟩ = some (.slice (some ⟨g, 0, none⟩) E.length rc)) (go_keep)
        (first | (go_at_call 30; refine (HC.out _ (by first | exact Below.refl _ _ | exact (Below.refl _ _).drew)).mono ?_; rintro e w2 ⟨p1, p2, p3, rfl, hown, hb2⟩; obtain ⟨a1, e1, rfl⟩ := ownsRow_shape hown.p.1; obtain ⟨a2, e2, rfl⟩ := ownsRow_shape hown.i.1; obtain ⟨a3, e3, rfl⟩ := ownsRow_shape hown.s.1; have hb2 : Below V.heap.size V w2 := (by first | exact hb2 | exact bstep (Below.refl _ _).drew hb2); have HOW : Hid (OwnVL V.heap.size w2 (.slice a1 pairs.length e1) (.slice a2 items.length e2) (.slice a3 scores.length e3) ⟨kind, text, count, pairs, items, scores⟩) := (⟨hown.p.1, hown.i.1, hown.s.1⟩ : OwnVL V.heap.size w2 (.slice a1 pairs.length e1) (.slice a2 items.length e2) (.slice a3 scores.length e3) ⟨kind, text, count, pairs, items, scores⟩); obtain ⟨y1, y2⟩ := same_block (hb2.block b4 l4); obtain ⟨y3, y4⟩ := same_block (hb2.block w.heap.size l0); obtain ⟨c0, c1, c2, c3, c4, c5, c6, c7, fz⟩ := HE8.out w2 ((hb2.block g lg).trans HBV.out); simp only at c0 c1 c2 c3 c4 c5 c6 c7; have lg2 := bsize hb2 lg; clear hown))
      all_goals
        have hnx := FS.next (HV.out.mid hb2) hlt ⟨⟨key, ⟨kind, text, count, pairs, items, scores⟩, til⟩, a1, e1, a2, e2, a3, e3⟩ HKV.out.symm (HOW.out.base HV.out.size)
        clear y1 y2 y3 y4 c0 c7
        go_wp2_with fail
        refine ⟨⟨m + 1, _, by go_num, hnx, by omega⟩, ?_⟩
        simp [intOf]; omega
    · have hge : ¬ (m : Int) < (E.length : Int) := by omega
      have hme : m = E.length := by omega
      obtain ⟨q1, f1⟩ := cellsB hst.n1
      have z1 : w.heap.size < wr.heap.size := by have := hst.size; omega
      have z2 : w.heap.size + 1 < wr.heap.size := by have := hst.size; omega
      have HME : Hid (m = E.length) := hme
      have hown : ∀ {e : TypeId} {k n : Nat} {v : Value} {xs : List Value} {u0 u1 : Value}, wr.ownsRow (w.heap.size + 2) e k v n xs →
          (((wr.setCell ⟨w.heap.size + 1, 0, none⟩ u0).setCell ⟨w.heap.size + 1, 1, none⟩ u1)).ownsRow (w.heap.size + 2) e k v n xs := by
        intro e k n v xs u0 u1 h
        refine ownsRow_setCell_below (ownsRow_setCell_below h ?_ _) ?_ _
        all_goals (show w.heap.size + 1 < w.heap.size + 2; omega)
      clear hst hme
      go_wp2_with fail
      refine bodyPost_ret (v := stoV now (.slice ra E.length rc)) (by simp [results, Tryz.results74, go_sem, q1]) rfl ?_
      first | refine ⟨.slice ra E.length rc, rfl, A, ?_, HST.out.kvs, ?_, ?_⟩ | refine ⟨.slice ra E.length rc, A, rfl, ?_, HST.out.kvs, ?_, ?_⟩
      · exact ownsRow_base (hown HST.out.own) (by omega)
      · intro x hx
        obtain ⟨j, hj, rfl⟩ := List.getElem_of_mem hx
        have h := HST.out.done j hj (by rw [HME.out, ← HST.out.len]; exact hj)
        exact OwnVL.base ⟨hown h.p, hown h.i, hown h.s⟩ (by omega)
      · exact (HST.out.below.setCell (by simp) _).setCell (by simp) _
end Go.Proofs.YtfnephnecighaaaGreat
