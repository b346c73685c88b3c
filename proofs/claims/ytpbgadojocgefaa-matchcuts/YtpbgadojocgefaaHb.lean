/- Logs of raw numbers: rostrumkeep.items, rostrumkeep.Log. -/
import Derived.Test.YtpbgadojocgefaaHa
import Derived.Test.YtpbgadojocgefaaEb
namespace Go.Proofs.Ytpbgadojocgefaa
open Go.RowKit
set_option linter.unusedVariables false
set_option maxRecDepth 100000

structure Deed where
  cl : Int
  off : Int
  wait : Int
  k : Int
  key : Int
  fld : Int
  n : Int
  txt : ByteArray
def encD (d : Deed) : List Value := [.int .i64 d.cl, .int .i64 d.off, .int .i64 d.wait, .int .i64 d.k, .int .i64 d.key, .int .i64 d.fld, .int .i64 d.n, .string d.txt]
def in64 (n : Int) : Prop := -9223372036854775808 ≤ n ∧ n ≤ 9223372036854775807
def Deed.wf (d : Deed) : Prop := in64 d.cl ∧ in64 d.off ∧ in64 d.wait ∧ in64 d.k ∧ in64 d.key ∧ in64 d.fld ∧ in64 d.n ∧ d.txt.size ≤ 9223372036854775807
/-- A slice of deeds that came in. -/
def DeedsAt (w : World) (s : Value) (l : List Deed) : Prop := (∀ d ∈ l, d.wf) ∧ ∃ a cap, s = .slice a l.length cap ∧ l.length ≤ cap ∧ cap ≤ 9223372036854775807 ∧
  (l = [] ∨ ∃ b off, a = some ⟨b, off, none⟩ ∧ b < w.heap.size ∧ ∀ i (h : i < l.length) (c : Nat), c < 8 → w.cell? ⟨b, off + i * 8 + c, none⟩ = (encD l[i])[c]?)
theorem DeedsAt.below {w w' : World} {s : Value} {l : List Deed} (h : DeedsAt w s l) (hb : Below w.heap.size w w') : DeedsAt w' s l := by
  obtain ⟨hw, a, cap, hs, h1, h2, h3⟩ := h
  refine ⟨hw, a, cap, hs, h1, h2, ?_⟩
  rcases h3 with h3 | ⟨b, off, ha, hbk, hc⟩
  · exact .inl h3
  · exact .inr ⟨b, off, ha, bsize hb hbk, fun i hi c hk => (hb.cell (p := ⟨b, off + i * 8 + c, none⟩) hbk).trans (hc i hi c hk)⟩
theorem eightD {w : World} {b off : Nat} {l : List Deed} (hc : ∀ i (h : i < l.length) (c : Nat), c < 8 → w.cell? ⟨b, off + i * 8 + c, none⟩ = (encD l[i])[c]?) (m : Nat) (hm : m < l.length) :
    w.cell? ⟨b, off + m * 8, none⟩ = some (.int .i64 l[m].cl) ∧ w.cell? ⟨b, off + m * 8 + 1, none⟩ = some (.int .i64 l[m].off) ∧ w.cell? ⟨b, off + m * 8 + 2, none⟩ = some (.int .i64 l[m].wait) ∧
    w.cell? ⟨b, off + m * 8 + 3, none⟩ = some (.int .i64 l[m].k) ∧ w.cell? ⟨b, off + m * 8 + 4, none⟩ = some (.int .i64 l[m].key) ∧ w.cell? ⟨b, off + m * 8 + 5, none⟩ = some (.int .i64 l[m].fld) ∧
    w.cell? ⟨b, off + m * 8 + 6, none⟩ = some (.int .i64 l[m].n) ∧ w.cell? ⟨b, off + m * 8 + 7, none⟩ = some (.string l[m].txt) :=
  ⟨hc m hm 0 (by omega), hc m hm 1 (by omega), hc m hm 2 (by omega), hc m hm 3 (by omega), hc m hm 4 (by omega), hc m hm 5 (by omega), hc m hm 6 (by omega), hc m hm 7 (by omega)⟩

/-- The item of a deed, at a term and a time. -/
def itemOf (d : Deed) (t u : Int) : Itm := { itemFor d.cl d.off d.k d.key d.fld d.n d.txt 0 0 with t := t, u := u }
def stepT (d : Deed) (t : Int) : Int := t + (pickedN d.off 4 / 3 : Nat)
def stepU (d : Deed) (u : Int) : Int := u + (pickedN d.wait 3 : Nat)
def itemsFor (t u : Int) : List Deed → List Itm
  | [] => []
  | d :: r => itemOf d (stepT d t) (stepU d u) :: itemsFor (stepT d t) (stepU d u) r
theorem itemsFor_length (l : List Deed) : ∀ t u, (itemsFor t u l).length = l.length := by
  induction l with
  | nil => intro t u; rfl
  | cons d r ih => intro t u; simp [itemsFor, ih]
theorem stepT_le (d : Deed) (t : Int) : t ≤ stepT d t ∧ stepT d t ≤ t + 1 := by
  have := pickedN_lt d.off (show 0 < 4 by omega)
  unfold stepT; omega
theorem stepU_le (d : Deed) (t : Int) : t ≤ stepU d t ∧ stepU d t ≤ t + 2 := by
  have := pickedN_lt d.wait (show 0 < 3 by omega)
  unfold stepU; omega

set_option maxHeartbeats 8000000 in
theorem items_any (s : Value) (l : List Deed) (t : Int) (w : World) (hd : DeedsAt w s l) (h0 : 1 ≤ t) (h1 : t ≤ 1048576) :
    Calls Try.prog 23 #[s, .int .i64 t] w fun e w' => ∃ r, e = .returned r ∧ OwnI w.heap.size w' r (itemsFor t 0 (l.take 30)) ∧ Below w.heap.size w w' := by
  obtain ⟨hw, a, cap, rfl, k1, k2, k3⟩ := hd
  obtain ⟨i0, hi, hz0, hz1, hz2⟩ := info_parts info_item
  go_enter Try.func23, Try.ntmps23
  go_wp2
  go_loopw [1, 5, 6, 7] (fun tv sv uv c wr => ∃ (m : Nat) (t1 u1 : Int) (A : List Itm), c = .int .i64 (m : Int) ∧ tv = .int .i64 t1 ∧ uv = .int .i64 u1 ∧ A.length = m ∧ m ≤ l.length ∧ m ≤ 30 ∧ t ≤ t1 ∧ t1 ≤ t + m ∧ 0 ≤ u1 ∧ u1 ≤ 2 * m ∧
      OwnI w.heap.size wr sv A ∧ Below w.heap.size w wr ∧ A ++ itemsFor t1 u1 ((l.take 30).drop m) = itemsFor t 0 (l.take 30)) (fun _ _ _ c _ => 30 - (intOf c).toNat)
  case atStart => exact ⟨0, t, 0, [], by simp, rfl, rfl, rfl, by omega, by omega, by omega, by omega, by omega, by omega, OwnI.nil _ _, Below.refl _ _, by simp⟩
  case round =>
    obtain ⟨m, t1, u1, A, rfl, rfl, rfl, hAl, hm1, hm2, ht1, ht2, hu1, hu2, hown, hb, heq⟩ := hrel
    have HE : Hid (A ++ itemsFor t1 u1 ((l.take 30).drop m) = itemsFor t 0 (l.take 30)) := heq
    clear heq
    obtain ⟨sa, sc, rfl⟩ := hown.shape
    rw [hAl] at hown ⊢
    by_cases hlt : m < l.length ∧ m < 30
    · obtain ⟨hl1, hl2⟩ := hlt
      rcases k3 with rfl | ⟨b, off, rfl, hbk, hc⟩
      · simp at hl1
      · have hcw : ∀ i (h : i < l.length) (c : Nat), c < 8 → wr.cell? ⟨b, off + i * 8 + c, none⟩ = (encD l[i])[c]? := fun i hi c hk => (hb.cell (p := ⟨b, off + i * 8 + c, none⟩) hbk).trans (hc i hi c hk)
        obtain ⟨c0, c1, c2, c3, c4, c5, c6, c7⟩ := eightD hcw m hl1
        have hdw := hw l[m] (List.getElem_mem hl1)
        have hst : itemsFor t1 u1 ((l.take 30).drop m) = itemOf l[m] (stepT l[m] t1) (stepU l[m] u1) :: itemsFor (stepT l[m] t1) (stepU l[m] u1) ((l.take 30).drop (m + 1)) := by
          rw [List.drop_eq_getElem_cons (by simp; omega), List.getElem_take]; rfl
        have HE2 : Hid (A ++ itemOf l[m] (stepT l[m] t1) (stepU l[m] u1) :: itemsFor (stepT l[m] t1) (stepU l[m] u1) ((l.take 30).drop (m + 1)) = itemsFor t 0 (l.take 30)) := by
          have := HE.out; rw [hst] at this; exact this
        clear hcw hc hst HE hw
        have hsT := stepT_le l[m] t1
        have hsU := stepU_le l[m] u1
        have hi0 : (m : Int) < (l.length : Int) := by omega
        have hi1 : (m : Int) < 30 := by omega
        generalize l[m] = d at *
        obtain ⟨cl, doff, wait, k, key, fld, n, txt⟩ := d
        obtain ⟨w1, w2, w3, w4, w5, w6, w7, w8⟩ := hdw
        simp only at *
        have hI := fun W => item_any cl doff wait k key fld n txt 0 0 W w1 w2 w4 w5 w6 w7 w8 (by omega) (by omega)
        have hx : itemOf ⟨cl, doff, wait, k, key, fld, n, txt⟩ (stepT ⟨cl, doff, wait, k, key, fld, n, txt⟩ t1) (stepU ⟨cl, doff, wait, k, key, fld, n, txt⟩ u1) = { itemFor cl doff k key fld n txt 0 0 with t := stepT ⟨cl, doff, wait, k, key, fld, n, txt⟩ t1, u := stepU ⟨cl, doff, wait, k, key, fld, n, txt⟩ u1 } := rfl
        rw [hx] at HE2
        clear hx
        have p4 := fun W => picked_any doff 4 W w2.1 w2.2 (by omega) (by omega)
        have p3 := fun W => picked_any wait 3 W w3.1 w3.2 (by omega) (by omega)
        have l4 := pickedN_lt doff (show 0 < 4 by omega)
        have l3 := pickedN_lt wait (show 0 < 3 by omega)
        have eT : stepT ⟨cl, doff, wait, k, key, fld, n, txt⟩ t1 = t1 + (pickedN doff 4 / 3 : Nat) := rfl
        have eU : stepU ⟨cl, doff, wait, k, key, fld, n, txt⟩ u1 = u1 + (pickedN wait 3 : Nat) := rfl
        rw [eT] at HE2 hsT
        rw [eU] at HE2 hsU
        clear eT eU w1 w2 w3 w4 w5 w6 w7 w8
        generalize itemFor cl doff k key fld n txt 0 0 = x at hI HE2
        generalize pickedN doff 4 = q4 at *
        generalize pickedN wait 3 = q3 at *
        obtain ⟨xt, xu, xp, xcl, xseq, ck, ckey, cfld, ctxt, cn⟩ := x
        simp only at HE2
        have HI : Hid (∀ W, Calls Try.prog 35 #[deedV cl doff wait k key fld n txt, .int .i64 0, .int .i64 0] W fun e w' => e = .returned (itemV xt xu xp xcl xseq ck ckey cfld ctxt cn) ∧ Below W.heap.size W w') := hI
        have P4 : Hid (∀ W, Calls Try.prog 11 #[.int .i64 doff, .int .i64 4] W fun e w' => e = .returned (.int .i64 (q4 : Nat)) ∧ W = w') := p4
        have P3 : Hid (∀ W, Calls Try.prog 11 #[.int .i64 wait, .int .i64 3] W fun e w' => e = .returned (.int .i64 (q3 : Nat)) ∧ W = w') := p3
        clear hI p4 p3
        go_wp2_with fail
        refine (HI.out _).mono ?_
        rintro e w1 ⟨rfl, hb1⟩
        have bkl : b < wr.heap.size := Nat.lt_of_lt_of_le hbk hb.size
        obtain ⟨d1, e1⟩ := same_block (hb1.block b bkl)
        have bk1 : b < w1.heap.size := Nat.lt_of_lt_of_le bkl hb1.size
        have sz1 := hb1.size
        go_wp2_with fail
        refine (P4.out _).mono ?_
        rintro e w2 ⟨rfl, rfl⟩
        go_wp2_with fail
        refine (P3.out _).mono ?_
        rintro e w2 ⟨rfl, rfl⟩
        have hown1 : w1.ownsRow w.heap.size 46 10 (.slice sa m sc) m (A.flatMap encIt) := by
          have := OwnI.kept hown hb1
          rw [OwnI, hAl] at this; exact this
        have HO : Hid (w1.ownsRow w.heap.size 46 10 (.slice sa m sc) m (A.flatMap encIt)) := hown1
        have hB1 := bstep hb hb1
        have hsz := hB1.size
        clear hown hown1 hb1 d1 e1
        go_wp2_with (at_builtin; refine wpList_append_own _ rfl _ _ 22 rfl w.heap.size 46 i0 zeroIt 10 104 Try.underlying22 hi hz0 hz1 hz2 rfl (by decide) _ m (A.flatMap encIt) rfl ((HO.out.alloc _).alloc _) ⟨w1.heap.size + 1, 0, none⟩ 1 1 (encIt ⟨t1 + (q4 : Int) / 3, u1 + (q3 : Int), xp, xcl, xseq, ⟨ck, ckey, cfld, ctxt, cn⟩⟩) rfl rfl ?c1 ?c2 ?c3 ?c4 ?c5 ?_)
        case c1 =>
          have := lit_cells (W := w1.alloc (itemO (t1 + (q4 : Int) / 3) (u1 + (q3 : Int)) xp xcl xseq ck ckey cfld ctxt cn)) (cs := encIt ⟨t1 + (q4 : Int) / 3, u1 + (q3 : Int), xp, xcl, xseq, ⟨ck, ckey, cfld, ctxt, cn⟩⟩) (t := 46)
          rw [show (w1.alloc (itemO (t1 + (q4 : Int) / 3) (u1 + (q3 : Int)) xp xcl xseq ck ckey cfld ctxt cn)).heap.size = w1.heap.size + 1 by simp] at this
          exact this
        case c2 => exact oneIt _
        case c3 => unfold maxLen; omega
        case c4 => omega
        case c5 => simp; omega
        intro v' w2 hown2 hg2 _
        have hB2 : Below w.heap.size w w2 := by
          refine (((hB1.alloc (by omega) _).alloc (by simp; omega) _).grown hg2 (by simp; omega) ?_)
          intro k hk
          exact (World.ownsRow.lt HO.out k hk).1
        have hO2 : OwnI w.heap.size w2 v' (A ++ [⟨t1 + (q4 : Int) / 3, u1 + (q3 : Int), xp, xcl, xseq, ⟨ck, ckey, cfld, ctxt, cn⟩⟩]) := OwnI.snoc (by rw [hAl]; exact hown2)
        clear hown2 hg2 HO
        go_wp2_with fail
        refine ⟨⟨m + 1, t1 + (q4 : Int) / 3, u1 + (q3 : Int), _, by go_num, rfl, rfl, by simp [hAl], by omega, by omega, by omega, by omega, by omega, by omega, hO2, hB2, ?_⟩, by simp [intOf]; omega⟩
        have := HE2.out
        simp only [List.append_assoc, List.cons_append, List.nil_append]
        rw [← this]
        congr
    · have hx : (¬ (m : Int) < (l.length : Int)) ∨ ((m : Int) < (l.length : Int) ∧ ¬ (m : Int) < 30) := by omega
      have he : A = itemsFor t 0 (l.take 30) := by
        rw [← HE.out, List.drop_of_length_le (by simp; omega)]; simp [itemsFor]
      have hr : OwnI w.heap.size wr (.slice sa m sc) (itemsFor t 0 (l.take 30)) := by rw [← he]; exact hown
      clear k3 hown
      rcases hx with hx | ⟨hx, hy⟩
      · go_wp2_with fail
        go_ret
        exact ⟨_, rfl, hr, hb⟩
      · go_wp2_with fail
        go_ret
        exact ⟨_, rfl, hr, hb⟩
end Go.Proofs.Ytpbgadojocgefaa
