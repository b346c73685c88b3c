/- A store, by steps in raw numbers: rostrumkeep.Store. -/
import Derived.Test.YtfnephnecighaaaGreatEyJ
import Derived.Test.YtfnephnecighaaaGreatRw0
import Derived.Test.YtfnephnecighaaaGreatKcJ
import Derived.Test.YtfnephnecighaaaGreatFv0
namespace Go.Proofs.YtfnephnecighaaaGreat
open Go.ChangeShapes Go.WideShapes Go.ChangeAt Go.RowKit
set_option linter.unusedVariables false
set_option maxRecDepth 100000

/-- A step in raw numbers. -/
structure Stp where
  r : Raw
  wait : Int
def encStp (d : Stp) : List Value := [.int .i64 d.r.k, .int .i64 d.r.key, .int .i64 d.r.fld, .int .i64 d.r.n, .string d.r.txt, .int .i64 d.wait]
def Stp.wf (d : Stp) : Prop := d.r.wf ∧ i64s d.wait
/-- A slice of steps that came in. -/
abbrev StepsAt (w : World) (s : Value) (l : List Stp) : Prop := InAt 6 encStp Stp.wf w s l
theorem StepsAt.below {w w' : World} {s : Value} {l : List Stp} (h : StepsAt w s l) (hb : Below w.heap.size w w') : StepsAt w' s l := by
  obtain ⟨hw, a, cap, hs, h1, h2, h3⟩ := h
  refine ⟨hw, a, cap, hs, h1, h2, ?_⟩
  rcases h3 with h3 | ⟨b, off, ha, hbk, hc⟩
  · exact .inl h3
  · exact .inr ⟨b, off, ha, Nat.lt_of_lt_of_le hbk hb.size, fun i hi c hk => (hb.cell (p := ⟨b, off + i * 6 + c, none⟩) hbk).trans (hc i hi c hk)⟩
theorem sixS {w : World} {b off : Nat} {l : List Stp} (hc : ∀ i (h : i < l.length) (c : Nat), c < 6 → w.cell? ⟨b, off + i * 6 + c, none⟩ = (encStp l[i])[c]?) (m : Nat) (hm : m < l.length) :
    w.cell? ⟨b, off + m * 6, none⟩ = some (.int .i64 l[m].r.k) ∧ w.cell? ⟨b, off + m * 6 + 1, none⟩ = some (.int .i64 l[m].r.key) ∧ w.cell? ⟨b, off + m * 6 + 2, none⟩ = some (.int .i64 l[m].r.fld) ∧
    w.cell? ⟨b, off + m * 6 + 3, none⟩ = some (.int .i64 l[m].r.n) ∧ w.cell? ⟨b, off + m * 6 + 4, none⟩ = some (.string l[m].r.txt) ∧ w.cell? ⟨b, off + m * 6 + 5, none⟩ = some (.int .i64 l[m].wait) :=
  ⟨hc m hm 0 (by omega), hc m hm 1 (by omega), hc m hm 2 (by omega), hc m hm 3 (by omega), hc m hm 4 (by omega), hc m hm 5 (by omega)⟩

/-- A command in raw numbers. -/
def rawCmd (r : Raw) : Cmd := cmdFor (1 + pickedN r.k 22) r.key r.fld r.n r.txt
theorem rawCmd_fault (r : Raw) : (rawCmd r).fault = 0 := cmdFor_fault _ _ _ _ _ (by omega) (by have := pickedN_lt r.k (show 0 < 22 by omega); omega)
/-- The times of steps; the store behind them. -/
def nowOf (l : List Stp) : Nat := (l.map (fun x => pickedN x.wait 12)).sum
def foldSt : Sto → Nat → List Stp → Sto
  | s, _, [] => s
  | s, t, x :: r => foldSt (applyS s ((t + pickedN x.wait 12 : Nat) : Int) (rawCmd x.r)) (t + pickedN x.wait 12) r
def storeFor (l : List Stp) : Sto := foldSt ⟨0, []⟩ 0 (l.take 40)
theorem foldSt_snoc (x : Stp) : ∀ (l : List Stp) (s : Sto) (t : Nat), foldSt s t (l ++ [x]) = applyS (foldSt s t l) ((t + nowOf l + pickedN x.wait 12 : Nat) : Int) (rawCmd x.r)
  | [], s, t => by simp [foldSt, nowOf]
  | y :: r, s, t => by
    rw [List.cons_append, foldSt, foldSt_snoc x r, foldSt]
    simp [nowOf, Nat.add_assoc]
theorem nowOf_snoc (x : Stp) (l : List Stp) : nowOf (l ++ [x]) = nowOf l + pickedN x.wait 12 := by simp [nowOf]
theorem nowOf_le : ∀ (l : List Stp), nowOf l ≤ 12 * l.length
  | [] => by simp [nowOf]
  | y :: r => by
    have := nowOf_le r
    have := pickedN_lt y.wait (show 0 < 12 by omega)
    simp [nowOf] at *
    omega
theorem okSt_step {s : Sto} (h : OkSto s) {t : Nat} (ht : t ≤ 1073741824) (x : Stp) : refS s (t : Int) (rawCmd x.r) = 0 ∧ OkSto (applyS s (t : Int) (rawCmd x.r)) := by
  have hr := (refS_ok (s := s) (t := (t : Int)) (c := rawCmd x.r)).2 ⟨h, ⟨by omega, by omega⟩, rawCmd_fault x.r⟩
  exact ⟨hr, applyS_ok (c := rawCmd x.r) (t := (t : Int)) hr⟩
theorem okSt_fold : ∀ (l : List Stp) (s : Sto) (t : Nat), OkSto s → t + 12 * l.length ≤ 1073741824 → OkSto (foldSt s t l)
  | [], s, t, h, _ => h
  | y :: r, s, t, h, ht => by
    have hp := pickedN_lt y.wait (show 0 < 12 by omega)
    simp at ht
    exact okSt_fold r _ _ (okSt_step h (t := t + pickedN y.wait 12) (by omega) y).2 (by omega)
theorem storeFor_ok (l : List Stp) : OkSto (storeFor l) := okSt_fold _ _ _ okSto_none (by simp; omega)

abbrev storedS (w1 : World) (g : Nat) (now : Int) (es : Value) : World := (w1.setCell ⟨g, 0, none⟩ (.int .i64 now)).setCell ⟨g, 1, none⟩ es
theorem storedS_block {w1 : World} {g : Nat} {now now' : Int} {es es' : Value} (h : w1.heap[g]? = some (stoO now' es')) : (storedS w1 g now es).heap[g]? = some (stoO now es) := setCell_sameV (o := 1) es (setCell_sameV (o := 0) (.int .i64 now) h)
theorem keepS {w : World} {g k : Nat} {now : Int} {es : Value} (h : k ≠ g) : (storedS w g now es).heap[k]? = w.heap[k]? := by
  unfold storedS
  iterate 2 rw [Below.heap_setCell _ _ _ _ h]
theorem sizeS (w : World) (g : Nat) (now : Int) (es : Value) : (storedS w g now es).heap.size = w.heap.size := by simp [storedS, World.setCell]
theorem storedS_below {B : Nat} {w w1 : World} {g : Nat} {now : Int} {es : Value} (h : Below B w w1) (hg : B ≤ g) : Below B w (storedS w1 g now es) := (h.setCell hg _).setCell hg _
theorem aft3S {w3 : World} {g : Nat} {now : Int} {es : Value} (o' : Obj) (h : w3.heap[g]? = some (stoO 0 (.slice none 0 0))) : Aft w3 ((storedS w3 g now es).alloc o') g w3.heap.size (stoO now es) := by
  have hl := lt_heap h
  have hz := sizeS w3 g now es
  exact ⟨by rw [Below.heap_alloc _ _ _ (by omega)]; exact storedS_block h, fun k hk h1 _ => by rw [Below.heap_alloc _ _ _ (by omega)]; exact keepS h1, by have := size_a0 (storedS w3 g now es) o'; omega,
    fun B w h h1 h2 h3 => (storedS_below h h1).alloc (by omega) _⟩
theorem aft4S {w3 : World} {g g' : Nat} {now code n : Int} {text' : ByteArray} {es ls : Value} (h : w3.heap[g]? = some (stoO 0 (.slice none 0 0))) (hg : g ≠ g') : Aft w3 (storedR (storedS w3 g now es) g' code text' n ls) g g' (stoO now es) :=
  ⟨(keepR hg).trans (storedS_block h), fun k _ h1 h2 => (keepR h2).trans (keepS h1), Nat.le_of_eq ((sizeR _ _ _ _ _ _).trans (sizeS _ _ _ _)).symm,
    fun B w h h1 h2 h3 => ((((storedS_below h h1).setCell h2 _).setCell h2 _).setCell h2 _).setCell h2 _⟩
theorem RepsStF.same {B : Nat} {w w' : World} {v : Value} {s : Sto} (h : RepsStF B w v s) (hs : ∀ b, B ≤ b → b < w.heap.size → w'.heap[b]? = w.heap[b]?) (hz : w.heap.size ≤ w'.heap.size) : RepsStF B w' v s := by
  obtain ⟨es, E, h1, h2, hf, h3, h4⟩ := h
  refine ⟨es, E, h1, h2.sameS hf hs hz, hf, fun e he => ?_, h4⟩
  obtain ⟨l, f1, f2, f3⟩ := h3 e he
  exact ⟨⟨l.p.sameS f1 hs hz, l.i.sameS f2 hs hz, l.s.sameS f3 hs hz⟩, f1, f2, f3⟩
theorem fin_cutS {w w3 Z : World} {a b1 b2 B g g' m ec : Nat} {oa ob : Obj} {s : Sto} {ea : Option Addr} {t : Value} (A : Aft w3 Z g g' (stoO s.now (.slice ea m ec))) (h0 : w3.heap[a]? = some oa) (h1 : w3.heap[b1]? = some ob)
    (hs : RepsStF B w3 (stoV s.now (.slice ea m ec)) s) (HB : Below a w w3) (ht : t = .pointer (some ⟨g, 0, none⟩)) (e1 : a < b2) (e2 : b1 < b2) (e3 : b2 ≤ g) (e4 : b2 ≤ g') (e5 : b2 ≤ B) (e6 : (g < B ∨ w3.heap.size ≤ g) ∧ (g' < B ∨ w3.heap.size ≤ g')) :
    ∃ g ea ec, t = .pointer (some ⟨g, 0, none⟩) ∧ (Value.int .i64 0) = .int .i64 0 ∧ Z.heap[a]? = some oa ∧ Z.heap[b1]? = some ob ∧ Z.heap[g]? = some (stoO s.now (.slice ea m ec)) ∧ RepsStF b2 Z (stoV s.now (.slice ea m ec)) s ∧ b2 ≤ g ∧ b2 ≤ Z.heap.size ∧ Below a w Z := by
  have l0 := lt_heap h0
  have l1 := lt_heap h1
  exact ⟨g, ea, ec, ht, rfl, (A.kept a l0 (by omega) (by omega)).trans h0, (A.kept b1 l1 (by omega) (by omega)).trans h1, A.at', (hs.same (fun k hk1 hk2 => A.kept k hk2 (by omega) (by omega)) A.size).mono e5, e3, by have := lt_heap A.at'; omega, A.below a w HB (by omega) (by omega) (by omega)⟩

set_option maxHeartbeats 8000000 in
theorem store_any (s : Value) (l : List Stp) (w : World) (hl : StepsAt w s l) :
    Calls Tryz.prog 20 #[s] w fun e w' => ∃ v, e = .returned v ∧ RepsStF w.heap.size w' v (storeFor l) ∧ Below w.heap.size w w' := by
  obtain ⟨hw, a, cap, rfl, k1, k2, k3⟩ := hl
  go_enter Tryz.func20, Tryz.ntmps20
  go_wp2_with fail
  have hz0 : ((w.alloc (stoO 0 (.slice none 0 0))).alloc (stoO 0 (.slice none 0 0))).heap.size = w.heap.size + 2 := by simp
  obtain ⟨n0, n1⟩ := two_new w (stoO 0 (.slice none 0 0)) (stoO 0 (.slice none 0 0))
  have hB0 : Below w.heap.size w ((w.alloc (stoO 0 (.slice none 0 0))).alloc (stoO 0 (.slice none 0 0))) := (balloc _ _).alloc (by simp) _
  generalize (w.alloc (stoO 0 (.slice none 0 0))).alloc (stoO 0 (.slice none 0 0)) = V at hz0 n0 n1 hB0 ⊢
  have hg1 : w.heap.size < w.heap.size + 1 := by omega
  have hg2 : w.heap.size + 1 < w.heap.size + 2 := by omega
  generalize hb1e : w.heap.size + 1 = b1 at n1 hg1 hg2 ⊢
  generalize hb2e : w.heap.size + 2 = b2 at hz0 hg2
  go_loopw [4, 5] (fun c4 c5 wr => ∃ (m : Nat) (x : Sto) (xa : Option Addr) (xc : Nat), c4 = .int .i64 (nowOf (l.take m) : Int) ∧ c5 = .int .i64 (m : Int) ∧ m ≤ l.length ∧ m ≤ 40 ∧ x = foldSt ⟨0, []⟩ 0 (l.take m) ∧
      wr.heap[w.heap.size]? = some (stoO 0 (.slice none 0 0)) ∧ wr.heap[b1]? = some (stoO x.now (.slice xa x.es.length xc)) ∧ RepsStF b2 wr (stoV x.now (.slice xa x.es.length xc)) x ∧ b2 ≤ wr.heap.size ∧ Below w.heap.size w wr)
    (fun _ c _ => 40 - (intOf c).toNat)
  case atStart => exact ⟨0, ⟨0, []⟩, none, 0, by simp [nowOf], rfl, by omega, by omega, by simp [foldSt], n0, n1, RepsStF.nil _ _ _, by omega, hB0⟩
  case round =>
    clear n0 n1 hB0 hz0
    obtain ⟨m, x, xa, xc, rfl, rfl, hm, hm24, hx, h0, h1, hrep, hsz, hb⟩ := hrel
    by_cases hlt : m < l.length ∧ m < 40
    · obtain ⟨hl1, hl2⟩ := hlt
      rcases k3 with rfl | ⟨b, off, rfl, hbk, hc⟩
      · simp at hl1
      · have hcw : ∀ i (h : i < l.length) (c : Nat), c < 6 → wr.cell? ⟨b, off + i * 6 + c, none⟩ = (encStp l[i])[c]? := fun i hi c hk => (hb.cell (p := ⟨b, off + i * 6 + c, none⟩) hbk).trans (hc i hi c hk)
        obtain ⟨c0, c1, c2, c3, c4, c5⟩ := sixS hcw m hl1
        have hdw := hw l[m] (List.getElem_mem hl1)
        have hsn : foldSt ⟨0, []⟩ 0 (l.take (m + 1)) = applyS x ((nowOf (l.take m) + pickedN l[m].wait 12 : Nat) : Int) (rawCmd l[m].r) := by rw [List.take_succ_eq_append_getElem hl1, foldSt_snoc, ← hx]; simp
        have hnn : nowOf (l.take (m + 1)) = nowOf (l.take m) + pickedN l[m].wait 12 := by rw [List.take_succ_eq_append_getElem hl1, nowOf_snoc]
        have hnl : nowOf (l.take m) ≤ 480 := by have := nowOf_le (l.take m); simp at this; omega
        have hp12 := pickedN_lt l[m].wait (show 0 < 12 by omega)
        have hxo : OkSto x := by rw [hx]; exact okSt_fold _ _ _ okSto_none (by simp; omega)
        obtain ⟨hrf, -⟩ := okSt_step hxo (t := nowOf (l.take m) + pickedN l[m].wait 12) (by omega) l[m]
        have hD := acts_s x ((nowOf (l.take m) + pickedN l[m].wait 12 : Nat) : Int) (rawCmd l[m].r)
        rw [hrf] at hD
        have hPk := fun W => picked_any l[m].wait 12 W hdw.2.1 hdw.2.2 (by omega) (by omega)
        have hMk := fun W => command_any l[m].r.k l[m].r.key l[m].r.fld l[m].r.n l[m].r.txt W hdw.1.1 hdw.1.2.1 hdw.1.2.2.1 hdw.1.2.2.2.1 hdw.1.2.2.2.2
        have HSN : Hid (foldSt ⟨0, []⟩ 0 (l.take (m + 1)) = applyS x ((nowOf (l.take m) + pickedN l[m].wait 12 : Nat) : Int) (rawCmd l[m].r)) := hsn
        have HNN := hideE hnn
        clear hcw hc hw hsn hxo hrf hx hdw hnn
        have hMk' : ∀ W, Calls Tryz.prog 22 #[rawV l[m].r.k l[m].r.key l[m].r.fld l[m].r.n l[m].r.txt] W fun e w' => e = .returned (rawCmd l[m].r).v ∧ Below W.heap.size W w' := hMk
        clear hMk
        generalize nowOf (l.take m) = t at *
        generalize l[m] = d at *
        obtain ⟨⟨dk, dkey, dfld, dn, dtxt⟩, dw⟩ := d
        simp only at c0 c1 c2 c3 c4 c5 hMk' hPk hD HSN HNN hp12
        generalize pickedN dw 12 = pw at *
        obtain ⟨T, hT⟩ : ∃ T : Int, ((t + pw : Nat) : Int) = T := ⟨_, rfl⟩
        have hwt : IntKind.i64.wrap ((t : Int) + (pw : Int)) = T := by rw [IntKind.wrap_i64]; omega
        rw [hT] at hD HSN
        generalize applyS x T (rawCmd ⟨dk, dkey, dfld, dn, dtxt⟩) = y at *
        generalize applyR x T (rawCmd ⟨dk, dkey, dfld, dn, dtxt⟩) = r at *
        generalize rawCmd ⟨dk, dkey, dfld, dn, dtxt⟩ = c at *
        obtain ⟨ck, ckey, cfld, ctxt, cn⟩ := c
        have HK : Hid (∀ W, Calls Tryz.prog 22 #[rawV dk dkey dfld dn dtxt] W fun e w' => e = .returned (cmdV ck ckey cfld ctxt cn) ∧ Below W.heap.size W w') := hMk'
        have HP : Hid (∀ W, Calls Tryz.prog 21 #[.int .i64 dw, .int .i64 12] W fun e w' => e = .returned (.int .i64 (pw : Nat)) ∧ W = w') := hPk
        obtain ⟨M, hM⟩ : ∃ M, y.es.length = M := ⟨_, rfl⟩
        have HD : Hid (∀ W, Below wr.heap.size wr W → Calls Tryz.prog 17 #[stoV x.now (.slice xa x.es.length xc), .int .i64 T, cmdV ck ckey cfld ctxt cn] W fun e w' => ∃ ea' ec' la q lc, e = .returned (.tuple #[stoV y.now (.slice ea' M ec'), repV r.code r.text r.n (.slice la q lc), .int .i64 0]) ∧ RepsStF W.heap.size w' (stoV y.now (.slice ea' M ec')) y ∧ Below W.heap.size W w') := fun W hW => by
          refine (hD W _ (hrep.st.below hW)).mono ?_
          rintro e w' ⟨ea, ec, la, lc, rfl, h1, -, h3⟩
          exact ⟨ea, ec, la, _, lc, by rw [hM], by rw [← hM]; exact h1, h3⟩
        have HM := hideE hM
        have HT := hideE hT
        clear hMk' hD hPk hM hT
        have hi0 : (m : Int) < (l.length : Int) := by omega
        have hi1 : (m : Int) < 40 := by omega
        have hbw : b < wr.heap.size := Nat.lt_of_lt_of_le hbk hb.size
        have hb1w : b1 < wr.heap.size := by omega
        obtain ⟨v0, v1⟩ := block_cells h1
        obtain ⟨s0, s1⟩ : wr.cell? ⟨b1, 0, none⟩ = some (.int .i64 x.now) ∧ wr.cell? ⟨b1, 1, none⟩ = some (.slice xa x.es.length xc) := ⟨v0 0, v0 1⟩
        clear v0
        go_upto_region 7 with (go_at_call 21; refine (HP.out _).mono ?_; rintro e w' ⟨rfl, rfl⟩)
        clear c5
        go_cut [6, 8] from 9 to 42 (fun s6 s8 wx => ∃ g ea' ec', s6 = .pointer (some ⟨g, 0, none⟩) ∧ s8 = .int .i64 0 ∧ wx.heap[w.heap.size]? = some (stoO 0 (.slice none 0 0)) ∧ wx.heap[b1]? = some (stoO x.now (.slice xa x.es.length xc)) ∧
            wx.heap[g]? = some (stoO y.now (.slice ea' M ec')) ∧ RepsStF b2 wx (stoV y.now (.slice ea' M ec')) y ∧ b2 ≤ g ∧ b2 ≤ wx.heap.size ∧ Below w.heap.size w wx)
        case first =>
          go_region_held3 (fun w' => w'.cell? ⟨b1, 0, none⟩ = some (.int .i64 x.now) ∧ w'.cell? ⟨b1, 1, none⟩ = some (.slice xa x.es.length xc) ∧ w'.cell? ⟨b, off + m * 6, none⟩ = some (.int .i64 dk) ∧ w'.cell? ⟨b, off + m * 6 + 1, none⟩ = some (.int .i64 dkey) ∧ w'.cell? ⟨b, off + m * 6 + 2, none⟩ = some (.int .i64 dfld) ∧ w'.cell? ⟨b, off + m * 6 + 3, none⟩ = some (.int .i64 dn) ∧ w'.cell? ⟨b, off + m * 6 + 4, none⟩ = some (.string dtxt)) (go_keep) (first
            | (go_at_call 22; refine (HK.out _).mono ?_; rintro e w2 ⟨rfl, hb2⟩; (first
                | (have u2 : Below wr.heap.size wr w2 := (by with_reducible exact bstep (Below.refl _ _).drew hb2); have t0 : (7 : Nat) < 8 := (by decide))
                | (have u2 : Below wr.heap.size wr w2 := (by with_reducible exact bstep (balloc _ _).drew hb2); have m7 := boxD1 hb2; have sz2 := sizeD1 hb2; have t0 : (7 : Nat) < 9 := (by decide))
                | (have u2 : Below wr.heap.size wr w2 := (by with_reducible exact bstep ((balloc _ _).alloc (Nat.le_of_lt (size_a1 _ _)) _).drew hb2); obtain ⟨m7, m8⟩ := boxD2 hb2; have sz2 := sizeD2 hb2; have t0 : (7 : Nat) < 10 := (by decide))); obtain ⟨e1, e2⟩ := same_block (u2.block b1 hb1w); obtain ⟨e3, e4⟩ := same_block (u2.block b hbw))
            | (go_at_call 17; (first
                | (with_reducible refine (HD.out _ (((u2.alloc u2.size _).alloc (Nat.le_trans u2.size (Nat.le_of_lt (size_a1 _ _))) _))).mono ?_; rintro e w3 ⟨ea', ec', la, q, lc, rfl, hv', hb3⟩; have u3 : Below wr.heap.size wr w3 := (by with_reducible exact bstep ((u2.alloc u2.size _).alloc (Nat.le_trans u2.size (Nat.le_of_lt (size_a1 _ _))) _) hb3); have hv2 : RepsStF (w2.heap.size + 2) w3 (stoV y.now (.slice ea' M ec')) y := hv'.mono (by simp); have t1 : (7 : Nat) < 8 := (by assumption); obtain ⟨m9, m10⟩ := boxA2 hb3; obtain ⟨p1, p2⟩ := block_cells m9; obtain ⟨p3, p4⟩ := block_cells m10; have s3 := sizeA2 hb3; have z3 := u3.size; have z2 := u2.size; have y1 : ¬ b1 = w2.heap.size := (by omega); have x1 : ¬ w2.heap.size = b1 := (by omega); have y2 : ¬ b1 = (w2.heap.size + 1) := (by omega); have x2 : ¬ (w2.heap.size + 1) = b1 := (by omega); have y3 : ¬ b = w2.heap.size := (by omega); have x3 : ¬ w2.heap.size = b := (by omega); have y4 : ¬ b = (w2.heap.size + 1) := (by omega); have x4 : ¬ (w2.heap.size + 1) = b := (by omega); have y5 : ¬ w2.heap.size = (w2.heap.size + 1) := (by omega); have x5 : ¬ (w2.heap.size + 1) = w2.heap.size := (by omega))
                | (with_reducible refine (HD.out _ ((u2.alloc u2.size _))).mono ?_; rintro e w3 ⟨ea', ec', la, q, lc, rfl, hv', hb3⟩; have u3 : Below wr.heap.size wr w3 := (by with_reducible exact bstep (u2.alloc u2.size _) hb3); have hv2 : RepsStF (w2.heap.size + 1) w3 (stoV y.now (.slice ea' M ec')) y := hv'.mono (by simp); have t1 : (7 : Nat) < 8 := (by assumption); have m9 := boxA1 hb3; obtain ⟨p1, p2⟩ := block_cells m9; have s3 := sizeA1 hb3; have z3 := u3.size; have z2 := u2.size; have y1 : ¬ b1 = w2.heap.size := (by omega); have x1 : ¬ w2.heap.size = b1 := (by omega); have y2 : ¬ b1 = w3.heap.size := (by omega); have x2 : ¬ w3.heap.size = b1 := (by omega); have y3 : ¬ b = w2.heap.size := (by omega); have x3 : ¬ w2.heap.size = b := (by omega); have y4 : ¬ b = w3.heap.size := (by omega); have x4 : ¬ w3.heap.size = b := (by omega); have y5 : ¬ w2.heap.size = w3.heap.size := (by omega); have x5 : ¬ w3.heap.size = w2.heap.size := (by omega))
                | (with_reducible refine (HD.out _ ((u2))).mono ?_; rintro e w3 ⟨ea', ec', la, q, lc, rfl, hv', hb3⟩; have u3 : Below wr.heap.size wr w3 := (by with_reducible exact bstep (u2) hb3); have hv2 : RepsStF (w2.heap.size) w3 (stoV y.now (.slice ea' M ec')) y := hv'.mono (by simp); have t1 : (7 : Nat) < 8 := (by assumption); have s3 := hb3.size; have z3 := u3.size; have z2 := u2.size; have y1 : ¬ b1 = w3.heap.size := (by omega); have x1 : ¬ w3.heap.size = b1 := (by omega); have y2 : ¬ b1 = (w3.heap.size + 1) := (by omega); have x2 : ¬ (w3.heap.size + 1) = b1 := (by omega); have y3 : ¬ b = w3.heap.size := (by omega); have x3 : ¬ w3.heap.size = b := (by omega); have y4 : ¬ b = (w3.heap.size + 1) := (by omega); have x4 : ¬ (w3.heap.size + 1) = b := (by omega); have y5 : ¬ w3.heap.size = (w3.heap.size + 1) := (by omega); have x5 : ¬ (w3.heap.size + 1) = w3.heap.size := (by omega))
                | (with_reducible refine (HD.out _ ((u2))).mono ?_; rintro e w3 ⟨ea', ec', la, q, lc, rfl, hv', hb3⟩; have u3 : Below wr.heap.size wr w3 := (by with_reducible exact bstep (u2) hb3); have hv2 : RepsStF (w2.heap.size) w3 (stoV y.now (.slice ea' M ec')) y := hv'.mono (by simp); have t1 : (7 : Nat) < 10 := (by assumption); have ux := hb3; have m7' := ((ux.block wr.heap.size (by omega)).trans m7); obtain ⟨p1, p2⟩ := block_cells m7'; have l7 : wr.heap.size < w3.heap.size := lt_heap m7'; have m8' := ((ux.block (wr.heap.size + 1) (by omega)).trans m8); obtain ⟨p3, p4⟩ := block_cells m8'; have l8 : wr.heap.size + 1 < w3.heap.size := lt_heap m8'; have z3 := u3.size; have z2 := u2.size; have y1 : ¬ b1 = wr.heap.size := (by omega); have x1 : ¬ wr.heap.size = b1 := (by omega); have y2 : ¬ b1 = (wr.heap.size + 1) := (by omega); have x2 : ¬ (wr.heap.size + 1) = b1 := (by omega); have y3 : ¬ b = wr.heap.size := (by omega); have x3 : ¬ wr.heap.size = b := (by omega); have y4 : ¬ b = (wr.heap.size + 1) := (by omega); have x4 : ¬ (wr.heap.size + 1) = b := (by omega); have y5 : ¬ wr.heap.size = (wr.heap.size + 1) := (by omega); have x5 : ¬ (wr.heap.size + 1) = wr.heap.size := (by omega))
                | (with_reducible refine (HD.out _ ((u2.alloc u2.size _))).mono ?_; rintro e w3 ⟨ea', ec', la, q, lc, rfl, hv', hb3⟩; have u3 : Below wr.heap.size wr w3 := (by with_reducible exact bstep (u2.alloc u2.size _) hb3); have hv2 : RepsStF (w2.heap.size + 1) w3 (stoV y.now (.slice ea' M ec')) y := hv'.mono (by simp); have t1 : (7 : Nat) < 9 := (by assumption); have ux := bstep (balloc w2 _) hb3; have m9 := boxA1 hb3; obtain ⟨p3, p4⟩ := block_cells m9; have s3 := sizeA1 hb3; have m7' := ((ux.block wr.heap.size (by omega)).trans m7); obtain ⟨p1, p2⟩ := block_cells m7'; have l7 : wr.heap.size < w3.heap.size := lt_heap m7'; have z3 := u3.size; have z2 := u2.size; have y1 : ¬ b1 = wr.heap.size := (by omega); have x1 : ¬ wr.heap.size = b1 := (by omega); have y2 : ¬ b1 = w2.heap.size := (by omega); have x2 : ¬ w2.heap.size = b1 := (by omega); have y3 : ¬ b = wr.heap.size := (by omega); have x3 : ¬ wr.heap.size = b := (by omega); have y4 : ¬ b = w2.heap.size := (by omega); have x4 : ¬ w2.heap.size = b := (by omega); have y5 : ¬ wr.heap.size = w2.heap.size := (by omega); have x5 : ¬ w2.heap.size = wr.heap.size := (by omega))
                | (with_reducible refine (HD.out _ ((u2))).mono ?_; rintro e w3 ⟨ea', ec', la, q, lc, rfl, hv', hb3⟩; have u3 : Below wr.heap.size wr w3 := (by with_reducible exact bstep (u2) hb3); have hv2 : RepsStF (w2.heap.size) w3 (stoV y.now (.slice ea' M ec')) y := hv'.mono (by simp); have t1 : (7 : Nat) < 9 := (by assumption); have ux := hb3; have s3 := hb3.size; have m7' := ((ux.block wr.heap.size (by omega)).trans m7); obtain ⟨p1, p2⟩ := block_cells m7'; have l7 : wr.heap.size < w3.heap.size := lt_heap m7'; have z3 := u3.size; have z2 := u2.size; have y1 : ¬ b1 = wr.heap.size := (by omega); have x1 : ¬ wr.heap.size = b1 := (by omega); have y2 : ¬ b1 = w3.heap.size := (by omega); have x2 : ¬ w3.heap.size = b1 := (by omega); have y3 : ¬ b = wr.heap.size := (by omega); have x3 : ¬ wr.heap.size = b := (by omega); have y4 : ¬ b = w3.heap.size := (by omega); have x4 : ¬ w3.heap.size = b := (by omega); have y5 : ¬ wr.heap.size = w3.heap.size := (by omega); have x5 : ¬ w3.heap.size = wr.heap.size := (by omega))); obtain ⟨e5, e6⟩ := same_block (u3.block b1 hb1w); obtain ⟨e7, e8⟩ := same_block (u3.block b hbw)))
          all_goals
            have H0 := (u3.block w.heap.size (by omega)).trans h0
            have H1 := (u3.block b1 hb1w).trans h1
            have HB := hb.trans (u3.mono hb.size)
            go_wp2_with fail
            go_meet
            with_reducible refine fin_cutS (g' := ?_) ?_ H0 H1 hv2 HB rfl ?_ ?_ ?_ ?_ ?_ ?_
            any_goals first
                | with_reducible exact aft1 _ _ _
                | with_reducible exact aft2 _ _ _
                | ((with_reducible refine aft4S ?_ ?_) <;> (first | assumption | omega))
                | ((with_reducible refine aft3S _ ?_) <;> assumption)
                | ((with_reducible refine aft5 _ ?_) <;> omega)
            all_goals omega
        case rest =>
          obtain ⟨g, ea', ec', rfl, rfl, H0, H1, Hg, hrep', hg, hsz', HB⟩ := hcut
          obtain ⟨d0, d1⟩ := block_cells Hg
          obtain ⟨d2, d3⟩ := block_cells H1
          have hgl := lt_heap Hg
          have hbl := lt_heap H1
          have hgb : ¬ g = b1 := by omega
          have hgb' : ¬ b1 = g := by omega
          clear h0 h1 hrep HK HD HP c0 c1 c2 c3 c4 s0 s1 v1 hwt
          go_wp2_with fail
          have hm' := HM.out
          subst hm'
          refine ⟨⟨m + 1, y, _, _, by rw [HNN.out, HT.out], by go_num, by omega, by omega, HSN.out.symm, (keepS (by omega)).trans H0, storedS_block H1, (hrep'.setCell (p := ⟨b1, 0, none⟩) (by show b1 < b2; omega) _).setCell (p := ⟨b1, 1, none⟩) (by show b1 < b2; omega) _, by rw [sizeS]; exact hsz', storedS_below HB (by omega)⟩, by simp [intOf]; omega⟩
    · have hx24 : x = storeFor l := by
        rw [hx, storeFor]
        congr 1
        by_cases h24 : m < 40
        · rw [List.take_of_length_le (by omega), List.take_of_length_le (by omega)]
        · rw [show m = 40 by omega]
      clear k3
      obtain ⟨d0, d1⟩ := block_cells h0
      obtain ⟨d2, d3⟩ := block_cells h1
      have hgl := lt_heap h0
      have hbl := lt_heap h1
      have hgb : ¬ w.heap.size = b1 := by omega
      have hgb' : ¬ b1 = w.heap.size := by omega
      have hx' : (¬ (m : Int) < (l.length : Int)) ∨ ((m : Int) < (l.length : Int) ∧ ¬ (m : Int) < 40) := by omega
      have HX : Hid (x = storeFor l) := hx24
      clear hx hx24 h0 h1 hlt
      rcases hx' with hx | ⟨hx, hy⟩
      · go_wp2_with fail
        refine bodyPost_ret (v := stoV x.now (.slice xa x.es.length xc)) (by simp [results, Tryz.results20, go_sem, d0]) rfl ⟨_, rfl, ?_, storedS_below hb (Nat.le_refl _)⟩
        rw [← HX.out]
        exact ((hrep.setCell (p := ⟨w.heap.size, 0, none⟩) (by show w.heap.size < b2; omega) _).setCell (p := ⟨w.heap.size, 1, none⟩) (by show w.heap.size < b2; omega) _).mono (by omega)
      · go_wp2_with fail
        refine bodyPost_ret (v := stoV x.now (.slice xa x.es.length xc)) (by simp [results, Tryz.results20, go_sem, d0]) rfl ⟨_, rfl, ?_, storedS_below hb (Nat.le_refl _)⟩
        rw [← HX.out]
        exact ((hrep.setCell (p := ⟨w.heap.size, 0, none⟩) (by show w.heap.size < b2; omega) _).setCell (p := ⟨w.heap.size, 1, none⟩) (by show w.heap.size < b2; omega) _).mono (by omega)
end Go.Proofs.YtfnephnecighaaaGreat

/- Arguments opened: steps, slices of steps. -/
namespace Go.Proofs.YtfnephnecighaaaGreat
open Go.ChangeShapes Go.WideShapes Go.ChangeAt Go.RowKit
set_option linter.unusedVariables false
set_option maxRecDepth 100000

theorem cells_step : Tryz.prog.cellsOf 50 = 6 := by kernel_rfl
theorem listS6 {α : Type} {cs : List α} (h : cs.length = 6) : ∃ c0 c1 c2 c3 c4 c5, cs = [c0, c1, c2, c3, c4, c5] := by
  match cs, h with
  | [c0, c1, c2, c3, c4, c5], _ => exact ⟨c0, c1, c2, c3, c4, c5, rfl⟩
theorem step_cells {H : Type} {enc : TypeId × Value → H} {w : World} {held : Bool} {fuel : Nat} {cs : List Value} {y : DataW H × List MemPlace} (hl : cs.length = 6)
    (h : DataW.trod enc Tryz.prog w 0 (fun _ => true) held fuel 50 cs = some y) : ∃ d : Stp, cs = encStp d ∧ d.wf := by
  obtain ⟨c0, c1, c2, c3, c4, c5, rfl⟩ := listS6 hl
  obtain ⟨xs, n, _, _, _, hlen, hf⟩ := DataW.trod_struct Tryz.underlying50 h
  have hx : ∀ i, i < 2 → ∃ y, xs[i]? = some y := fun i hi => ⟨xs[i]'(by rw [hlen]; exact hi), by simp⟩
  obtain ⟨y0, e0⟩ := hx 0 (by omega)
  obtain ⟨y1, e1⟩ := hx 1 (by omega)
  have g0 : DataW.trod enc Tryz.prog w 0 (fun _ => true) held n 48 [c0, c1, c2, c3, c4] = some y0 := by simpa [Value.cells, cells_raw] using (hf 0 _ rfl).trans e0
  have g1 : DataW.trod enc Tryz.prog w 0 (fun _ => true) held n 3 [c5] = some y1 := by simpa [Value.cells, cells_int] using (hf 1 _ rfl).trans e1
  obtain ⟨r, hr, hwf⟩ := rawrow_cells rfl g0
  obtain ⟨wt, f1, -, w1⟩ := DataW.trod_int Tryz.underlying3 g1
  simp only [encRw, List.cons.injEq, and_true] at f1 hr
  obtain ⟨rfl, rfl, rfl, rfl, rfl⟩ := hr
  subst f1
  exact ⟨⟨r, wt⟩, rfl, hwf, bounds_i64 w1⟩
/-- What a walk is told of a slice of steps that came in, and of a step. -/
def IsSteps (w : World) (v : Value) : Prop := ∃ l, StepsAt w v l
def IsStep (v : Value) : Prop := ∃ d : Stp, v = .agg (encStp d).toArray ∧ d.wf
theorem shape_steps {H : Type} {enc : TypeId × Value → H} {w : World} {held : Bool} {r : Reach} {b0 : Nat} {v : Value} {d : DataW H} {p : List MemPlace}
    (hv : Value.okWide Tryz.prog w r b0 46 v) (h : DataW.Trod enc Tryz.prog w 0 (fun _ => true) held 46 v d p) : IsSteps w v := by
  have hs := okWide_slice Tryz.underlying46 hv
  obtain ⟨fuel, hf⟩ := h
  obtain ⟨l, h1, -⟩ := open_rows 6 encStp Stp.wf (by omega) Tryz.underlying46 cells_step (fun n cs' y hl ht => step_cells hl ht) hs hf
  exact ⟨l, h1⟩
theorem shape_step {H : Type} {enc : TypeId × Value → H} {w : World} {held : Bool} {r : Reach} {b0 : Nat} {v : Value} {d : DataW H} {p : List MemPlace}
    (hv : Value.okWide Tryz.prog w r b0 50 v) (h : DataW.Trod enc Tryz.prog w 0 (fun _ => true) held 50 v d p) : IsStep v := by
  obtain ⟨cs, rfl, hsz⟩ := okWide_struct Tryz.underlying50 hv
  obtain ⟨l⟩ := cs
  obtain ⟨fuel, hf⟩ := h
  obtain ⟨d, rfl, hd⟩ := step_cells (show l.length = 6 from hsz.trans cells_step) hf
  exact ⟨d, rfl, hd⟩
end Go.Proofs.YtfnephnecighaaaGreat
