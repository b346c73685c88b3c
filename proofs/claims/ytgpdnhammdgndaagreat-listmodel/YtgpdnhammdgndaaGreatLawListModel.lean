/- A list is what was put ahead and behind, and not taken: whatever is put and taken in whatever order, the list is what a slice is to which the same is done: for all raw numbers the law returns true. No condition. -/
import Derived.Test.YtgpdnhammdgndaaGreatMl
import Derived.Deep.DeepCutAuto
import Derived.Deep.RegionHeld3
import Derived.Sort.OwnSorted
namespace Go.Proofs.YtgpdnhammdgndaaGreat.listModelDone
open Go.ChangeShapes Go.WideShapes Go.ChangeAt Go.RowKit
open Go.Proofs.YtgpdnhammdgndaaGreat
set_option linter.unusedVariables false
set_option maxRecDepth 100000

/-- What a command does to a list. -/
theorem lstep {A : List ByteArray} (h : ListL A) {c : Cmd} (hc : c.fault = 0) (hk : 7 ≤ c.k ∧ c.k ≤ 10) : refusalI (keptV (listX A)) c = 0 ∧
    ((c.k ≤ 8 ∧ A.length = 20 ∧ doV (keptV (listX A)) c = keptV (listX A) ∧ doR (keptV (listX A)) c = { code := 6 }) ∨
     (c.k = 7 ∧ A.length < 20 ∧ doV (keptV (listX A)) c = keptV (listX (A ++ [c.txt])) ∧ doR (keptV (listX A)) c = { n := (A.length : Int) + 1 } ∧ ListL (A ++ [c.txt])) ∨
     (c.k = 8 ∧ A.length < 20 ∧ doV (keptV (listX A)) c = keptV (listX (c.txt :: A)) ∧ doR (keptV (listX A)) c = { n := (A.length : Int) + 1 } ∧ ListL (c.txt :: A)) ∨
     (9 ≤ c.k ∧ A = [] ∧ doV (keptV (listX A)) c = keptV (listX A) ∧ doR (keptV (listX A)) c = { code := 5 }) ∨
     (c.k = 9 ∧ ∃ A' y, A = A' ++ [y] ∧ doV (keptV (listX A)) c = keptV (listX A') ∧ doR (keptV (listX A)) c = { text := y } ∧ ListL A') ∨
     (c.k = 10 ∧ ∃ A' y, A = y :: A' ∧ doV (keptV (listX A)) c = keptV (listX A') ∧ doR (keptV (listX A)) c = { text := y } ∧ ListL A')) := by
  have hr := (kept_list h).ref hc (by simp [ofStoreB]; omega)
  refine ⟨hr, ?_⟩
  obtain ⟨ht, -⟩ := cmd_parts hc
  have h20 := h.1
  by_cases h8 : c.k ≤ 8
  · by_cases hl : A.length = 20
    · left
      have ha : answerV (keptV (listX A)) c = (listX A, { code := 6 }) := by
        rw [ans_listA h (.inl (by omega))]; unfold listV; rw [size_list]
        by_cases h7 : c.k = 7
        · rw [if_pos h7, if_pos (by omega)]
        · rw [if_neg h7, if_pos (by omega), if_pos (by omega)]
      obtain ⟨e1, e2⟩ := doV_of hr ha
      rw [e1, e2]
      exact ⟨h8, hl, by simp, by simp⟩
    · by_cases h7 : c.k = 7
      · right; left
        have ha : answerV (keptV (listX A)) c = (listX (A ++ [c.txt]), { n := (A.length : Int) + 1 }) := by
          rw [ans_listA h (.inl (by omega))]; unfold listV; rw [size_list, if_pos h7, if_neg (by omega), layAt_end]
        obtain ⟨e1, e2⟩ := doV_of hr ha
        rw [e1, e2]
        have hL := list_lay h (by omega) A.length ht
        rw [layAt_end] at hL
        exact ⟨h7, by omega, by simp, by simp, hL⟩
      · right; right; left
        have ha : answerV (keptV (listX A)) c = (listX (c.txt :: A), { n := (A.length : Int) + 1 }) := by
          rw [ans_listA h (.inl (by omega))]; unfold listV; rw [size_list, if_neg h7, if_pos (by omega), if_neg (by omega), layAt_front]
        obtain ⟨e1, e2⟩ := doV_of hr ha
        rw [e1, e2]
        have hL := list_lay h (by omega) 0 ht
        rw [layAt_front] at hL
        exact ⟨by omega, by omega, by simp, by simp, hL⟩
  · right; right; right
    by_cases hn : A = []
    · left
      subst hn
      have ha : answerV (keptV (listX [])) c = (emptyVal 0, { code := 5 }) := by
        rw [kept_nilL]; unfold answerV
        rw [none_empty, if_pos rfl, if_neg (by simp [makesB]; omega)]
      obtain ⟨e1, e2⟩ := doV_of hr ha
      rw [e1, e2]
      exact ⟨by omega, rfl, by simp, by simp⟩
    · have hp : 1 ≤ A.length := List.length_pos_iff.2 hn
      right
      by_cases h9 : c.k = 9
      · left
        obtain ⟨A', y, rfl⟩ : ∃ A' y, A = A' ++ [y] := ⟨A.dropLast, A.getLast hn, (List.dropLast_concat_getLast hn).symm⟩
        have ha : answerV (keptV (listX (A' ++ [y]))) c = (listX A', { text := y }) := by
          rw [ans_listA h (.inr ⟨hp, by omega⟩)]; unfold listV
          rw [if_neg (by omega), if_neg (by omega), if_pos h9, cutAt_last]; simp
        obtain ⟨e1, e2⟩ := doV_of hr ha
        have hL := list_cut h ((A' ++ [y]).length - 1)
        rw [cutAt_last] at hL
        exact ⟨h9, A', y, rfl, by rw [e1]; simp, by rw [e2]; simp, hL⟩
      · right
        obtain ⟨y, A', rfl⟩ : ∃ y A', A = y :: A' := by cases A with | nil => exact absurd rfl hn | cons y r => exact ⟨y, r, rfl⟩
        have ha : answerV (keptV (listX (y :: A'))) c = (listX A', { text := y }) := by
          rw [ans_listA h (.inr ⟨hp, by omega⟩)]; unfold listV
          rw [if_neg (by omega), if_neg (by omega), if_neg (by omega), cutAt_first]; simp
        obtain ⟨e1, e2⟩ := doV_of hr ha
        have hL := list_cut h 0
        rw [cutAt_first] at hL
        exact ⟨by omega, A', y, rfl, by rw [e1]; simp, by rw [e2]; simp, hL⟩

def kOf (p : Nat) : Int := match p with | 0 => 7 | 1 => 8 | 2 => 7 | 3 => 8 | 4 => 9 | _ => 10
theorem kOf_le (p : Nat) : 7 ≤ kOf p ∧ kOf p ≤ 10 := by unfold kOf; split <;> omega
abbrev litK : Obj := .cells #[.int .i64 7, .int .i64 8, .int .i64 7, .int .i64 8, .int .i64 9, .int .i64 10] 3
theorem lit_at (w : World) (p : Nat) (hp : p < 6) : (w.alloc litK).cell? ⟨w.heap.size, p, none⟩ = some (.int .i64 (kOf p)) := by
  rw [(cellsB (alloc_at w litK)).1]
  have : p = 0 ∨ p = 1 ∨ p = 2 ∨ p = 3 ∨ p = 4 ∨ p = 5 := by omega
  rcases this with rfl | rfl | rfl | rfl | rfl | rfl <;> rfl

theorem setC_at {w1 : World} {g : Nat} {k n k' n' : Int} {key fld txt key' fld' txt' : ByteArray} (h : w1.heap[g]? = some (.cells #[.int .i64 k', .string key', .string fld', .string txt', .int .i64 n'] 28 (0, 0))) :
    (((((w1.setCell ⟨g, 0, none⟩ (.int .i64 k)).setCell ⟨g, 1, none⟩ (.string key)).setCell ⟨g, 2, none⟩ (.string fld)).setCell ⟨g, 3, none⟩ (.string txt)).setCell ⟨g, 4, none⟩ (.int .i64 n)).heap[g]? = some (.cells #[.int .i64 k, .string key, .string fld, .string txt, .int .i64 n] 28 (0, 0)) :=
  setCell_sameV (o := 4) (.int .i64 n) (setCell_sameV (o := 3) (.string txt) (setCell_sameV (o := 2) (.string fld) (setCell_sameV (o := 1) (.string key) (setCell_sameV (o := 0) (.int .i64 k) h))))

theorem three_new (w : World) (o0 o1 o2 : Obj) : (((w.alloc o0).alloc o1).alloc o2).heap[w.heap.size]? = some o0 ∧ (((w.alloc o0).alloc o1).alloc o2).heap[w.heap.size + 1]? = some o1 ∧ (((w.alloc o0).alloc o1).alloc o2).heap[w.heap.size + 1 + 1]? = some o2 ∧ Below w.heap.size w (((w.alloc o0).alloc o1).alloc o2) ∧ (((w.alloc o0).alloc o1).alloc o2).heap.size = w.heap.size + 1 + 1 + 1 := by
  obtain ⟨h1, h2⟩ := two_new w o0 o1
  have hz : ((w.alloc o0).alloc o1).heap.size = w.heap.size + 1 + 1 := by simp
  have hb := balloc ((w.alloc o0).alloc o1) o2
  have h3 := alloc_at ((w.alloc o0).alloc o1) o2
  rw [hz] at h3
  exact ⟨(hb.block _ (by omega)).trans h1, (hb.block _ (by omega)).trans h2, h3, ((balloc _ _).alloc (by simp) _).alloc (by simp; omega) _, by simp⟩
/-- A round's end. -/
theorem fin_list {w w3 : World} {x y : Val} {ps is ss ps' is' ss' : Value} (nv : w3.heap[w.heap.size]? = some (valO x.kind x.text x.count ps is ss)) (hB : Below w.heap.size w w3)
    (hl : Lists w3 ps' is' ss' y) (hf1 : From (w.heap.size + 1) ps') (hf2 : From (w.heap.size + 1) is') (hf3 : From (w.heap.size + 1) ss') :
    (storedV w3 w.heap.size y.kind y.text y.count ps' is' ss').heap[w.heap.size]? = some (valO y.kind y.text y.count ps' is' ss') ∧ RepsF (w.heap.size + 1) (storedV w3 w.heap.size y.kind y.text y.count ps' is' ss') (valV y.kind y.text y.count ps' is' ss') y ∧
    w.heap.size + 1 ≤ (storedV w3 w.heap.size y.kind y.text y.count ps' is' ss').heap.size ∧ Below w.heap.size w (storedV w3 w.heap.size y.kind y.text y.count ps' is' ss') ∧
    (∀ v A, OwnO (w.heap.size + 1) w3 v A → OwnO (w.heap.size + 1) (storedV w3 w.heap.size y.kind y.text y.count ps' is' ss') v A) := by
  have hz := sizeV w3 w.heap.size y.kind y.text y.count ps' is' ss'
  refine ⟨storedV_block nv, storedV_reps (B := w.heap.size + 1) ⟨_, _, _, rfl, hl, hf1, hf2, hf3⟩ (Nat.lt_succ_self _), by rw [hz]; exact lt_at nv, storedV_below hB (Nat.le_refl _), fun v A h => h.kept (Nat.le_of_eq hz.symm) fun k _ hk => keepV (by have := (h.block k hk).1; omega)⟩

set_option maxHeartbeats 16000000 in
theorem walk0 (s : Value) (l : List Raw) (w : World) (hl : RawsAt w s l) :
    Calls Tryz.prog 5 #[s] w fun e w' => e = .returned (.bool true) ∧ Below w.heap.size w w' := by
  obtain ⟨hwf, a, cap, rfl, k1, k2, k3⟩ := hl
  go_enter Tryz.func5, Tryz.ntmps5
  have n0 := alloc_at w (valO 0 ⟨#[]⟩ 0 (.slice none 0 0) (.slice none 0 0) (.slice none 0 0))
  have hB0 := balloc w (valO 0 ⟨#[]⟩ 0 (.slice none 0 0) (.slice none 0 0) (.slice none 0 0))
  have hz0 : w.heap.size + 1 ≤ (w.alloc (valO 0 ⟨#[]⟩ 0 (.slice none 0 0) (.slice none 0 0) (.slice none 0 0))).heap.size := by simp
  go_wp2_with fail
  generalize w.alloc (valO 0 ⟨#[]⟩ 0 (.slice none 0 0) (.slice none 0 0) (.slice none 0 0)) = V at n0 hB0 hz0 ⊢
  go_loopw [4, 5] (fun mv c wr => ∃ (m : Nat) (A : List ByteArray) (x : Val) (ps is ss : Value) (mo : Option Addr) (mc : Nat), c = .int .i64 (m : Int) ∧ mv = .slice mo A.length mc ∧ m ≤ l.length ∧ m ≤ 30 ∧ x = keptV (listX A) ∧ ListL A ∧ OwnO (w.heap.size + 1) wr (.slice mo A.length mc) A ∧ wr.heap[w.heap.size]? = some (valO x.kind x.text x.count ps is ss) ∧ RepsF (w.heap.size + 1) wr (valV x.kind x.text x.count ps is ss) x ∧ w.heap.size + 1 ≤ wr.heap.size ∧ Below w.heap.size w wr)
    (fun _ c _ => 30 - (intOf c).toNat)
  case atStart => exact ⟨0, [], emptyVal 0, _, _, _, none, 0, rfl, rfl, by omega, by omega, kept_nilL.symm, by simp [ListL], OwnO.nil _ _, n0, ⟨_, _, _, rfl, Lists.empty _ 0, From.nil _, From.nil _, From.nil _⟩, hz0, hB0⟩
  case round =>
    clear n0 hB0 hz0
    obtain ⟨m, A, x, ps, is, ss, mo, mc, rfl, rfl, hm, hm30, hx, hA, hown, hv, hrep, hsz, hb⟩ := hrel
    by_cases hlt : m < l.length ∧ m < 30
    · obtain ⟨hl1, hl2⟩ := hlt
      rcases k3 with rfl | ⟨b, off, rfl, hbk, hc⟩
      · simp at hl1
      · have hcw : ∀ i (h : i < l.length) (c : Nat), c < 5 → wr.cell? ⟨b, off + i * 5 + c, none⟩ = (encRw l[i])[c]? := fun i hi c hk => (hb.cell (p := ⟨b, off + i * 5 + c, none⟩) hbk).trans (hc i hi c hk)
        obtain ⟨c0, c1, c2, c3, c4⟩ := fiveR hcw m hl1
        have hbw : b < wr.heap.size := Nat.lt_of_lt_of_le hbk hb.size
        have hdw := hwf l[m] (List.getElem_mem hl1)
        have HC0 : Hid (∀ i (h : i < l.length) (c : Nat), c < 5 → w.cell? ⟨b, off + i * 5 + c, none⟩ = (encRw l[i])[c]?) := hc
        have HWF : Hid (∀ d ∈ l, d.wf) := hwf
        clear hcw hc hwf
        generalize l[m] = d at *
        obtain ⟨dk, dkey, dfld, dn, dtxt⟩ := d
        obtain ⟨w1, w2, w3, w4, w5⟩ := hdw
        simp only [i64s] at *
        have p6 := fun W => picked_any dk 6 W w1.1 w1.2 (by omega) (by omega)
        have hp := pickedN_lt dk (show 0 < 6 by omega)
        generalize pickedN dk 6 = p at *
        have hK := kOf_le p
        have hC := fun W => command_any (kOf p - 1) 0 0 dn dtxt W (by omega) (by omega) (by omega) w4 w5
        have h22 : 1 + pickedN (kOf p - 1) 22 = (kOf p).toNat := by
          unfold pickedN; rw [if_neg (by omega)]; omega
        rw [h22] at hC
        have hcf := cmdFor_fault (kOf p).toNat 0 0 dn dtxt (by omega) (by omega)
        have hck : (cmdFor (kOf p).toNat 0 0 dn dtxt).k = kOf p := by show (((kOf p).toNat : Nat) : Int) = kOf p; omega
        have hlit := lit_at wr p hp
        generalize cmdFor (kOf p).toNat 0 0 dn dtxt = c at *
        have hst := lstep hA hcf (by rw [hck]; exact hK)
        rw [← hx] at hst
        have HX : Hid (x = keptV (listX A)) := hx
        clear hx
        have hD := do_any x c
        obtain ⟨hr0, hcases⟩ := hst
        rw [hr0] at hD
        rw [hck] at hcases
        clear hr0 hcf h22
        generalize doV x c = y at *
        generalize doR x c = rp at *
        obtain ⟨ck, ckey, cfld, ctxt, cn⟩ := c
        simp only at hck hcases
        subst hck
        have hwk : IntKind.i64.wrap (kOf p - 1) = kOf p - 1 := by rw [IntKind.wrap_i64]; omega
        generalize kOf p = K at *
        have HD : Hid (DoOk x ⟨K, ckey, cfld, ctxt, cn⟩ y rp 0) := hD
        have HC : Hid (∀ W, Calls Tryz.prog 16 #[rawV (K - 1) 0 0 dn dtxt] W fun e w' => e = .returned (cmdV K ckey cfld ctxt cn) ∧ Below W.heap.size W w') := hC
        have P6 : Hid (∀ W, Calls Tryz.prog 15 #[.int .i64 dk, .int .i64 6] W fun e w' => e = .returned (.int .i64 (p : Nat)) ∧ W = w') := p6
        have HOW : Hid (OwnO (w.heap.size + 1) wr (.slice mo A.length mc) A) := hown
        have HV : Hid (wr.heap[w.heap.size]? = some (valO x.kind x.text x.count ps is ss)) := hv
        have HR : Hid (RepsF (w.heap.size + 1) wr (valV x.kind x.text x.count ps is ss) x) := hrep
        have HCS : Hid _ := hcases
        clear hD hC p6 hown hv hrep hcases
        have hi0 : (m : Int) < (l.length : Int) := by omega
        have hi1 : (m : Int) < 30 := by omega
        have hip : (p : Int) < 6 := by omega
        go_wp2_with fail
        refine (P6.out _).mono ?_
        rintro e w0 ⟨rfl, rfl⟩
        clear P6
        go_wp2_with fail
        have hb1 := balloc wr litK
        have e3 : (wr.alloc litK).cell? ⟨b, off + m * 5 + 3, none⟩ = some (.int .i64 dn) := (hb1.cell (p := ⟨b, off + m * 5 + 3, none⟩) hbw).trans c3
        have e4 : (wr.alloc litK).cell? ⟨b, off + m * 5 + 4, none⟩ = some (.string dtxt) := (hb1.cell (p := ⟨b, off + m * 5 + 4, none⟩) hbw).trans c4
        have hbz : b < (wr.alloc litK).heap.size := by have := hb1.size; omega
        have HW1 : Hid (Below wr.heap.size wr (wr.alloc litK)) := hb1
        clear hlit c0 c1 c2 c3 c4 hb1
        generalize wr.alloc litK = V1 at *
        go_cut [7] from 16 to 117 (fun s7 wx => ∃ g, s7 = .pointer (some ⟨g, 0, none⟩) ∧ wx.heap[g]? = some (.cells #[.int .i64 K, .string ckey, .string cfld, .string ctxt, .int .i64 cn] 28 (0, 0)) ∧ wr.heap.size ≤ g ∧ Below wr.heap.size wr wx)
        case first =>
          go_region_held3 (fun w' => w'.cell? ⟨b, off + m * 5 + 3, none⟩ = some (.int .i64 dn) ∧ w'.cell? ⟨b, off + m * 5 + 4, none⟩ = some (.string dtxt)) (go_keep) (first
            | (go_at_call 16; (first
              | ((with_reducible refine (HC.out _).mono ?_); rintro e w2 ⟨rfl, hb2⟩; (first
                | (have u2 : Below V1.heap.size V1 w2 := (by with_reducible exact bstep (Below.refl _ _).drew hb2); have z2 := u2.size; have y3 : ¬ b = w2.heap.size := (by omega); have x3 : ¬ w2.heap.size = b := (by omega))
                | (have u2 : Below V1.heap.size V1 w2 := (by with_reducible exact bstep (balloc _ _).drew hb2); have m7 := boxD1 hb2; have sz2 := sizeD1 hb2; obtain ⟨p1, p2⟩ := block_cells m7; have z2 := u2.size; have y3 : ¬ b = V1.heap.size := (by omega); have x3 : ¬ V1.heap.size = b := (by omega))))); obtain ⟨e5, e6⟩ := same_block (u2.block b hbz)))
          all_goals
            have HBX := bstep HW1.out u2
            go_wp2_with fail
            go_meet
            first
              | with_reducible exact ⟨_, rfl, alloc_at _ _, HBX.size, HBX.alloc HBX.size _⟩
              | with_reducible exact ⟨_, rfl, setC_at m7, HW1.out.size, ((((HBX.setCell HW1.out.size _).setCell HW1.out.size _).setCell HW1.out.size _).setCell HW1.out.size _).setCell HW1.out.size _⟩
        case rest =>
          obtain ⟨gc, rfl, hgc, hgl, hbx⟩ := hcut
          have hB := bstep hb hbx
          have nv := (hbx.block _ (lt_at HV.out)).trans HV.out
          have hr1 := HR.out.reps.below hbx
          have hown := HOW.out.below hbx
          have hblk := hown.block
          have HBK : Hid (∀ k, (Value.slice mo A.length mc).ownBlock = some k → w.heap.size + 1 ≤ k ∧ k < wc.heap.size) := hblk
          clear hblk
          clear e3 e4 hbz HW1 HC HV HR HOW hbx hb hbw
          obtain ⟨pz, iz, sz, he, hls⟩ := hr1
          have he' : ps = pz ∧ is = iz ∧ ss = sz := by simpa [valV] using he
          obtain ⟨rfl, rfl, rfl⟩ := he'
          clear he
          obtain ⟨pa, pc, ia, ic, sa, sc, rfl, rfl, rfl, -⟩ := hls.lens
          obtain ⟨v0, v1⟩ := cellsB nv
          obtain ⟨v2, v3⟩ := cellsB hgc
          have hlv := lt_at nv
          have hlc := lt_at hgc
          go_wp2_with fail
          clear v0 v1 v2 v3
          refine (HD.out _ _ ⟨_, _, _, rfl, hls⟩).mono ?_
          rintro e w2 ⟨v', u, rfl, hv', hu', hb2⟩
          have hwz : w.heap.size + 1 ≤ wc.heap.size := hlv
          clear HD hls
          have hz2 : wc.heap.size ≤ w2.heap.size := hb2.size
          replace nv := (hb2.block _ (lt_at nv)).trans nv
          replace hgc := (hb2.block _ (lt_at hgc)).trans hgc
          replace hown := hown.below hb2
          replace hB := bstep hB hb2
          clear hb2
          obtain ⟨ps', is', ss', rfl, hl', hf1, hf2, hf3⟩ := hv'
          obtain ⟨pa', pc', ia', ic', sa', sc', rfl, rfl, rfl, -⟩ := hl'.lens
          obtain ⟨la, lc, rfl⟩ := hu'.rep.shapes
          obtain ⟨qc, qt, qn, ql⟩ := rp
          clear hu'
          obtain ⟨v0, v1⟩ := cellsB nv
          obtain ⟨v2, v3⟩ := cellsB hgc
          have hlv := lt_at nv
          have hlc := lt_at hgc
          have hal : A.length ≤ 20 := hA.1
          have HL1 : Hid (w.heap.size + 1 ≤ wc.heap.size) := hwz
          rcases HCS.out with ⟨f1, f2, f3, f4⟩ | ⟨f1, f2, f3, f4, f5⟩ | ⟨f1, f2, f3, f4, f5⟩ | ⟨f1, f2, f3, f4⟩ | ⟨f1, A', t, f2, f3, f4, f5⟩ | ⟨f1, A', t, f2, f3, f4, f5⟩
          · simp only [Rep.mk.injEq] at f4
            obtain ⟨rfl, rfl, rfl, rfl⟩ := f4
            have g1 : K ≤ 8 := f1
            have g2 : ((A.length : Int) == 20) = true := by rw [beq_iff_eq]; omega
            clear f2
            have HY : Hid (y = x) := f3
            clear HCS f3
            have hS := fun W => sameReply_eq 6 ⟨#[]⟩ 0 la none lc 0 W
            obtain ⟨nN, nR, nW, hbT, hzT⟩ := three_new w2 (valO y.kind y.text y.count (.slice pa' y.pairs.length pc') (.slice ia' y.items.length ic') (.slice sa' y.scores.length sc')) (repO 6 ⟨#[]⟩ 0 (.slice la 0 lc)) (repO 6 ⟨#[]⟩ 0 (.slice none 0 0))
            have hB3 := bstep hB hbT
            have nv3 := (hbT.block _ hlv).trans nv
            have hl3 := hl'.below hbT
            have hown3 := hown.below hbT
            have HZ : Hid ((((w2.alloc (valO y.kind y.text y.count (.slice pa' y.pairs.length pc') (.slice ia' y.items.length ic') (.slice sa' y.scores.length sc'))).alloc (repO 6 ⟨#[]⟩ 0 (.slice la 0 lc))).alloc (repO 6 ⟨#[]⟩ 0 (.slice none 0 0))).heap.size = w2.heap.size + 1 + 1 + 1) := hzT
            clear hzT
            go_wp2_with fail
            clear v0 v1 v2 v3
            generalize ((w2.alloc (valO y.kind y.text y.count (.slice pa' y.pairs.length pc') (.slice ia' y.items.length ic') (.slice sa' y.scores.length sc'))).alloc (repO 6 ⟨#[]⟩ 0 (.slice la 0 lc))).alloc (repO 6 ⟨#[]⟩ 0 (.slice none 0 0)) = T at *
            (with_reducible refine (hS _).mono ?_)
            rintro e w3 ⟨rfl, hb3⟩
            replace nv3 := (hb3.block _ (lt_at nv3)).trans nv3
            have nN3 := (hb3.block _ (lt_at nN)).trans nN
            replace hl3 := hl3.below hb3
            replace hown3 := hown3.below hb3
            replace hB3 := bstep hB3 hb3
            clear hS hb3 nN nR nW nv hgc hown hl' hB hbT HZ
            obtain ⟨F1, F2, F3, F4, F5⟩ := fin_list nv3 hB3 hl3 (hf1.mono hwz) (hf2.mono hwz) (hf3.mono hwz)
            have FO := F5 _ _ hown3
            clear F5
            obtain ⟨d0, d1⟩ := cellsB nv3
            obtain ⟨d2, d3⟩ := cellsB nN3
            have hlv3 := lt_at nv3
            have hlN3 := lt_at nN3
            go_wp2_with fail
            exact ⟨⟨m + 1, A, y, _, _, _, mo, mc, by go_num, by simp, by omega, by omega, HY.out.trans HX.out, hA, FO, F1, F2, F3, F4⟩, by simp [intOf]; omega⟩
          · simp only [Rep.mk.injEq] at f4
            obtain ⟨rfl, rfl, rfl, rfl⟩ := f4
            subst f1
            have HY : Hid (y = keptV (listX (A ++ [ctxt]))) := f3
            have HL : Hid (ListL (A ++ [ctxt])) := f5
            have g2 : ((A.length : Int) == 20) = false := by rw [beq_eq_false_iff_ne]; omega
            have hwn : IntKind.i64.wrap ((A.length : Int) + 1) = (A.length : Int) + 1 := by rw [IntKind.wrap_i64]; omega
            have hbk := HBK.out
            clear HCS f3 f5 HBK HX hA
            have hS := fun W => sameReply_eq 0 ⟨#[]⟩ ((A.length : Int) + 1) la none lc 0 W
            obtain ⟨nN, nR, nW, hbT, hzT⟩ := three_new w2 (valO y.kind y.text y.count (.slice pa' y.pairs.length pc') (.slice ia' y.items.length ic') (.slice sa' y.scores.length sc')) (repO 0 ⟨#[]⟩ ((A.length : Int) + 1) (.slice la 0 lc)) (repO 0 ⟨#[]⟩ ((A.length : Int) + 1) (.slice none 0 0))
            have hbl := balloc (((w2.alloc (valO y.kind y.text y.count (.slice pa' y.pairs.length pc') (.slice ia' y.items.length ic') (.slice sa' y.scores.length sc'))).alloc (repO 0 ⟨#[]⟩ ((A.length : Int) + 1) (.slice la 0 lc))).alloc (repO 0 ⟨#[]⟩ ((A.length : Int) + 1) (.slice none 0 0))) (.cells #[.string ctxt] 9)
            have nL := alloc_at (((w2.alloc (valO y.kind y.text y.count (.slice pa' y.pairs.length pc') (.slice ia' y.items.length ic') (.slice sa' y.scores.length sc'))).alloc (repO 0 ⟨#[]⟩ ((A.length : Int) + 1) (.slice la 0 lc))).alloc (repO 0 ⟨#[]⟩ ((A.length : Int) + 1) (.slice none 0 0))) (.cells #[.string ctxt] 9)
            rw [hzT] at nL
            have hbU := bstep hbT hbl
            have nN4 := (hbl.block _ (lt_at nN)).trans nN
            have nR4 := (hbl.block _ (lt_at nR)).trans nR
            have nW4 := (hbl.block _ (lt_at nW)).trans nW
            have nv4 := (hbU.block _ hlv).trans nv
            obtain ⟨t0, t1⟩ := cellsB ((hbT.block _ hlc).trans hgc)
            have hB4 := bstep hB hbU
            have hl4 := hl'.below hbU
            have hown4 := hown.below hbU
            have hz4 : ((((w2.alloc (valO y.kind y.text y.count (.slice pa' y.pairs.length pc') (.slice ia' y.items.length ic') (.slice sa' y.scores.length sc'))).alloc (repO 0 ⟨#[]⟩ ((A.length : Int) + 1) (.slice la 0 lc))).alloc (repO 0 ⟨#[]⟩ ((A.length : Int) + 1) (.slice none 0 0))).alloc (.cells #[.string ctxt] 9)).heap.size = w2.heap.size + 1 + 1 + 1 + 1 := by simp
            have HO4 : Hid (OwnO (w.heap.size + 1) ((((w2.alloc (valO y.kind y.text y.count (.slice pa' y.pairs.length pc') (.slice ia' y.items.length ic') (.slice sa' y.scores.length sc'))).alloc (repO 0 ⟨#[]⟩ ((A.length : Int) + 1) (.slice la 0 lc))).alloc (repO 0 ⟨#[]⟩ ((A.length : Int) + 1) (.slice none 0 0))).alloc (.cells #[.string ctxt] 9)) (.slice mo A.length mc) A) := hown4
            have HNL : Hid (((((w2.alloc (valO y.kind y.text y.count (.slice pa' y.pairs.length pc') (.slice ia' y.items.length ic') (.slice sa' y.scores.length sc'))).alloc (repO 0 ⟨#[]⟩ ((A.length : Int) + 1) (.slice la 0 lc))).alloc (repO 0 ⟨#[]⟩ ((A.length : Int) + 1) (.slice none 0 0))).alloc (.cells #[.string ctxt] 9)).heap[w2.heap.size + 1 + 1 + 1]? = some (.cells #[.string ctxt] 9)) := nL
            have HN4 : Hid (((((w2.alloc (valO y.kind y.text y.count (.slice pa' y.pairs.length pc') (.slice ia' y.items.length ic') (.slice sa' y.scores.length sc'))).alloc (repO 0 ⟨#[]⟩ ((A.length : Int) + 1) (.slice la 0 lc))).alloc (repO 0 ⟨#[]⟩ ((A.length : Int) + 1) (.slice none 0 0))).alloc (.cells #[.string ctxt] 9)).heap[w2.heap.size]? = some (valO y.kind y.text y.count (.slice pa' y.pairs.length pc') (.slice ia' y.items.length ic') (.slice sa' y.scores.length sc'))) := nN4
            have HR4 : Hid (((((w2.alloc (valO y.kind y.text y.count (.slice pa' y.pairs.length pc') (.slice ia' y.items.length ic') (.slice sa' y.scores.length sc'))).alloc (repO 0 ⟨#[]⟩ ((A.length : Int) + 1) (.slice la 0 lc))).alloc (repO 0 ⟨#[]⟩ ((A.length : Int) + 1) (.slice none 0 0))).alloc (.cells #[.string ctxt] 9)).heap[w2.heap.size + 1]? = some (repO 0 ⟨#[]⟩ ((A.length : Int) + 1) (.slice la 0 lc))) := nR4
            have HW4 : Hid (((((w2.alloc (valO y.kind y.text y.count (.slice pa' y.pairs.length pc') (.slice ia' y.items.length ic') (.slice sa' y.scores.length sc'))).alloc (repO 0 ⟨#[]⟩ ((A.length : Int) + 1) (.slice la 0 lc))).alloc (repO 0 ⟨#[]⟩ ((A.length : Int) + 1) (.slice none 0 0))).alloc (.cells #[.string ctxt] 9)).heap[w2.heap.size + 1 + 1]? = some (repO 0 ⟨#[]⟩ ((A.length : Int) + 1) (.slice none 0 0))) := nW4
            have HV4 : Hid (((((w2.alloc (valO y.kind y.text y.count (.slice pa' y.pairs.length pc') (.slice ia' y.items.length ic') (.slice sa' y.scores.length sc'))).alloc (repO 0 ⟨#[]⟩ ((A.length : Int) + 1) (.slice la 0 lc))).alloc (repO 0 ⟨#[]⟩ ((A.length : Int) + 1) (.slice none 0 0))).alloc (.cells #[.string ctxt] 9)).heap[w.heap.size]? = some (valO x.kind x.text x.count (.slice pa x.pairs.length pc) (.slice ia x.items.length ic) (.slice sa x.scores.length sc))) := nv4
            have HB4 : Hid (Below w.heap.size w ((((w2.alloc (valO y.kind y.text y.count (.slice pa' y.pairs.length pc') (.slice ia' y.items.length ic') (.slice sa' y.scores.length sc'))).alloc (repO 0 ⟨#[]⟩ ((A.length : Int) + 1) (.slice la 0 lc))).alloc (repO 0 ⟨#[]⟩ ((A.length : Int) + 1) (.slice none 0 0))).alloc (.cells #[.string ctxt] 9))) := hB4
            have HL4 : Hid (Lists ((((w2.alloc (valO y.kind y.text y.count (.slice pa' y.pairs.length pc') (.slice ia' y.items.length ic') (.slice sa' y.scores.length sc'))).alloc (repO 0 ⟨#[]⟩ ((A.length : Int) + 1) (.slice la 0 lc))).alloc (repO 0 ⟨#[]⟩ ((A.length : Int) + 1) (.slice none 0 0))).alloc (.cells #[.string ctxt] 9)) (.slice pa' y.pairs.length pc') (.slice ia' y.items.length ic') (.slice sa' y.scores.length sc') y) := hl4
            have HZ4 : Hid (((((w2.alloc (valO y.kind y.text y.count (.slice pa' y.pairs.length pc') (.slice ia' y.items.length ic') (.slice sa' y.scores.length sc'))).alloc (repO 0 ⟨#[]⟩ ((A.length : Int) + 1) (.slice la 0 lc))).alloc (repO 0 ⟨#[]⟩ ((A.length : Int) + 1) (.slice none 0 0))).alloc (.cells #[.string ctxt] 9)).heap.size = w2.heap.size + 1 + 1 + 1 + 1) := hz4
            have HBK2 : Hid (∀ k, (Value.slice mo A.length mc).ownBlock = some k → w.heap.size + 1 ≤ k ∧ k < wc.heap.size) := hbk
            have HLO : Hid (Lists w2 (.slice pa' y.pairs.length pc') (.slice ia' y.items.length ic') (.slice sa' y.scores.length sc') y) := hl'
            have HUB : Hid (Below w2.heap.size w2 ((((w2.alloc (valO y.kind y.text y.count (.slice pa' y.pairs.length pc') (.slice ia' y.items.length ic') (.slice sa' y.scores.length sc'))).alloc (repO 0 ⟨#[]⟩ ((A.length : Int) + 1) (.slice la 0 lc))).alloc (repO 0 ⟨#[]⟩ ((A.length : Int) + 1) (.slice none 0 0))).alloc (.cells #[.string ctxt] 9))) := hbU
            clear nN nR nW hbT hzT hbl nL hbU nN4 nR4 nW4 nv4 hB4 hl4 hown4 hz4 hbk hown hl' hB
            go_wp2_with (at_builtin; refine wpList_append_off _ rfl _ _ 23 rfl Tryz.underlying23 info_string (w.heap.size + 1) (.slice mo A.length mc) A ?_ HO4.out (w2.heap.size + 1 + 1 + 1) 1 ctxt ?_ ?_ ?_ ?_ ?_)
            · rfl
            · rfl
            · exact (cellsB HNL.out).1 0
            · omega
            · exact Nat.le_trans (show w.heap.size + 1 ≤ w2.heap.size + 1 + 1 + 1 + 1 by omega) (Nat.le_of_eq HZ4.out.symm)
            intro v1 w3 hown3 hg3 hat3
            have hkeep : ∀ k, k < w2.heap.size + 1 + 1 + 1 + 1 → (wc.heap.size ≤ k ∨ k < w.heap.size + 1) → w3.heap[k]? = ((((w2.alloc (valO y.kind y.text y.count (.slice pa' y.pairs.length pc') (.slice ia' y.items.length ic') (.slice sa' y.scores.length sc'))).alloc (repO 0 ⟨#[]⟩ ((A.length : Int) + 1) (.slice la 0 lc))).alloc (repO 0 ⟨#[]⟩ ((A.length : Int) + 1) (.slice none 0 0))).alloc (.cells #[.string ctxt] 9)).heap[k]? := fun k hk h => hg3.block k (by rw [HZ4.out]; exact hk) (fun e => by have := HBK2.out k e.symm; omega)
            have hB3 : Below w.heap.size w w3 := HB4.out.trans ((Below.refl _ _).grown hg3 (by have := HZ4.out; omega) (fun k hk => by have := (HBK2.out k hk).1; omega))
            have nN3 := (hkeep w2.heap.size (by omega) (.inl (by omega))).trans HN4.out
            have nR3 := (hkeep (w2.heap.size + 1) (by omega) (.inl (by omega))).trans HR4.out
            have nW3 := (hkeep (w2.heap.size + 1 + 1) (by omega) (.inl (by omega))).trans HW4.out
            have nv3 := (hkeep w.heap.size (by omega) (.inr (by omega))).trans HV4.out
            have hr3 : RepsF wc.heap.size w3 (valV y.kind y.text y.count (.slice pa' y.pairs.length pc') (.slice ia' y.items.length ic') (.slice sa' y.scores.length sc')) y := RepsF.same (w := w2) ⟨_, _, _, rfl, HLO.out, hf1, hf2, hf3⟩ (fun k h1 h2 => (hkeep k (by omega) (.inl (by omega))).trans (HUB.out.block k h2)) (Nat.le_trans (Nat.le_trans (show w2.heap.size ≤ w2.heap.size + 1 + 1 + 1 + 1 by omega) (Nat.le_of_eq HZ4.out.symm)) hg3.size)
            obtain ⟨q1, q2, q3, he, hl3, -⟩ := hr3
            have he' : Value.slice pa' y.pairs.length pc' = q1 ∧ Value.slice ia' y.items.length ic' = q2 ∧ Value.slice sa' y.scores.length sc' = q3 := by simpa [valV] using he
            obtain ⟨rfl, rfl, rfl⟩ := he'
            obtain ⟨mo2, mc2, rfl⟩ : ∃ mo2 mc2, v1 = .slice mo2 (A.length + 1) mc2 := by
              obtain ⟨-, ao, cap', h, -⟩ := hown3
              exact ⟨ao, cap', by rw [h]; simp⟩
            clear he hkeep HN4 HR4 HW4 HV4 HB4 HL4 HNL HO4 hg3
            obtain ⟨d0, d1⟩ := cellsB nR3
            obtain ⟨d2, d3⟩ := cellsB nW3
            go_wp2_with fail
            (with_reducible refine (hS _).mono ?_)
            rintro e w4 ⟨rfl, hb4⟩
            clear d0 d1 d2 d3 v0 v1 v2 v3
            replace nv3 := (hb4.block _ (lt_at nv3)).trans nv3
            replace nN3 := (hb4.block _ (lt_at nN3)).trans nN3
            replace hl3 := hl3.below hb4
            replace hown3 := hown3.below hb4
            replace hB3 := bstep hB3 hb4
            clear hS hb4 nR3 nW3 nv hgc
            obtain ⟨F1, F2, F3, F4, F5⟩ := fin_list nv3 hB3 hl3 (hf1.mono hwz) (hf2.mono hwz) (hf3.mono hwz)
            have FO := F5 _ _ hown3
            clear F5
            obtain ⟨d0, d1⟩ := cellsB nv3
            obtain ⟨d2, d3⟩ := cellsB nN3
            have hlv3 := lt_at nv3
            have hlN3 := lt_at nN3
            go_wp2_with fail
            exact ⟨⟨m + 1, (A ++ [ctxt]), y, _, _, _, mo2, mc2, by go_num, by simp, by omega, by omega, HY.out, HL.out, by simpa using FO, F1, F2, F3, F4⟩, by simp [intOf]; omega⟩
          · simp only [Rep.mk.injEq] at f4
            obtain ⟨rfl, rfl, rfl, rfl⟩ := f4
            subst f1
            have HY : Hid (y = keptV (listX (ctxt :: A))) := f3
            have HL : Hid (ListL (ctxt :: A)) := f5
            have g2 : ((A.length : Int) == 20) = false := by rw [beq_eq_false_iff_ne]; omega
            have hwn : IntKind.i64.wrap ((A.length : Int) + 1) = (A.length : Int) + 1 := by rw [IntKind.wrap_i64]; omega
            have hbk := HBK.out
            clear HCS f3 f5 HBK HX hA
            have hS := fun W => sameReply_eq 0 ⟨#[]⟩ ((A.length : Int) + 1) la none lc 0 W
            obtain ⟨nN, nR, nW, hbT, hzT⟩ := three_new w2 (valO y.kind y.text y.count (.slice pa' y.pairs.length pc') (.slice ia' y.items.length ic') (.slice sa' y.scores.length sc')) (repO 0 ⟨#[]⟩ ((A.length : Int) + 1) (.slice la 0 lc)) (repO 0 ⟨#[]⟩ ((A.length : Int) + 1) (.slice none 0 0))
            have hbl := balloc (((w2.alloc (valO y.kind y.text y.count (.slice pa' y.pairs.length pc') (.slice ia' y.items.length ic') (.slice sa' y.scores.length sc'))).alloc (repO 0 ⟨#[]⟩ ((A.length : Int) + 1) (.slice la 0 lc))).alloc (repO 0 ⟨#[]⟩ ((A.length : Int) + 1) (.slice none 0 0))) (.cells #[.string ctxt] 9)
            have nL := alloc_at (((w2.alloc (valO y.kind y.text y.count (.slice pa' y.pairs.length pc') (.slice ia' y.items.length ic') (.slice sa' y.scores.length sc'))).alloc (repO 0 ⟨#[]⟩ ((A.length : Int) + 1) (.slice la 0 lc))).alloc (repO 0 ⟨#[]⟩ ((A.length : Int) + 1) (.slice none 0 0))) (.cells #[.string ctxt] 9)
            rw [hzT] at nL
            have hbU := bstep hbT hbl
            have nN4 := (hbl.block _ (lt_at nN)).trans nN
            have nR4 := (hbl.block _ (lt_at nR)).trans nR
            have nW4 := (hbl.block _ (lt_at nW)).trans nW
            have nv4 := (hbU.block _ hlv).trans nv
            obtain ⟨t0, t1⟩ := cellsB ((hbT.block _ hlc).trans hgc)
            have hB4 := bstep hB hbU
            have hl4 := hl'.below hbU
            have hown4 := hown.below hbU
            have hz4 : ((((w2.alloc (valO y.kind y.text y.count (.slice pa' y.pairs.length pc') (.slice ia' y.items.length ic') (.slice sa' y.scores.length sc'))).alloc (repO 0 ⟨#[]⟩ ((A.length : Int) + 1) (.slice la 0 lc))).alloc (repO 0 ⟨#[]⟩ ((A.length : Int) + 1) (.slice none 0 0))).alloc (.cells #[.string ctxt] 9)).heap.size = w2.heap.size + 1 + 1 + 1 + 1 := by simp
            have HO4 : Hid (OwnO (w.heap.size + 1) ((((w2.alloc (valO y.kind y.text y.count (.slice pa' y.pairs.length pc') (.slice ia' y.items.length ic') (.slice sa' y.scores.length sc'))).alloc (repO 0 ⟨#[]⟩ ((A.length : Int) + 1) (.slice la 0 lc))).alloc (repO 0 ⟨#[]⟩ ((A.length : Int) + 1) (.slice none 0 0))).alloc (.cells #[.string ctxt] 9)) (.slice mo A.length mc) A) := hown4
            have HNL : Hid (((((w2.alloc (valO y.kind y.text y.count (.slice pa' y.pairs.length pc') (.slice ia' y.items.length ic') (.slice sa' y.scores.length sc'))).alloc (repO 0 ⟨#[]⟩ ((A.length : Int) + 1) (.slice la 0 lc))).alloc (repO 0 ⟨#[]⟩ ((A.length : Int) + 1) (.slice none 0 0))).alloc (.cells #[.string ctxt] 9)).heap[w2.heap.size + 1 + 1 + 1]? = some (.cells #[.string ctxt] 9)) := nL
            have HN4 : Hid (((((w2.alloc (valO y.kind y.text y.count (.slice pa' y.pairs.length pc') (.slice ia' y.items.length ic') (.slice sa' y.scores.length sc'))).alloc (repO 0 ⟨#[]⟩ ((A.length : Int) + 1) (.slice la 0 lc))).alloc (repO 0 ⟨#[]⟩ ((A.length : Int) + 1) (.slice none 0 0))).alloc (.cells #[.string ctxt] 9)).heap[w2.heap.size]? = some (valO y.kind y.text y.count (.slice pa' y.pairs.length pc') (.slice ia' y.items.length ic') (.slice sa' y.scores.length sc'))) := nN4
            have HR4 : Hid (((((w2.alloc (valO y.kind y.text y.count (.slice pa' y.pairs.length pc') (.slice ia' y.items.length ic') (.slice sa' y.scores.length sc'))).alloc (repO 0 ⟨#[]⟩ ((A.length : Int) + 1) (.slice la 0 lc))).alloc (repO 0 ⟨#[]⟩ ((A.length : Int) + 1) (.slice none 0 0))).alloc (.cells #[.string ctxt] 9)).heap[w2.heap.size + 1]? = some (repO 0 ⟨#[]⟩ ((A.length : Int) + 1) (.slice la 0 lc))) := nR4
            have HW4 : Hid (((((w2.alloc (valO y.kind y.text y.count (.slice pa' y.pairs.length pc') (.slice ia' y.items.length ic') (.slice sa' y.scores.length sc'))).alloc (repO 0 ⟨#[]⟩ ((A.length : Int) + 1) (.slice la 0 lc))).alloc (repO 0 ⟨#[]⟩ ((A.length : Int) + 1) (.slice none 0 0))).alloc (.cells #[.string ctxt] 9)).heap[w2.heap.size + 1 + 1]? = some (repO 0 ⟨#[]⟩ ((A.length : Int) + 1) (.slice none 0 0))) := nW4
            have HV4 : Hid (((((w2.alloc (valO y.kind y.text y.count (.slice pa' y.pairs.length pc') (.slice ia' y.items.length ic') (.slice sa' y.scores.length sc'))).alloc (repO 0 ⟨#[]⟩ ((A.length : Int) + 1) (.slice la 0 lc))).alloc (repO 0 ⟨#[]⟩ ((A.length : Int) + 1) (.slice none 0 0))).alloc (.cells #[.string ctxt] 9)).heap[w.heap.size]? = some (valO x.kind x.text x.count (.slice pa x.pairs.length pc) (.slice ia x.items.length ic) (.slice sa x.scores.length sc))) := nv4
            have HB4 : Hid (Below w.heap.size w ((((w2.alloc (valO y.kind y.text y.count (.slice pa' y.pairs.length pc') (.slice ia' y.items.length ic') (.slice sa' y.scores.length sc'))).alloc (repO 0 ⟨#[]⟩ ((A.length : Int) + 1) (.slice la 0 lc))).alloc (repO 0 ⟨#[]⟩ ((A.length : Int) + 1) (.slice none 0 0))).alloc (.cells #[.string ctxt] 9))) := hB4
            have HL4 : Hid (Lists ((((w2.alloc (valO y.kind y.text y.count (.slice pa' y.pairs.length pc') (.slice ia' y.items.length ic') (.slice sa' y.scores.length sc'))).alloc (repO 0 ⟨#[]⟩ ((A.length : Int) + 1) (.slice la 0 lc))).alloc (repO 0 ⟨#[]⟩ ((A.length : Int) + 1) (.slice none 0 0))).alloc (.cells #[.string ctxt] 9)) (.slice pa' y.pairs.length pc') (.slice ia' y.items.length ic') (.slice sa' y.scores.length sc') y) := hl4
            have HZ4 : Hid (((((w2.alloc (valO y.kind y.text y.count (.slice pa' y.pairs.length pc') (.slice ia' y.items.length ic') (.slice sa' y.scores.length sc'))).alloc (repO 0 ⟨#[]⟩ ((A.length : Int) + 1) (.slice la 0 lc))).alloc (repO 0 ⟨#[]⟩ ((A.length : Int) + 1) (.slice none 0 0))).alloc (.cells #[.string ctxt] 9)).heap.size = w2.heap.size + 1 + 1 + 1 + 1) := hz4
            have HBK2 : Hid (∀ k, (Value.slice mo A.length mc).ownBlock = some k → w.heap.size + 1 ≤ k ∧ k < wc.heap.size) := hbk
            have HLO : Hid (Lists w2 (.slice pa' y.pairs.length pc') (.slice ia' y.items.length ic') (.slice sa' y.scores.length sc') y) := hl'
            have HUB : Hid (Below w2.heap.size w2 ((((w2.alloc (valO y.kind y.text y.count (.slice pa' y.pairs.length pc') (.slice ia' y.items.length ic') (.slice sa' y.scores.length sc'))).alloc (repO 0 ⟨#[]⟩ ((A.length : Int) + 1) (.slice la 0 lc))).alloc (repO 0 ⟨#[]⟩ ((A.length : Int) + 1) (.slice none 0 0))).alloc (.cells #[.string ctxt] 9))) := hbU
            clear nN nR nW hbT hzT hbl nL hbU nN4 nR4 nW4 nv4 hB4 hl4 hown4 hz4 hbk hown hl' hB
            have hrow := HO4.out.inAt
            have HIN : Hid (InAt 1 encI (fun _ => True) ((((w2.alloc (valO y.kind y.text y.count (.slice pa' y.pairs.length pc') (.slice ia' y.items.length ic') (.slice sa' y.scores.length sc'))).alloc (repO 0 ⟨#[]⟩ ((A.length : Int) + 1) (.slice la 0 lc))).alloc (repO 0 ⟨#[]⟩ ((A.length : Int) + 1) (.slice none 0 0))).alloc (.cells #[.string ctxt] 9)) (.slice mo A.length mc) A) := hrow
            have HOL : Hid (((((w2.alloc (valO y.kind y.text y.count (.slice pa' y.pairs.length pc') (.slice ia' y.items.length ic') (.slice sa' y.scores.length sc'))).alloc (repO 0 ⟨#[]⟩ ((A.length : Int) + 1) (.slice la 0 lc))).alloc (repO 0 ⟨#[]⟩ ((A.length : Int) + 1) (.slice none 0 0))).alloc (.cells #[.string ctxt] 9)).ownsRow (w.heap.size + 1) 9 1 (.slice (some ⟨w2.heap.size + 1 + 1 + 1, 0, none⟩) 1 1) 1 [.string ctxt]) := ⟨rfl, .inr ⟨w2.heap.size + 1 + 1 + 1, 1, _, rfl, by omega, HNL.out, Nat.le_refl _, by unfold maxLen; omega, rfl, rfl⟩⟩
            clear hrow
            go_wp2_with (at_builtin; refine wpList_append_in _ rfl _ _ 23 rfl (w.heap.size + 1) 9 _ 1 16 Tryz.underlying23 info_string rfl (by decide) encI (fun _ => True) (fun _ => rfl) (fun x u hu => by simp [encI] at hu; subst hu; rfl) (.slice (some ⟨w2.heap.size + 1 + 1 + 1, 0, none⟩) 1 1) 1 [.string ctxt] ?_ HOL.out (.slice mo A.length mc) A ?_ HIN.out ?_ ?_ ?_ ?_)
            · rfl
            · rfl
            · unfold maxLen; omega
            · omega
            · exact Nat.le_trans (show w.heap.size + 1 ≤ w2.heap.size + 1 + 1 + 1 + 1 by omega) (Nat.le_of_eq HZ4.out.symm)
            intro v1 w3 hown3 hg3
            replace hown3 : OwnO (w.heap.size + 1) w3 v1 (ctxt :: A) := OwnO.ofRow (by rw [show (ctxt :: A).length = 1 + A.length by simp; omega]; exact hown3) (by simp; omega) (by simp)
            have hkeep : ∀ k, k < w2.heap.size + 1 + 1 + 1 + 1 → k ≠ w2.heap.size + 1 + 1 + 1 → w3.heap[k]? = ((((w2.alloc (valO y.kind y.text y.count (.slice pa' y.pairs.length pc') (.slice ia' y.items.length ic') (.slice sa' y.scores.length sc'))).alloc (repO 0 ⟨#[]⟩ ((A.length : Int) + 1) (.slice la 0 lc))).alloc (repO 0 ⟨#[]⟩ ((A.length : Int) + 1) (.slice none 0 0))).alloc (.cells #[.string ctxt] 9)).heap[k]? := fun k hk h => hg3.block k (by rw [HZ4.out]; exact hk) (fun e => by simp only [Value.ownBlock, Option.some.injEq] at e; exact h e)
            have hB3 : Below w.heap.size w w3 := HB4.out.trans ((Below.refl _ _).grown hg3 (by have := HZ4.out; omega) (fun k hk => by simp only [Value.ownBlock, Option.some.injEq] at hk; omega))
            have nN3 := (hkeep w2.heap.size (by omega) (by omega)).trans HN4.out
            have nR3 := (hkeep (w2.heap.size + 1) (by omega) (by omega)).trans HR4.out
            have nW3 := (hkeep (w2.heap.size + 1 + 1) (by omega) (by omega)).trans HW4.out
            have nv3 := (hkeep w.heap.size (by omega) (by omega)).trans HV4.out
            have hr3 : RepsF wc.heap.size w3 (valV y.kind y.text y.count (.slice pa' y.pairs.length pc') (.slice ia' y.items.length ic') (.slice sa' y.scores.length sc')) y := RepsF.same (w := w2) ⟨_, _, _, rfl, HLO.out, hf1, hf2, hf3⟩ (fun k h1 h2 => (hkeep k (by omega) (by omega)).trans (HUB.out.block k h2)) (Nat.le_trans (Nat.le_trans (show w2.heap.size ≤ w2.heap.size + 1 + 1 + 1 + 1 by omega) (Nat.le_of_eq HZ4.out.symm)) hg3.size)
            obtain ⟨q1, q2, q3, he, hl3, -⟩ := hr3
            have he' : Value.slice pa' y.pairs.length pc' = q1 ∧ Value.slice ia' y.items.length ic' = q2 ∧ Value.slice sa' y.scores.length sc' = q3 := by simpa [valV] using he
            obtain ⟨rfl, rfl, rfl⟩ := he'
            obtain ⟨mo2, mc2, rfl⟩ : ∃ mo2 mc2, v1 = .slice mo2 (A.length + 1) mc2 := by
              obtain ⟨-, ao, cap', h, -⟩ := hown3
              exact ⟨ao, cap', by rw [h]; simp⟩
            clear he hkeep HN4 HR4 HW4 HV4 HB4 HL4 HNL HO4 hg3
            obtain ⟨d0, d1⟩ := cellsB nR3
            obtain ⟨d2, d3⟩ := cellsB nW3
            go_wp2_with fail
            (with_reducible refine (hS _).mono ?_)
            rintro e w4 ⟨rfl, hb4⟩
            clear d0 d1 d2 d3 v0 v1 v2 v3
            replace nv3 := (hb4.block _ (lt_at nv3)).trans nv3
            replace nN3 := (hb4.block _ (lt_at nN3)).trans nN3
            replace hl3 := hl3.below hb4
            replace hown3 := hown3.below hb4
            replace hB3 := bstep hB3 hb4
            clear hS hb4 nR3 nW3 nv hgc
            obtain ⟨F1, F2, F3, F4, F5⟩ := fin_list nv3 hB3 hl3 (hf1.mono hwz) (hf2.mono hwz) (hf3.mono hwz)
            have FO := F5 _ _ hown3
            clear F5
            obtain ⟨d0, d1⟩ := cellsB nv3
            obtain ⟨d2, d3⟩ := cellsB nN3
            have hlv3 := lt_at nv3
            have hlN3 := lt_at nN3
            go_wp2_with fail
            exact ⟨⟨m + 1, (ctxt :: A), y, _, _, _, mo2, mc2, by go_num, by simp, by omega, by omega, HY.out, HL.out, by simpa using FO, F1, F2, F3, F4⟩, by simp [intOf]; omega⟩
          · simp only [Rep.mk.injEq] at f4
            obtain ⟨rfl, rfl, rfl, rfl⟩ := f4
            have hA0 : A.length = 0 := by rw [f2]; rfl
            have g1 : ¬ K ≤ 8 := by omega
            have g2 : ((A.length : Int) == 0) = true := by rw [beq_iff_eq]; omega
            have g3 : (K == 7) = false := by rw [beq_eq_false_iff_ne]; omega
            have g4 : (K == 8) = false := by rw [beq_eq_false_iff_ne]; omega
            clear f2 hA0
            have HY : Hid (y = x) := f3
            clear HCS f3
            have hS := fun W => sameReply_eq 5 ⟨#[]⟩ 0 la none lc 0 W
            obtain ⟨nN, nR, nW, hbT, hzT⟩ := three_new w2 (valO y.kind y.text y.count (.slice pa' y.pairs.length pc') (.slice ia' y.items.length ic') (.slice sa' y.scores.length sc')) (repO 5 ⟨#[]⟩ 0 (.slice la 0 lc)) (repO 5 ⟨#[]⟩ 0 (.slice none 0 0))
            have hB3 := bstep hB hbT
            have nv3 := (hbT.block _ hlv).trans nv
            have hl3 := hl'.below hbT
            have hown3 := hown.below hbT
            have HZ : Hid ((((w2.alloc (valO y.kind y.text y.count (.slice pa' y.pairs.length pc') (.slice ia' y.items.length ic') (.slice sa' y.scores.length sc'))).alloc (repO 5 ⟨#[]⟩ 0 (.slice la 0 lc))).alloc (repO 5 ⟨#[]⟩ 0 (.slice none 0 0))).heap.size = w2.heap.size + 1 + 1 + 1) := hzT
            clear hzT
            go_wp2_with fail
            clear v0 v1 v2 v3
            generalize ((w2.alloc (valO y.kind y.text y.count (.slice pa' y.pairs.length pc') (.slice ia' y.items.length ic') (.slice sa' y.scores.length sc'))).alloc (repO 5 ⟨#[]⟩ 0 (.slice la 0 lc))).alloc (repO 5 ⟨#[]⟩ 0 (.slice none 0 0)) = T at *
            (with_reducible refine (hS _).mono ?_)
            rintro e w3 ⟨rfl, hb3⟩
            replace nv3 := (hb3.block _ (lt_at nv3)).trans nv3
            have nN3 := (hb3.block _ (lt_at nN)).trans nN
            replace hl3 := hl3.below hb3
            replace hown3 := hown3.below hb3
            replace hB3 := bstep hB3 hb3
            clear hS hb3 nN nR nW nv hgc hown hl' hB hbT HZ
            obtain ⟨F1, F2, F3, F4, F5⟩ := fin_list nv3 hB3 hl3 (hf1.mono hwz) (hf2.mono hwz) (hf3.mono hwz)
            have FO := F5 _ _ hown3
            clear F5
            obtain ⟨d0, d1⟩ := cellsB nv3
            obtain ⟨d2, d3⟩ := cellsB nN3
            have hlv3 := lt_at nv3
            have hlN3 := lt_at nN3
            go_wp2_with fail
            exact ⟨⟨m + 1, A, y, _, _, _, mo, mc, by go_num, by simp, by omega, by omega, HY.out.trans HX.out, hA, FO, F1, F2, F3, F4⟩, by simp [intOf]; omega⟩
          · simp only [Rep.mk.injEq] at f4
            obtain ⟨rfl, rfl, rfl, rfl⟩ := f4
            have HY : Hid (y = keptV (listX A')) := f3
            have HL : Hid (ListL A') := f5
            have hownP : OwnO (w.heap.size + 1) w2 (.slice mo A.length mc) (A' ++ [qt]) := by have := hown; rwa [f2] at this ⊢
            obtain ⟨gm, mof, hmo, hnl, hcp1, hcp2, hcl⟩ := hownP.last
            have hgm : gm < w2.heap.size := (hownP.block gm (by rw [hmo]; rfl)).2
            have hnext : OwnO (w.heap.size + 1) w2 (.slice mo A'.length A'.length) A' := hownP.pop
            subst hmo
            subst f1
            have ha20 : A'.length ≤ 19 := by omega
            clear HCS f3 f5 f2 hA hal hown hownP HBK HX
            rw [hnl]
            clear hnl
            have g2 : ((A'.length : Int) + 1 == 0) = false := by rw [beq_eq_false_iff_ne]; omega
            have g3 : IntKind.i64.wrap ((A'.length : Int) + 1 - 1) = (A'.length : Int) := by rw [IntKind.wrap_i64]; omega
            have g4 : (A'.length : Int) ≤ (mc : Int) := by omega
            have hwn : IntKind.i64.wrap ((A'.length : Int) + 1 + 1) = (A'.length : Int) + 1 + 1 := by rw [IntKind.wrap_i64]; omega
            have hcl0 : (((w2.alloc (valO y.kind y.text y.count (.slice pa' y.pairs.length pc') (.slice ia' y.items.length ic') (.slice sa' y.scores.length sc'))).alloc (repO 0 qt 0 (.slice la 0 lc))).alloc (repO 0 ⟨#[]⟩ ((A'.length : Int) + 1 + 1) (.slice none 0 0))).cell? ⟨gm, mof + A'.length, none⟩ = some (.string qt) := ((three_new w2 _ _ _).2.2.2.1.cell (p := ⟨gm, mof + A'.length, none⟩) hgm).trans hcl
            clear hcl
            have hS := fun W => sameReply_eq 0 qt 0 la none lc 0 W
            obtain ⟨nN, nR, nW, hbT, hzT⟩ := three_new w2 (valO y.kind y.text y.count (.slice pa' y.pairs.length pc') (.slice ia' y.items.length ic') (.slice sa' y.scores.length sc')) (repO 0 qt 0 (.slice la 0 lc)) (repO 0 qt 0 (.slice none 0 0))
            have hB3 := bstep hB hbT
            have nv3 := (hbT.block _ hlv).trans nv
            have hl3 := hl'.below hbT
            have hown3 := hnext.below hbT
            have HZ : Hid ((((w2.alloc (valO y.kind y.text y.count (.slice pa' y.pairs.length pc') (.slice ia' y.items.length ic') (.slice sa' y.scores.length sc'))).alloc (repO 0 qt 0 (.slice la 0 lc))).alloc (repO 0 qt 0 (.slice none 0 0))).heap.size = w2.heap.size + 1 + 1 + 1) := hzT
            clear hzT
            go_wp2_with fail
            clear v0 v1 v2 v3
            generalize ((w2.alloc (valO y.kind y.text y.count (.slice pa' y.pairs.length pc') (.slice ia' y.items.length ic') (.slice sa' y.scores.length sc'))).alloc (repO 0 qt 0 (.slice la 0 lc))).alloc (repO 0 qt 0 (.slice none 0 0)) = T at *
            (with_reducible refine (hS _).mono ?_)
            rintro e w3 ⟨rfl, hb3⟩
            replace nv3 := (hb3.block _ (lt_at nv3)).trans nv3
            have nN3 := (hb3.block _ (lt_at nN)).trans nN
            replace hl3 := hl3.below hb3
            replace hown3 := hown3.below hb3
            replace hB3 := bstep hB3 hb3
            clear hS hb3 nN nR nW nv hgc hl' hB hbT HZ hcl0
            obtain ⟨F1, F2, F3, F4, F5⟩ := fin_list nv3 hB3 hl3 (hf1.mono hwz) (hf2.mono hwz) (hf3.mono hwz)
            have FO := F5 _ _ hown3
            clear F5
            obtain ⟨d0, d1⟩ := cellsB nv3
            obtain ⟨d2, d3⟩ := cellsB nN3
            have hlv3 := lt_at nv3
            have hlN3 := lt_at nN3
            go_wp2_with fail
            exact ⟨⟨m + 1, A', y, _, _, _, _, _, by go_num, by simp, by omega, by omega, HY.out, HL.out, FO, F1, F2, F3, F4⟩, by simp [intOf]; omega⟩
          · simp only [Rep.mk.injEq] at f4
            obtain ⟨rfl, rfl, rfl, rfl⟩ := f4
            have HY : Hid (y = keptV (listX A')) := f3
            have HL : Hid (ListL A') := f5
            have hownP : OwnO (w.heap.size + 1) w2 (.slice mo A.length mc) (qt :: A') := by have := hown; rwa [f2] at this ⊢
            obtain ⟨gm, mof, hmo, hnl, hcp1, hcp2, hcl, hnx1, hnx2⟩ := hownP.shift
            have hgm : gm < w2.heap.size := (hownP.block gm (by rw [hmo]; rfl)).2
            subst hmo
            subst f1
            have ha20 : A'.length ≤ 19 := by omega
            clear HCS f3 f5 f2 hA hal hown hownP HBK HX
            rw [hnl]
            clear hnl
            have g2 : ((A'.length : Int) + 1 == 0) = false := by rw [beq_eq_false_iff_ne]; omega
            have g3 : IntKind.i64.wrap ((A'.length : Int) + 1 - 1) = (A'.length : Int) := by rw [IntKind.wrap_i64]; omega
            have g4 : (A'.length : Int) ≤ (mc : Int) := by omega
            have hwn : IntKind.i64.wrap ((A'.length : Int) + 1 + 1) = (A'.length : Int) + 1 + 1 := by rw [IntKind.wrap_i64]; omega
            have hcl0 : (((w2.alloc (valO y.kind y.text y.count (.slice pa' y.pairs.length pc') (.slice ia' y.items.length ic') (.slice sa' y.scores.length sc'))).alloc (repO 0 qt 0 (.slice la 0 lc))).alloc (repO 0 ⟨#[]⟩ ((A'.length : Int) + 1 + 1) (.slice none 0 0))).cell? ⟨gm, mof, none⟩ = some (.string qt) := ((three_new w2 _ _ _).2.2.2.1.cell (p := ⟨gm, mof, none⟩) hgm).trans hcl
            clear hcl
            have hS := fun W => sameReply_eq 0 qt 0 la none lc 0 W
            obtain ⟨nN, nR, nW, hbT, hzT⟩ := three_new w2 (valO y.kind y.text y.count (.slice pa' y.pairs.length pc') (.slice ia' y.items.length ic') (.slice sa' y.scores.length sc')) (repO 0 qt 0 (.slice la 0 lc)) (repO 0 qt 0 (.slice none 0 0))
            have hB3 := bstep hB hbT
            have nv3 := (hbT.block _ hlv).trans nv
            have hl3 := hl'.below hbT
            by_cases hm1 : mc = 1
            · have hx2 : OwnO (w.heap.size + 1) w2 (.slice (some ⟨gm, mof, none⟩) A'.length 0) A' := by
                have hA0 : A'.length = 0 := by omega
                rw [hA0]; exact hnx2 hm1
              have HA0 : Hid (A'.length = 0) := by show A'.length = 0; omega
              subst hm1
              have hm4 : (1 : Int) ≤ (A'.length : Int) + 1 := by omega
              have hown3 := hx2.below hbT
              have HZ : Hid ((((w2.alloc (valO y.kind y.text y.count (.slice pa' y.pairs.length pc') (.slice ia' y.items.length ic') (.slice sa' y.scores.length sc'))).alloc (repO 0 qt 0 (.slice la 0 lc))).alloc (repO 0 qt 0 (.slice none 0 0))).heap.size = w2.heap.size + 1 + 1 + 1) := hzT
              clear hzT hnx1 hnx2 hx2
              go_wp2_with fail
              clear v0 v1 v2 v3
              generalize ((w2.alloc (valO y.kind y.text y.count (.slice pa' y.pairs.length pc') (.slice ia' y.items.length ic') (.slice sa' y.scores.length sc'))).alloc (repO 0 qt 0 (.slice la 0 lc))).alloc (repO 0 qt 0 (.slice none 0 0)) = T at *
              (with_reducible refine (hS _).mono ?_)
              rintro e w3 ⟨rfl, hb3⟩
              replace nv3 := (hb3.block _ (lt_at nv3)).trans nv3
              have nN3 := (hb3.block _ (lt_at nN)).trans nN
              replace hl3 := hl3.below hb3
              replace hown3 := hown3.below hb3
              replace hB3 := bstep hB3 hb3
              clear hS hb3 nN nR nW nv hgc hl' hB hbT HZ hcl0
              obtain ⟨F1, F2, F3, F4, F5⟩ := fin_list nv3 hB3 hl3 (hf1.mono hwz) (hf2.mono hwz) (hf3.mono hwz)
              have FO := F5 _ _ hown3
              clear F5
              obtain ⟨d0, d1⟩ := cellsB nv3
              obtain ⟨d2, d3⟩ := cellsB nN3
              have hlv3 := lt_at nv3
              have hlN3 := lt_at nN3
              go_wp2_with fail
              exact ⟨⟨m + 1, A', y, _, _, _, _, _, by go_num, by simp; exact HA0.out.symm, by omega, by omega, HY.out, HL.out, FO, F1, F2, F3, F4⟩, by simp [intOf]; omega⟩
            · have hm2 : ¬ (mc : Int) = 1 := by omega
              have hm3 : (1 : Int) ≤ (mc : Int) := by omega
              have hm4 : (1 : Int) ≤ (A'.length : Int) + 1 := by omega
              have hown3 := hnx1.below hbT
              have HZ : Hid ((((w2.alloc (valO y.kind y.text y.count (.slice pa' y.pairs.length pc') (.slice ia' y.items.length ic') (.slice sa' y.scores.length sc'))).alloc (repO 0 qt 0 (.slice la 0 lc))).alloc (repO 0 qt 0 (.slice none 0 0))).heap.size = w2.heap.size + 1 + 1 + 1) := hzT
              clear hzT hnx1 hnx2
              go_wp2_with fail
              clear v0 v1 v2 v3
              generalize ((w2.alloc (valO y.kind y.text y.count (.slice pa' y.pairs.length pc') (.slice ia' y.items.length ic') (.slice sa' y.scores.length sc'))).alloc (repO 0 qt 0 (.slice la 0 lc))).alloc (repO 0 qt 0 (.slice none 0 0)) = T at *
              (with_reducible refine (hS _).mono ?_)
              rintro e w3 ⟨rfl, hb3⟩
              replace nv3 := (hb3.block _ (lt_at nv3)).trans nv3
              have nN3 := (hb3.block _ (lt_at nN)).trans nN
              replace hl3 := hl3.below hb3
              replace hown3 := hown3.below hb3
              replace hB3 := bstep hB3 hb3
              clear hS hb3 nN nR nW nv hgc hl' hB hbT HZ hcl0
              obtain ⟨F1, F2, F3, F4, F5⟩ := fin_list nv3 hB3 hl3 (hf1.mono hwz) (hf2.mono hwz) (hf3.mono hwz)
              have FO := F5 _ _ hown3
              clear F5
              obtain ⟨d0, d1⟩ := cellsB nv3
              obtain ⟨d2, d3⟩ := cellsB nN3
              have hlv3 := lt_at nv3
              have hlN3 := lt_at nN3
              go_wp2_with fail
              exact ⟨⟨m + 1, A', y, _, _, _, _, _, by go_num, by simp, by omega, by omega, HY.out, HL.out, FO, F1, F2, F3, F4⟩, by simp [intOf]; omega⟩
    · have hge : ¬ ((m : Int) < (l.length : Int) ∧ (m : Int) < 30) := by omega
      have hx' : (¬ (m : Int) < (l.length : Int)) ∨ ((m : Int) < (l.length : Int) ∧ ¬ (m : Int) < 30) := by omega
      have HX : Hid (x = keptV (listX A)) := hx
      obtain ⟨pz, iz, sz, he, hls, -⟩ := hrep
      have he' : ps = pz ∧ is = iz ∧ ss = sz := by simpa [valV] using he
      obtain ⟨rfl, rfl, rfl⟩ := he'
      clear he hx hge k3 hwf hlt
      obtain ⟨pa, pc, ia, ic, sa, sc, rfl, rfl, rfl, -⟩ := hls.lens
      have A1 : Hid (Acts (emptyVal 0) ⟨7, ⟨#[107]⟩, ⟨#[]⟩, ⟨#[]⟩, 0⟩ (listX [⟨#[]⟩]) { n := 1 } 0) := by
        have hf : (⟨7, ⟨#[107]⟩, ⟨#[]⟩, ⟨#[]⟩, 0⟩ : Cmd).fault = 0 := by decide +kernel
        obtain ⟨h0, h1⟩ := lstep (A := []) (by simp [ListL]) hf (by simp)
        rw [kept_nilL] at h0 h1
        rcases h1 with ⟨-, h, -⟩ | ⟨-, -, h2, h3, -⟩ | ⟨h, -⟩ | ⟨h, -⟩ | ⟨h, -⟩ | ⟨h, -⟩
        · simp at h
        · have := acts_any (emptyVal 0) ⟨7, ⟨#[107]⟩, ⟨#[]⟩, ⟨#[]⟩, 0⟩
          rw [h0, h2, h3] at this
          have e : keptV (listX ([] ++ [⟨#[]⟩])) = listX [⟨#[]⟩] := kept_some (by simp)
          rw [e] at this
          exact this
        · simp at h
        · simp at h
        · simp at h
        · simp at h
      have hB := hb
      have hown2 := hown
      have HST : Hid (∀ W, Below wr.heap.size wr W → Calls Tryz.prog 18 #[.slice ia x.items.length ic, .slice mo A.length mc] W fun e w' => e = .returned (.bool true) ∧ Below W.heap.size W w') := fun W hW => by
        have hi : x.items = A := by
          rw [HX.out]
          by_cases h0 : 1 ≤ A.length
          · rw [kept_some h0]
          · have : A = [] := List.eq_nil_of_length_eq_zero (by omega)
            subst this; rw [kept_nilL]; rfl
        have hxi := hls.i.below hW
        rcases (hown2.below hW).row with ⟨h1, a', c', h2⟩ | h
        · have hl0 : x.items.length = 0 := by rw [hi, h1]; rfl
          have hl1 : A.length = 0 := by rw [h1]; rfl
          rw [hl0, hl1]
          exact sameTexts_nil _ _ _ _ W
        · rw [hi] at hxi ⊢
          exact sameTexts_eq _ _ A W hxi h
      have hsl : x.items.length = x.items.length := rfl
      clear hb hown hown2 HX
      have hemp : Lists wr (.slice none 0 0) (.slice none 0 0) (.slice none 0 0) (emptyVal 0) := Lists.empty _ 0
      have HV2 : Hid (wr.heap[w.heap.size]? = some (valO x.kind x.text x.count (.slice pa x.pairs.length pc) (.slice ia x.items.length ic) (.slice sa x.scores.length sc))) := hv
      clear hv hls
      rcases hx' with hx1 | ⟨hx1, hx2⟩
      all_goals
        go_wp2_with fail
        refine (A1.out _ _ _ _ hemp).mono ?_
        rintro e w2 ⟨pa2, pc2, ia2, ic2, sa2, sc2, la2, lc2, rfl, -, -, hb2⟩
        have nv := (hb2.block _ (lt_at HV2.out)).trans HV2.out
        have hB2 := bstep hB hb2
        have hS := HST.out _ (hb2.trans (((balloc w2 (valO 4 ⟨#[]⟩ 0 (.slice pa2 0 pc2) (.slice ia2 1 ic2) (.slice sa2 0 sc2))).alloc (by simp) (repO 0 ⟨#[]⟩ 1 (.slice la2 0 lc2))).mono hb2.size))
        obtain ⟨d0, d1⟩ := cellsB nv
        have hlv := lt_at nv
        clear A1 hemp hb2 HV2 HST
        simp only [List.length_nil, List.length_singleton]
        go_wp2_with fail
        (with_reducible refine hS.mono ?_)
        rintro e w3 ⟨rfl, hb3⟩
        go_wp2_with fail
        go_ret
        exact ⟨rfl, bstep ((hB2.alloc hB2.size _).alloc (by have := hB2.size; simp; omega) _) hb3⟩

theorem walk (v0 : Value) (w : World) (h0 : IsRaws w v0) :
    Calls Tryz.prog 5 #[v0] w fun e w' => e = .returned (.bool true) ∧ Below w.heap.size w w' := by
  obtain ⟨l, hl, -⟩ := h0
  exact walk0 v0 l w hl

theorem own : ownKnob Tryz.prog.godebug = none := by kernel_rfl
theorem laidOut : laidOutB Tryz.prog = true := by kernel_rfl

set_option maxRecDepth 100000 in
theorem lifted (os : Os) (started : os.Started) (H : Type) (enc : TypeId × Value → H) :
    ReturnsInHanded {} Tryz.checked os 5 .any (Rows.listModelSpec.pre6 enc Tryz.prog Tryz.f5 Rows.listModelRow.domain false) (Rows.listModelSpec.post enc Tryz.prog Tryz.f5 false true false false) := by
  refine returnsInHanded_of_change_sized (C := Tryz.checked) own started (by kernel_rfl) Tryz.func5
    (ChangeSpec.witness6 (enc := enc) (C := Tryz.checked) false ⟨#[], #[.slice none 0 0], []⟩ 8 (by kernel_rfl) (by kernel_rfl) (by kernel_rfl) (by kernel_rfl)) ?_
  intro W base args ds gs before hval0 hW hcnd hsz _
  have hval : ∀ (j : Nat) t v, Tryz.f5.params[j]? = some t → args[j]? = some v → Value.okWide Tryz.prog W .any base t v := hval0
  have hW' := hW
  obtain ⟨p, q, hA0, hV, rfl, hfz, hnd⟩ := hW
  have hA : DataW.TrodAll enc Tryz.prog W 0 (fun _ => true) true Tryz.f5.params.toList args.toList ds p := hA0
  rw [Tryz.params5] at hA hval
  obtain ⟨v0, vs0, d0, ds0, p0, q0, hargs, rfl, rfl, h0, r0⟩ := trodAll_cons hA
  obtain ⟨rfl, rfl, rfl⟩ := trodAll_nil r0
  obtain rfl : args = #[v0] := by cases args; simp_all
  obtain ⟨rfl, rfl⟩ := trodVars_none hV
  have lt0 : ∀ x ∈ p0, x.block < W.heap.size := by obtain ⟨m, hm⟩ := h0; exact DataW.trod_lt m _ _ _ hm
  have g0 := shape_raws (hval 0 38 v0 rfl rfl) h0 (fun n hn => of_decide_eq_true (List.all_eq_true.1 hsz n (DataW.weights_mem_each (j := 0) rfl rfl n hn)))
  clear hA0 hval0
  refine (walk v0 W g0).mono fun e W' ⟨he, bel⟩ => ?_
  subst he
  exact ⟨_, rfl, _, _, _, [], _, [], hW', trodAll_mk1 (shut_bool Tryz.underlying4 _), (trodAll_cons_mk (Below.trod laidOut (by kernel_rfl) (of_decide_eq_true (by kernel_rfl)) h0 bel lt0) trodAll_mk0), rfl, bel.frame _, fun h => by cases h⟩

theorem over : Rows.listModelRow.holds Tryz.pinned (OpenSpec.ofChange Rows.listModelSpec) :=
  OpenClaim.holds_of_wide 5 Tryz.f5 rfl rfl rfl rfl rfl rfl rfl ⟨rfl, rfl, rfl, rfl, rfl⟩ rfl rfl rfl rfl rfl (by kernel_rfl) Tryz.func5 (by kernel_rfl)
    (of_decide_eq_true (by kernel_rfl)) (by unfold Func.isWrapper; first | (rw [if_pos (by decide +kernel)]; kernel_rfl) | (rw [if_neg (by decide +kernel)]; exact ⟨rfl, rfl⟩))
    (fun os started H enc _ => lifted os started H enc)

end Go.Proofs.YtgpdnhammdgndaaGreat.listModelDone
namespace Go.Proofs.YtgpdnhammdgndaaGreat
theorem ListModel_holds : Rows.ListModelSaid := listModelDone.over
end Go.Proofs.YtgpdnhammdgndaaGreat
