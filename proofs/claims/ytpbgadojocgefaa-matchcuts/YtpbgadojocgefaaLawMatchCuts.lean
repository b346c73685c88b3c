/- What comes with another term takes the place of all from there on: an item of a later term, laid at any place of a log of raw numbers, cuts what stood from there on, and a second time nothing is new: for all raw numbers, every base and place the law returns true. No condition. -/
import Derived.Test.YtpbgadojocgefaaMn
import Derived.Test.YtpbgadojocgefaaHk
import Derived.Test.YtpbgadojocgefaaOj
import Derived.Test.YtpbgadojocgefaaQt
import Derived.Test.YtpbgadojocgefaaSa
import Derived.Test.YtpbgadojocgefaaAp
import Derived.Shelf.Abstract
import Derived.Sort.OwnSorted
namespace Go.Proofs.Ytpbgadojocgefaa.matchCutsDone
open Go.ChangeShapes Go.WideShapes Go.ChangeAt Go.RowKit
open Go.Proofs.Ytpbgadojocgefaa
set_option linter.unusedVariables false
set_option maxRecDepth 100000

theorem info_deed : (Try.prog.info? 37).map (fun i => (i.zero, i.size, i.bytes)) = some (some (.agg #[.int .i64 0, .int .i64 0, .int .i64 0, .int .i64 0, .int .i64 0, .int .i64 0, .int .i64 0, .string ByteArray.empty]), 8, 72) := by kernel_rfl

theorem ownsRow_shapeD {w : World} {B : Nat} {t : TypeId} {k n : Nat} {v : Value} {xs : List Value} (h : w.ownsRow B t k v n xs) : ∃ a c, v = .slice a n c := by
  rcases h.2 with ⟨rfl, rfl⟩ | ⟨g, cap, cur, rfl, _⟩
  · exact ⟨none, 0, rfl⟩
  · exact ⟨some ⟨g, 0, none⟩, cap, rfl⟩
theorem take_row {w : World} {a : Option Addr} {cap k : Nat} {l : List Itm} (h : RowI w (.slice a l.length cap) l) (hk : k ≤ l.length) : RowI w (.slice a k cap) (l.take k) := by
  obtain ⟨h0, a', c', he, h1, h2, h3⟩ := h
  simp only [Value.slice.injEq, true_and] at he
  obtain ⟨rfl, rfl⟩ := he
  refine ⟨by simp; omega, a, cap, by rw [List.length_take, Nat.min_eq_left hk], by simp; omega, h2, ?_⟩
  rcases h3 with rfl | ⟨b, off, rfl, hb, hc⟩
  · exact .inl (by simp)
  · exact .inr ⟨b, off, rfl, hb, fun i hi c hc' => by rw [List.getElem_take]; exact hc i (by simp at hi; omega) c hc'⟩
abbrev nilDO : Obj := .cells #[.int .i64 0, .int .i64 0, .int .i64 0, .int .i64 0, .int .i64 0, .int .i64 0, .int .i64 0, .string ⟨#[]⟩] 37
theorem nilD_row (w : World) : InAt 8 encD Deed.wf (w.alloc (.cells #[.int .i64 0, .int .i64 0, .int .i64 0, .int .i64 0, .int .i64 0, .int .i64 0, .int .i64 0, .string ⟨#[]⟩] 37)) (.slice (some ⟨w.heap.size, 0, none⟩) 1 1) [nilD] := by
  refine ⟨fun d hd => by rw [List.mem_singleton.1 hd]; exact nilD_wf, _, 1, rfl, by simp, by omega, .inr ⟨w.heap.size, 0, rfl, by simp, fun i hi c hc => ?_⟩⟩
  have h0 : i = 0 := by simp at hi; omega
  subst h0
  have := (cellsB (alloc_at w (.cells #[.int .i64 0, .int .i64 0, .int .i64 0, .int .i64 0, .int .i64 0, .int .i64 0, .int .i64 0, .string ⟨#[]⟩] 37))).1 c
  rw [show 0 + 0 * 8 + c = c by omega, this]
  simp [encD, nilD]

set_option maxHeartbeats 16000000 in
theorem walk0 (s : Value) (l : List Deed) (base at' : Int) (w : World) (hd : DeedsAt w s l) (b1 : in64 base) (b2 : in64 at') :
    Calls Try.prog 4 #[s, .int .i64 base, .int .i64 at'] w fun e w' => e = .returned (.bool true) ∧ Below w.heap.size w w' := by
  obtain ⟨hwf, a, cap, rfl, k1, k2, k3⟩ := hd
  have hM : (min (l.length : Int) 29).toNat = (l.take 29).length := by rw [List.length_take]; omega
  have hM2 : (l.take 29).length ≤ 29 := by simp; omega
  have hrow : InAt 8 encD Deed.wf w (.slice a (min (l.length : Int) 29).toNat cap) (l.take 29) := by
    rw [hM]
    refine ⟨fun d hd => hwf d (List.mem_of_mem_take hd), a, cap, rfl, by rw [← hM]; omega, k2, ?_⟩
    rcases k3 with rfl | ⟨b, off, rfl, hb, hc⟩
    · exact .inl rfl
    · refine .inr ⟨b, off, rfl, hb, fun i hi c hk => ?_⟩
      rw [List.getElem_take]
      exact hc i (by rw [List.length_take] at hi; omega) c hk
  have hwf2 : ∀ d ∈ l.take 29 ++ [nilD], d.wf := fun d hd => by
    rcases List.mem_append.1 hd with h | h
    · exact hwf d (List.mem_of_mem_take h)
    · rw [List.mem_singleton.1 h]; exact nilD_wf
  clear hM k3
  generalize l.take 29 = T at *
  have HROW : Hid (InAt 8 encD Deed.wf w (.slice a (min (l.length : Int) 29).toNat cap) T) := hrow
  have HW2 : Hid (∀ d ∈ T ++ [nilD], d.wf) := hwf2
  have hmn : 0 ≤ min (l.length : Int) 29 ∧ min (l.length : Int) 29 ≤ (cap : Int) := by omega
  clear hrow hwf2 hwf
  have hGl := fun W s (h : DeedsAt W s (T ++ [nilD])) => log_any s (T ++ [nilD]) base W h b1.1 b1.2
  have hk := logFor_ok (T ++ [nilD]) base
  have hs := logFor_small (T ++ [nilD]) base
  have htt := logFor_terms (T ++ [nilD]) base
  have hlen : (logFor (T ++ [nilD]) base).items.length = T.length + 1 := by unfold logFor; split <;> simp [itemsFor_length] <;> omega
  generalize logFor (T ++ [nilD]) base = g at *
  have hpos : 0 < g.items.length := by omega
  have p1 := fun W => picked_any at' g.items.length W b2.1 b2.2 (by omega) (by omega)
  have hkl := pickedN_lt at' hpos
  generalize pickedN at' g.items.length = k at *
  have hT := fun (W : World) (r : Value) (h : RowI W r g.items) => term_any g r (g.base + k) W h
  rw [termR_atN g k hk (by omega)] at hT
  obtain ⟨hl1, hl2⟩ := last_least g hk hpos
  have hv40 : (g.items[g.items.length - 1]'(by omega)).t ≤ 40 := by
    have h1 := htt (g.base + (g.items.length - 1 : Nat) + 1) (by omega) (by show _ ≤ g.base + (g.items.length : Int); omega)
    rw [termAt_item g (g.items.length - 1) (by omega)] at h1
    exact h1.2
  have hv0 : 0 ≤ (g.items[g.items.length - 1]'(by omega)).t := by have := (okB_le hk).2.2.2.1; omega
  obtain ⟨hc1, hc2, hc3⟩ := matchR_cut g k ((g.items[g.items.length - 1]'(by omega)).t + 1) hk hkl (fun i hi => by have := hl1 i hi; omega) (by omega) (by omega)
  have hM := fun (W : World) (r xs : Value) (h : RowI W r g.items) (hx : RowI W xs [g.items[k].of ((g.items[g.items.length - 1]'(by omega)).t + 1)]) => match_any g r (g.base + k) (g.termAt (g.base + k)) xs _ W h hx
  rw [hc1] at hM
  have hM2 := fun (W : World) (r xs : Value) (h : RowI W r (g.items.take k ++ [g.items[k].of ((g.items[g.items.length - 1]'(by omega)).t + 1)])) (hx : RowI W xs [g.items[k].of ((g.items[g.items.length - 1]'(by omega)).t + 1)]) => match_any ⟨g.base, g.term, g.items.take k ++ [g.items[k].of ((g.items[g.items.length - 1]'(by omega)).t + 1)]⟩ r (g.base + k) ((⟨g.base, g.term, g.items.take k ++ [g.items[k].of ((g.items[g.items.length - 1]'(by omega)).t + 1)]⟩ : Lg).termAt (g.base + k)) xs _ W h hx
  have hagain := matchR_again ⟨g.base, g.term, g.items.take k⟩ k (g.items[k].of ((g.items[g.items.length - 1]'(by omega)).t + 1)) (by simp; omega) hc2
  simp only at hagain
  rw [hagain, hc3] at hM2
  have hlastg : ∃ z : Itm, g.items[g.items.length - 1]? = some z ∧ z.t = (g.items[g.items.length - 1]'(by omega)).t := ⟨_, List.getElem?_eq_getElem (by omega), rfl⟩
  have hkth : g.items[k]? = some g.items[k] := List.getElem?_eq_getElem hkl
  have htk : (g.items.take k).length = k := by simp; omega
  generalize hvv : (g.items[g.items.length - 1]'(by omega)).t = v at *
  generalize g.items[k] = x at *
  obtain ⟨xt, xu, xp, xcl, xseq, ck, ckey, cfld, ctxt, cn⟩ := x
  generalize g.termAt (g.base + k) = TT at *
  clear hvv hc1 hc2 hc3 hagain hl1 hl2 htt hk
  obtain ⟨b, t, A⟩ := g
  simp only at *
  obtain ⟨R, hR⟩ : ∃ R : List Itm, R = A.take k ++ [⟨v + 1, xu, xp, xcl, xseq, ⟨ck, ckey, cfld, ctxt, cn⟩⟩] := ⟨_, rfl⟩
  rw [← hR] at hM hM2
  have hRl : R.length = k + 1 := by rw [hR]; simp; omega
  have HRk : Hid (R[k]? = some ⟨v + 1, xu, xp, xcl, xseq, ⟨ck, ckey, cfld, ctxt, cn⟩⟩) := by show R[k]? = _; rw [hR, List.getElem?_append_right (by omega), htk]; simp
  have HRt : Hid (R.take k = A.take k) := by show R.take k = _; rw [hR, List.take_append_of_le_length (by omega), List.take_take, Nat.min_self]
  clear hR
  have HG : Hid (∀ (W : World) (s : Value), DeedsAt W s (T ++ [nilD]) → Calls Try.prog 10 #[s, .int .i64 base] W fun e w' => ∃ r, e = .returned (logV b t r) ∧ OwnI W.heap.size w' r A ∧ Below W.heap.size W w') := hGl
  have P1 : Hid (∀ W, Calls Try.prog 11 #[.int .i64 at', .int .i64 (A.length : Int)] W fun e w' => e = .returned (.int .i64 (k : Nat)) ∧ W = w') := p1
  have HT : Hid (∀ (W : World) (r : Value), RowI W r A → Calls Try.prog 12 #[logV b t r, .int .i64 (b + k)] W fun e w' => e = .returned (.tuple #[.int .i64 TT, .int .i64 0]) ∧ Below W.heap.size W w') := hT
  have HM : Hid (∀ (W : World) (r xs : Value), RowI W r A → RowI W xs [⟨v + 1, xu, xp, xcl, xseq, ⟨ck, ckey, cfld, ctxt, cn⟩⟩] → Calls Try.prog 6 #[logV b t r, .int .i64 (b + k), .int .i64 TT, xs] W (MatchOk W ⟨⟨b, t, R⟩, true, b + k + 1, 0⟩)) := hM
  have HM2 : Hid (∀ (W : World) (r xs : Value), RowI W r R → RowI W xs [⟨v + 1, xu, xp, xcl, xseq, ⟨ck, ckey, cfld, ctxt, cn⟩⟩] → Calls Try.prog 6 #[logV b t r, .int .i64 (b + k), .int .i64 TT, xs] W (MatchOk W ⟨⟨b, t, R⟩, true, 0, 0⟩)) := hM2
  have HLA : Hid (∃ z : Itm, A[A.length - 1]? = some z ∧ z.t = v) := hlastg
  have HKA : Hid (A[k]? = some ⟨xt, xu, xp, xcl, xseq, ⟨ck, ckey, cfld, ctxt, cn⟩⟩) := hkth
  have HTK : Hid ((A.take k).length = k) := htk
  have hAl : A.length ≤ 30 := hs.1
  have hb0 : 0 ≤ b := hs.2.1
  have hb9 : b ≤ 11 := hs.2.2
  have hwb : IntKind.i64.wrap (b + (k : Int)) = b + k := by rw [IntKind.wrap_i64]; omega
  have hwb2 : IntKind.i64.wrap (b + (k : Int) + 1) = b + k + 1 := by rw [IntKind.wrap_i64]; omega
  have hwk : IntKind.i64.wrap ((k : Int) + 1) = k + 1 := by rw [IntKind.wrap_i64]; omega
  have hyb : wrap64 (b + (k : Int)) = b + k := by unfold wrap64; omega
  clear hGl p1 hT hM hM2 hlastg hkth htk hs b1 b2 hlen
  go_enter Try.func4, Try.ntmps4
  go_wp2_with (at_builtin; refine wpList_append_in _ rfl _ _ 32 rfl w.heap.size 37 _ 8 72 Try.underlying32 info_deed rfl (by decide) encD Deed.wf lenD oneD (.slice none 0 0) 0 [] rfl ⟨rfl, .inl ⟨rfl, rfl⟩⟩ (.slice a (min (l.length : Int) 29).toNat cap) T ?_ HROW.out ?_ ?_ ?_ ?_)
  · rfl
  · unfold maxLen; omega
  · omega
  · exact Nat.le_refl _
  intro v1 w1 hown1 hg1
  replace hown1 : w1.ownsRow w.heap.size 37 8 v1 T.length (T.flatMap encD) := by simpa using hown1
  have hB1 : Below w.heap.size w w1 := (Below.refl _ _).grown hg1 (Nat.le_refl _) (fun k hk => by cases hk)
  obtain ⟨a1, c1, rfl⟩ := ownsRow_shapeD hown1
  clear hg1 hmn HROW
  have HO1 : Hid (w1.ownsRow w.heap.size 37 8 (.slice a1 T.length c1) T.length (T.flatMap encD)) := hown1
  have HN : Hid (InAt 8 encD Deed.wf (w1.alloc (.cells #[.int .i64 0, .int .i64 0, .int .i64 0, .int .i64 0, .int .i64 0, .int .i64 0, .int .i64 0, .string ⟨#[]⟩] 37)) (.slice (some ⟨w1.heap.size, 0, none⟩) 1 1) [nilD]) := nilD_row w1
  have hz1 := hB1.size
  clear hown1
  go_wp2_with (at_builtin; refine wpList_append_in _ rfl _ _ 32 rfl w.heap.size 37 _ 8 72 Try.underlying32 info_deed rfl (by decide) encD Deed.wf lenD oneD (.slice a1 T.length c1) T.length (T.flatMap encD) rfl (HO1.out.alloc _) (.slice (some ⟨w1.heap.size, 0, none⟩) 1 1) [nilD] ?_ HN.out ?_ ?_ ?_ ?_)
  · rfl
  · unfold maxLen; simp; omega
  · simp; omega
  · simp; omega
  intro v2 w2 hown2 hg2
  have hB2 : Below w.heap.size w w2 := (hB1.alloc hz1 nilDO).trans ((Below.refl _ _).grown hg2 (by simp; omega) (fun j hj => (World.ownsRow.lt (HO1.out.alloc nilDO) j hj).1))
  replace hown2 : w2.ownsRow w.heap.size 37 8 v2 (T ++ [nilD]).length ((T ++ [nilD]).flatMap encD) := by simpa using hown2
  have hds : DeedsAt w2 v2 (T ++ [nilD]) := InAt.ofOwn lenD hown2 (by simp; omega) HW2.out
  obtain ⟨a2, c2, rfl⟩ := ownsRow_shapeD hown2
  rw [show (T ++ [nilD]).length = T.length + 1 by simp] at hds
  clear hown2 hg2 HO1 HN HW2 hB1 hz1 hM2
  go_wp2_with fail
  (with_reducible refine (HG.out _ _ hds).mono ?_)
  rintro e w3 ⟨r, rfl, hown, hb3⟩
  have hB3 := bstep hB2 hb3
  clear hds HG hB2 hb3
  have hrow := hown.row (by omega)
  obtain ⟨sa, sc, rfl⟩ := hown.shape
  clear hown
  go_wp2_with fail
  have hB := hB3
  clear hB3
  have ng := alloc_at w3 (logO b t (.slice sa A.length sc))
  have hbx := balloc w3 (logO b t (.slice sa A.length sc))
  replace hrow := hrow.below hbx
  replace hB := hB.alloc hB.size (logO b t (.slice sa A.length sc))
  clear hbx
  generalize w3.alloc (logO b t (.slice sa A.length sc)) = V at ng hrow hB ⊢
  generalize w3.heap.size = bg at ng ⊢
  refine (P1.out _).mono ?_
  rintro e w4 ⟨rfl, rfl⟩
  obtain ⟨c1, f1⟩ := cellsB ng
  clear P1
  go_wp2_with fail
  refine (HT.out _ _ hrow).mono ?_
  rintro e w4 ⟨rfl, hb4⟩
  clear HT c1 f1
  replace ng := (hb4.block _ (lt_at ng)).trans ng
  replace hrow := hrow.below hb4
  replace hB := bstep hB hb4
  clear hb4
  obtain ⟨c1, f1⟩ := cellsB ng
  obtain ⟨hA47, a', c', he, q1, q2, q3⟩ := hrow
  simp only [Value.slice.injEq, true_and] at he
  obtain ⟨rfl, rfl⟩ := he
  obtain ⟨bb, off, rfl, hbb, hcc⟩ : ∃ bb off, sa = some ⟨bb, off, none⟩ ∧ bb < w4.heap.size ∧ ∀ i (h : i < A.length) (c : Nat), c < 10 → w4.cell? ⟨bb, off + i * 10 + c, none⟩ = (encIt A[i])[c]? := by
    rcases q3 with rfl | h
    · simp at hpos
    · exact h
  have HR4 : Hid (RowI w4 (.slice (some ⟨bb, off, none⟩) A.length sc) A) := ⟨hA47, _, _, rfl, q1, q2, .inr ⟨bb, off, rfl, hbb, hcc⟩⟩
  have hxc := hcc k hkl
  have hxe : A[k] = ⟨xt, xu, xp, xcl, xseq, ⟨ck, ckey, cfld, ctxt, cn⟩⟩ := by have := HKA.out; rw [List.getElem?_eq_getElem hkl] at this; exact Option.some.inj this
  rw [hxe] at hxc
  have k0 : w4.cell? ⟨bb, off + k * 10, none⟩ = some (.int .i64 xt) := hxc 0 (by omega)
  have k1' : w4.cell? ⟨bb, off + k * 10 + 1, none⟩ = some (.int .i64 xu) := hxc 1 (by omega)
  have k2' : w4.cell? ⟨bb, off + k * 10 + 2, none⟩ = some (.bool xp) := hxc 2 (by omega)
  have k3' : w4.cell? ⟨bb, off + k * 10 + 3, none⟩ = some (.int .i64 xcl) := hxc 3 (by omega)
  have k4' : w4.cell? ⟨bb, off + k * 10 + 4, none⟩ = some (.int .i64 xseq) := hxc 4 (by omega)
  have k5' : w4.cell? ⟨bb, off + k * 10 + 5, none⟩ = some (.int .i64 ck) := hxc 5 (by omega)
  have k6' : w4.cell? ⟨bb, off + k * 10 + 6, none⟩ = some (.string ckey) := hxc 6 (by omega)
  have k7' : w4.cell? ⟨bb, off + k * 10 + 7, none⟩ = some (.string cfld) := hxc 7 (by omega)
  have k8' : w4.cell? ⟨bb, off + k * 10 + 8, none⟩ = some (.string ctxt) := hxc 8 (by omega)
  have k9' : w4.cell? ⟨bb, off + k * 10 + 9, none⟩ = some (.int .i64 cn) := hxc 9 (by omega)
  have hzc : w4.cell? ⟨bb, off + (A.length - 1) * 10, none⟩ = some (.int .i64 v) := by
    obtain ⟨z, h1, h2⟩ := HLA.out
    rw [List.getElem?_eq_getElem (by omega)] at h1
    have := hcc (A.length - 1) (by omega) 0 (by omega)
    rw [Option.some.inj h1] at this
    rw [Nat.add_zero] at this
    rw [this, ← h2]; rfl
  have hix : (k : Int) < (A.length : Int) := by omega
  have hid1 : IntKind.i64.wrap ((A.length : Int) - 1) = ((A.length - 1 : Nat) : Int) := by rw [IntKind.wrap_i64]; omega
  have hid2 : ((A.length - 1 : Nat) : Int) < (A.length : Int) := by omega
  have hwv : IntKind.i64.wrap (v + 1) = v + 1 := by rw [IntKind.wrap_i64]; omega
  have hlb := lt_at ng
  have HNG : Hid (w4.heap[bg]? = some (logO b t (.slice (some ⟨bb, off, none⟩) A.length sc))) := ng
  have HB4 : Hid (Below w.heap.size w w4) := hB
  clear q3 hcc hxc hxe HLA HKA hA47 ng hB q1 q2
  go_wp2_with fail
  obtain ⟨nx, nl, hbx, -⟩ := two_at w4 (itemO (v + 1) xu xp xcl xseq ck ckey cfld ctxt cn) (itemO (v + 1) xu xp xcl xseq ck ckey cfld ctxt cn)
  have hx5 := itm_row ⟨v + 1, xu, xp, xcl, xseq, ⟨ck, ckey, cfld, ctxt, cn⟩⟩ (w4.alloc (itemO (v + 1) xu xp xcl xseq ck ckey cfld ctxt cn))
  simp only [show (w4.alloc (itemO (v + 1) xu xp xcl xseq ck ckey cfld ctxt cn)).heap.size = w4.heap.size + 1 by simp] at hx5
  have ng := (hbx.block _ (lt_at HNG.out)).trans HNG.out
  have hr5 := HR4.out.below hbx
  have hB := bstep HB4.out hbx
  clear hbx HNG HB4 HR4 c1 f1 k0 k1' k2' k3' k4' k5' k6' k7' k8' k9' hzc nl
  generalize (w4.alloc (itemO (v + 1) xu xp xcl xseq ck ckey cfld ctxt cn)).alloc (itemO (v + 1) xu xp xcl xseq ck ckey cfld ctxt cn) = V5 at *
  generalize w4.heap.size = bx at *
  (with_reducible refine (HM.out _ _ _ hr5 hx5).mono ?_)
  rintro e w5 ⟨r, rfl, hown, hb5⟩
  clear HM hx5
  obtain ⟨ya, yc, rfl⟩ := hown.shape
  have hy := hown.row (by show R.length ≤ _; omega)
  clear hown
  simp only at hy ⊢
  replace ng := (hb5.block _ (lt_at ng)).trans ng
  replace nx := (hb5.block _ (lt_at nx)).trans nx
  replace hr5 := hr5.below hb5
  replace hB := bstep hB hb5
  clear hb5
  rw [hRl] at hy ⊢
  obtain ⟨c1, f1⟩ := cellsB ng
  obtain ⟨c2, f2⟩ := cellsB nx
  have hlb := lt_at ng
  have hlx := lt_at nx
  go_wp2_with fail
  clear hlb hlx c1 f1 c2 f2
  obtain ⟨ny, nl, hbx, -⟩ := two_at w5 (logO b t (.slice ya (k + 1) yc)) (itemO (v + 1) xu xp xcl xseq ck ckey cfld ctxt cn)
  have hx6 := itm_row ⟨v + 1, xu, xp, xcl, xseq, ⟨ck, ckey, cfld, ctxt, cn⟩⟩ (w5.alloc (logO b t (.slice ya (k + 1) yc)))
  simp only [show (w5.alloc (logO b t (.slice ya (k + 1) yc))).heap.size = w5.heap.size + 1 by simp] at hx6
  replace ng := (hbx.block _ (lt_at ng)).trans ng
  replace nx := (hbx.block _ (lt_at nx)).trans nx
  replace hr5 := hr5.below hbx
  replace hy := hy.below hbx
  replace hB := bstep hB hbx
  clear hbx nl
  generalize (w5.alloc (logO b t (.slice ya (k + 1) yc))).alloc (itemO (v + 1) xu xp xcl xseq ck ckey cfld ctxt cn) = V6 at *
  generalize w5.heap.size = by' at *
  rw [← hRl] at hy
  have HY : Hid (RowI V6 (.slice ya R.length yc) R) := hy
  rw [hRl] at hy
  (with_reducible refine (HM2.out _ _ _ hy hx6).mono ?_)
  rintro e w7 ⟨r, rfl, hown, hb7⟩
  clear HM2 hx6
  obtain ⟨za, zc, rfl⟩ := hown.shape
  have hz := hown.row (by show R.length ≤ _; omega)
  clear hown
  simp only at hz ⊢
  have hy7 := HY.out.below hb7
  clear hy HY
  replace ng := (hb7.block _ (lt_at ng)).trans ng
  replace nx := (hb7.block _ (lt_at nx)).trans nx
  replace ny := (hb7.block _ (lt_at ny)).trans ny
  replace hr5 := hr5.below hb7
  replace hB := bstep hB hb7
  clear hb7
  rw [hRl] at hz hy7 ⊢
  obtain ⟨c1, f1⟩ := cellsB ng
  obtain ⟨c2, f2⟩ := cellsB nx
  obtain ⟨c3, f3⟩ := cellsB ny
  have hlg := lt_at ng
  have hlx := lt_at nx
  have hly := lt_at ny
  go_wp2_with fail
  have nz := alloc_at w7 (logO b t (.slice za (k + 1) zc))
  have hbx := balloc w7 (logO b t (.slice za (k + 1) zc))
  replace ng := (hbx.block _ (lt_at ng)).trans ng
  replace nx := (hbx.block _ (lt_at nx)).trans nx
  replace ny := (hbx.block _ (lt_at ny)).trans ny
  replace hr5 := hr5.below hbx
  replace hz := hz.below hbx
  replace hy7 := hy7.below hbx
  replace hB := hB.alloc hB.size (logO b t (.slice za (k + 1) zc))
  clear hbx
  generalize w7.alloc (logO b t (.slice za (k + 1) zc)) = V8 at nz ng nx ny hr5 hz hy7 hB ⊢
  generalize w7.heap.size = bz at nz ⊢
  have HS := sameLogK b t (.slice ya (k + 1) yc) (.slice za (k + 1) zc) R V8 hy7 hz
  (with_reducible refine HS.mono ?_)
  rintro e w9 ⟨rfl, hb9⟩
  clear HS c1 f1 c2 f2 c3 f3 hlg hlx hly hz nz
  replace ng := (hb9.block _ (lt_at ng)).trans ng
  replace nx := (hb9.block _ (lt_at nx)).trans nx
  replace ny := (hb9.block _ (lt_at ny)).trans ny
  replace hr5 := hr5.below hb9
  replace hy7 := hy7.below hb9
  replace hB := bstep hB hb9
  clear hb9
  have hpy : RowI w9 (.slice ya k yc) (A.take k) := by
    rw [← HRt.out]; exact take_row (by rw [hRl]; exact hy7) (by omega)
  have hpA : RowI w9 (.slice (some ⟨bb, off, none⟩) k sc) (A.take k) := take_row hr5 (by omega)
  have HSI : Hid (∀ W, Below w9.heap.size w9 W → Calls Try.prog 14 #[.slice ya k yc, .slice (some ⟨bb, off, none⟩) k sc] W fun e w' => e = .returned (.bool true) ∧ Below W.heap.size W w') := fun W hW => sameItemsK _ _ _ W (hpy.below hW) (hpA.below hW)
  obtain ⟨-, a', c', he, q1, q2, q3⟩ := hy7
  simp only [Value.slice.injEq] at he
  obtain ⟨rfl, -, rfl⟩ := he
  obtain ⟨yb, yo, rfl, hyb1, hcc⟩ : ∃ bb off, ya = some ⟨bb, off, none⟩ ∧ bb < w9.heap.size ∧ ∀ i (h : i < R.length) (c : Nat), c < 10 → w9.cell? ⟨bb, off + i * 10 + c, none⟩ = (encIt R[i])[c]? := by
    rcases q3 with h | h
    · rw [h] at hRl; simp at hRl
    · exact h
  have hxc := hcc k (by omega)
  have hxe : R[k]'(by omega) = ⟨v + 1, xu, xp, xcl, xseq, ⟨ck, ckey, cfld, ctxt, cn⟩⟩ := by have := HRk.out; rw [List.getElem?_eq_getElem (by omega)] at this; exact Option.some.inj this
  rw [hxe] at hxc
  have k0 : ∀ g : Grown w9, g.w.cell? ⟨yb, yo + k * 10, none⟩ = some (.int .i64 (v + 1)) := fun g => Grown.cell hyb1 (hxc 0 (by omega)) g
  have k1' : ∀ g : Grown w9, g.w.cell? ⟨yb, yo + k * 10 + 1, none⟩ = some (.int .i64 xu) := fun g => Grown.cell hyb1 (hxc 1 (by omega)) g
  have k2' : ∀ g : Grown w9, g.w.cell? ⟨yb, yo + k * 10 + 2, none⟩ = some (.bool xp) := fun g => Grown.cell hyb1 (hxc 2 (by omega)) g
  have k3' : ∀ g : Grown w9, g.w.cell? ⟨yb, yo + k * 10 + 3, none⟩ = some (.int .i64 xcl) := fun g => Grown.cell hyb1 (hxc 3 (by omega)) g
  have k4' : ∀ g : Grown w9, g.w.cell? ⟨yb, yo + k * 10 + 4, none⟩ = some (.int .i64 xseq) := fun g => Grown.cell hyb1 (hxc 4 (by omega)) g
  have k5' : ∀ g : Grown w9, g.w.cell? ⟨yb, yo + k * 10 + 5, none⟩ = some (.int .i64 ck) := fun g => Grown.cell hyb1 (hxc 5 (by omega)) g
  have k6' : ∀ g : Grown w9, g.w.cell? ⟨yb, yo + k * 10 + 6, none⟩ = some (.string ckey) := fun g => Grown.cell hyb1 (hxc 6 (by omega)) g
  have k7' : ∀ g : Grown w9, g.w.cell? ⟨yb, yo + k * 10 + 7, none⟩ = some (.string cfld) := fun g => Grown.cell hyb1 (hxc 7 (by omega)) g
  have k8' : ∀ g : Grown w9, g.w.cell? ⟨yb, yo + k * 10 + 8, none⟩ = some (.string ctxt) := fun g => Grown.cell hyb1 (hxc 8 (by omega)) g
  have k9' : ∀ g : Grown w9, g.w.cell? ⟨yb, yo + k * 10 + 9, none⟩ = some (.int .i64 cn) := fun g => Grown.cell hyb1 (hxc 9 (by omega)) g
  have hik : (k : Int) < (k : Int) + 1 := by omega
  have v1 : (k : Int) ≤ (yc : Int) := by omega
  have v2 : (k : Int) ≤ (sc : Int) := by obtain ⟨-, a', c', he, q1, q2, -⟩ := hpA; simp only [Value.slice.injEq] at he; rw [List.length_take] at q1; omega
  have v3 : (0 : Int) ≤ (k : Int) := by omega
  have HB9 : Hid (Below w.heap.size w w9) := hB
  have inst := Grown.isThere w9
  obtain ⟨u1, u2⟩ := Grown.cells ng
  obtain ⟨u3, u4⟩ := Grown.cells nx
  obtain ⟨u5, u6⟩ := Grown.cells ny
  clear hpy hpA hcc hxc hxe HRk HRt q1 q2 q3 hr5 ng nx ny hB hyb1 hRl
  go_wp2_with fail
  refine wp_region_grown (by kernel_rfl) (by kernel_rfl) ?_
  repeat (first | go_big_quiet_skip | (go_big_quiet_want; go_big_quiet_op; first | go_big_quiet_on | (apply Exists.intro; refine ⟨fun _ => ?_, ?_⟩; (· (go_at_call 14; exact Calls.grown _ HSI.out)); go_big_quiet_on)))
  refine wpQuiet_nil ?_
  rintro _ ⟨⟨w10, hb10⟩, rfl⟩
  go_wp2_with fail
  go_ret
  exact ⟨rfl, bstep HB9.out hb10⟩

theorem walk (v0 v1 v2 : Value) (w : World) (h0 : IsDeeds w v0) (h1 : IsInt v1) (h2 : IsInt v2) :
    Calls Try.prog 4 #[v0, v1, v2] w fun e w' => e = .returned (.bool true) ∧ Below w.heap.size w w' := by
  obtain ⟨l, hd⟩ := h0
  obtain ⟨x1, rfl, c1, c2⟩ := h1
  obtain ⟨x2, rfl, c3, c4⟩ := h2
  exact walk0 v0 l x1 x2 w hd ⟨c1, c2⟩ ⟨c3, c4⟩

theorem own : ownKnob Try.prog.godebug = none := by kernel_rfl
theorem laidOut : laidOutB Try.prog = true := by kernel_rfl

set_option maxRecDepth 100000 in
theorem lifted (os : Os) (started : os.Started) (H : Type) (enc : TypeId × Value → H) :
    ReturnsInHanded {} Try.checked os 4 .any (Rows.matchCutsSpec.pre6 enc Try.prog Try.f4 Rows.matchCutsRow.domain false) (Rows.matchCutsSpec.post enc Try.prog Try.f4 false true false false) := by
  refine returnsInHanded_of_change (C := Try.checked) own started (by kernel_rfl) Try.func4
    (ChangeSpec.witness6 (enc := enc) (C := Try.checked) false ⟨#[], #[.slice none 0 0, .int .i64 0, .int .i64 0], []⟩ 8 (by kernel_rfl) (by kernel_rfl) (by kernel_rfl) (by kernel_rfl)) ?_
  intro W base args ds gs before hval0 hW hcnd _
  have hval : ∀ (j : Nat) t v, Try.f4.params[j]? = some t → args[j]? = some v → Value.okWide Try.prog W .any base t v := hval0
  have hW' := hW
  obtain ⟨p, q, hA0, hV, rfl, hfz, hnd⟩ := hW
  have hA : DataW.TrodAll enc Try.prog W 0 (fun _ => true) true Try.f4.params.toList args.toList ds p := hA0
  rw [Try.params4] at hA hval
  obtain ⟨v0, vs0, d0, ds0, p0, q0, hargs, rfl, rfl, h0, r0⟩ := trodAll_cons hA
  obtain ⟨v1, vs1, d1, ds1, p1, q1, rfl, rfl, rfl, h1, r1⟩ := trodAll_cons r0
  obtain ⟨v2, vs2, d2, ds2, p2, q2, rfl, rfl, rfl, h2, r2⟩ := trodAll_cons r1
  obtain ⟨rfl, rfl, rfl⟩ := trodAll_nil r2
  obtain rfl : args = #[v0, v1, v2] := by cases args; simp_all
  obtain ⟨rfl, rfl⟩ := trodVars_none hV
  have lt0 : ∀ x ∈ p0, x.block < W.heap.size := by obtain ⟨m, hm⟩ := h0; exact DataW.trod_lt m _ _ _ hm
  have g0 := shape_deeds (hval 0 32 v0 rfl rfl) h0
  have lt1 : ∀ x ∈ p1, x.block < W.heap.size := by obtain ⟨m, hm⟩ := h1; exact DataW.trod_lt m _ _ _ hm
  have g1 := shape_int (hval 1 3 v1 rfl rfl) h1
  have lt2 : ∀ x ∈ p2, x.block < W.heap.size := by obtain ⟨m, hm⟩ := h2; exact DataW.trod_lt m _ _ _ hm
  have g2 := shape_int (hval 2 3 v2 rfl rfl) h2
  clear hA0 hval0
  refine (walk v0 v1 v2 W g0 g1 g2).mono fun e W' ⟨he, bel⟩ => ?_
  subst he
  exact ⟨_, rfl, _, _, _, [], _, [], hW', trodAll_mk1 (shut_bool Try.underlying4 _), (trodAll_cons_mk (Below.trod laidOut (by kernel_rfl) (of_decide_eq_true (by kernel_rfl)) h0 bel lt0) (trodAll_cons_mk (Below.trod laidOut (by kernel_rfl) (of_decide_eq_true (by kernel_rfl)) h1 bel lt1) (trodAll_cons_mk (Below.trod laidOut (by kernel_rfl) (of_decide_eq_true (by kernel_rfl)) h2 bel lt2) trodAll_mk0))), rfl, bel.frame _, fun h => by cases h⟩

theorem over : Rows.matchCutsRow.holds Try.pinned (OpenSpec.ofChange Rows.matchCutsSpec) :=
  OpenClaim.holds_of_wide 4 Try.f4 rfl rfl rfl rfl rfl rfl rfl ⟨rfl, rfl, rfl, rfl, rfl⟩ rfl rfl rfl rfl rfl (by kernel_rfl) Try.func4 (by kernel_rfl)
    (of_decide_eq_true (by kernel_rfl)) (by unfold Func.isWrapper; first | (rw [if_pos (by decide +kernel)]; kernel_rfl) | (rw [if_neg (by decide +kernel)]; exact ⟨rfl, rfl⟩))
    (fun os started H enc _ => lifted os started H enc)

end Go.Proofs.Ytpbgadojocgefaa.matchCutsDone
namespace Go.Proofs.Ytpbgadojocgefaa
theorem MatchCuts_holds : Rows.MatchCutsSaid := matchCutsDone.over
end Go.Proofs.Ytpbgadojocgefaa
