/- A trimmed log takes the same as a whole one: for all raw numbers, every base and every place the law returns true. No condition. -/
import Derived.Test.YtlmmeapdeojkdaaMe
import Derived.Test.YtlmmeapdeojkdaaHk
import Derived.Test.YtlmmeapdeojkdaaOj
import Derived.Test.YtlmmeapdeojkdaaHi
import Derived.Test.YtlmmeapdeojkdaaQt
import Derived.Test.YtlmmeapdeojkdaaSa
import Derived.Shelf.Abstract
namespace Go.Proofs.Ytlmmeapdeojkdaa.trimMatchDone
open Go.ChangeShapes Go.WideShapes Go.ChangeAt Go.RowKit
open Go.Proofs.Ytlmmeapdeojkdaa
set_option linter.unusedVariables false
set_option maxRecDepth 100000

/-- The first ones put off, the others as they were. -/
def someOff (d : Int) (l : List Itm) (m : Nat) : List Itm := offBy d (l.take m) ++ l.drop m
theorem someOff_length (d : Int) (l : List Itm) (m : Nat) : (someOff d l m).length = l.length := by simp [someOff, offBy]; omega
theorem someOff_get (d : Int) (l : List Itm) (m : Nat) (h : m < l.length) : (someOff d l m)[m]? = some l[m] := by
  unfold someOff
  rw [List.getElem?_append_right (by simp [offBy]; omega)]
  simp [offBy, Nat.min_eq_left (Nat.le_of_lt h), h]
theorem someOff_set (d : Int) (l : List Itm) (m : Nat) (h : m < l.length) : (someOff d l m).set m (l[m].at (l[m].u + d)) = someOff d l (m + 1) := by
  have hle : (offBy d (l.take m)).length = m := by simp [offBy]; omega
  unfold someOff
  rw [List.set_append_right _ _ (by omega), hle, Nat.sub_self, List.drop_eq_getElem_cons h, List.set_cons_zero, List.take_succ_eq_append_getElem h]
  simp only [offBy, List.map_append, List.map_cons, List.map_nil, List.append_assoc, List.cons_append, List.nil_append]
theorem someOff_all (d : Int) (l : List Itm) : someOff d l l.length = offBy d l := by simp [someOff, offBy]

theorem off_step {B : Nat} {wr : World} {xa : Option Addr} {xc m : Nat} {U : Int} {ms : List Itm} (hown : OwnI B wr (.slice xa ms.length xc) (someOff U ms m)) (hlt : m < ms.length) (hsm : ms.length ≤ 30) :
    ∃ gb, xa = some ⟨gb, 0, none⟩ ∧ wr.cell? ⟨gb, m * 10 + 1, none⟩ = some (.int .i64 ms[m].u) ∧ (∀ o, wr.frozen? ⟨gb, o, none⟩ = false) ∧ gb < wr.heap.size ∧ B ≤ gb ∧ OwnI B (wr.setCell ⟨gb, m * 10 + 1, none⟩ (.int .i64 (ms[m].u + U))) (.slice (some ⟨gb, 0, none⟩) ms.length xc) (someOff U ms (m + 1)) := by
  have hl9 := someOff_length U ms m
  have hge9 := someOff_get U ms m hlt
  have hst9 := someOff_set U ms m hlt
  have hgi : (someOff U ms m)[m]'(by omega) = ms[m] := by
    have := hge9; rw [List.getElem?_eq_getElem (by omega)] at this; exact Option.some.inj this
  have hrw := hown.row (by omega)
  rcases hown.2 with ⟨he, h0⟩ | ⟨gb, cap, cur, he, h2, h3, h4, h5, h6, h7⟩
  · omega
  · simp only [Value.slice.injEq] at he
    obtain ⟨rfl, -, rfl⟩ := he
    refine ⟨gb, rfl, ?_, (cellsB h3).2, lt_at h3, h2, ?_⟩
    · obtain ⟨-, a', c', he', -, -, q3⟩ := hrw
      simp only [Value.slice.injEq] at he'
      obtain ⟨rfl, -, -⟩ := he'
      rcases q3 with hq | ⟨b', off', ha, -, hc⟩
      · rw [hq] at hl9; simp at hl9; omega
      · simp only [Option.some.injEq, Addr.mk.injEq, and_true] at ha
        obtain ⟨rfl, rfl⟩ := ha
        have := (RowAt.ten hc m (by omega)).2.1
        rw [hgi, Nat.zero_add] at this
        exact this
    · have hs1 : OwnI B wr (.slice (some ⟨gb, 0, none⟩) (someOff U ms m).length xc) (someOff U ms m) := by rw [hl9]; exact hown
      have := OwnI.setU hs1 m (by omega) (ms[m].u + U)
      rw [hgi, hst9, hl9] at this
      exact this

set_option maxHeartbeats 16000000 in
theorem walk0 (s : Value) (l : List Deed) (base at' : Int) (s2 : Value) (l2 : List Deed) (w : World) (hd : DeedsAt w s l) (b1 : in64 base) (b2 : in64 at') (hd2 : DeedsAt w s2 l2) :
    Calls Try.prog 5 #[s, .int .i64 base, .int .i64 at', s2] w fun e w' => e = .returned (.bool true) ∧ Below w.heap.size w w' := by
  have hG := log_any s l base w hd b1.1 b1.2
  have hk := logFor_ok l base
  have hs := logFor_small l base
  have htt := logFor_terms l base
  have hlu := lastU_small l base
  generalize logFor l base = g at *
  have HG : Hid (Calls Try.prog 11 #[s, .int .i64 base] w fun e w' => ∃ r, e = .returned (logV g.base g.term r) ∧ OwnI w.heap.size w' r g.items ∧ Below w.heap.size w w') := hG
  clear hG
  have p1 := fun W => picked_any at' (g.items.length + 1) W b2.1 b2.2 (by omega) (by omega)
  have l1 := pickedN_lt at' (show 0 < g.items.length + 1 by omega)
  rw [show ((g.items.length + 1 : Nat) : Int) = (g.items.length : Int) + 1 by omega] at p1
  generalize pickedN at' (g.items.length + 1) = k at *
  have hkl : k ≤ g.items.length := by omega
  have hL : g.last = g.base + g.items.length := rfl
  have hT := htt g.last (by omega) (by omega)
  have hLa := fun (W : World) (r : Value) (h : RowI W r g.items) => last_ok g r W h hk
  have hI := fun (W : World) (hW : Below w.heap.size w W) => items_any s2 l2 (max (g.termAt g.last) 1) W (hd2.below hW) (by omega) (by omega)
  have hml : (itemsFor (max (g.termAt g.last) 1) 0 (l2.take 30)).length ≤ 30 := by rw [itemsFor_length]; simp; omega
  have hl30 : (l2.take 30).length ≤ 30 := by simp; omega
  have hok0 := itemsOk_for (l2.take 30) (max (g.termAt g.last) 1) 0 (g.termAt g.last) 0 (by omega) (by omega) (by omega) (by omega) (by omega) (by omega)
  have hbd : ∀ x ∈ itemsFor (max (g.termAt g.last) 1) 0 (l2.take 30), x.u + g.lastU ≤ 1073741824 := fun x hx => by
    obtain ⟨i, hi, rfl⟩ := List.getElem_of_mem hx
    have := (itemsFor_t (l2.take 30) (max (g.termAt g.last) 1) 0 i hi).2
    omega
  have hok := itemsOk_off g.lastU hlu.1 _ _ _ hok0 hbd
  rw [Int.zero_add] at hok
  generalize hms : itemsFor (max (g.termAt g.last) 1) 0 (l2.take 30) = ms at *
  have hol : (offBy g.lastU ms).length = ms.length := by simp [offBy]
  have hub : ∀ x ∈ ms, -1 ≤ x.u + g.lastU ∧ x.u + g.lastU ≤ 1073741824 := fun x hx => by
    obtain ⟨i, hi, rfl⟩ := List.getElem_of_mem hx
    have := (fault_num (itemsOk_drop i hi hok0).2).2
    have := hbd _ hx
    omega
  have hlt : g.items ≠ [] → 0 < g.items.length ∧ (g.items[g.items.length - 1]?).map Itm.u = some g.lastU := fun hne => by
    have hp : 0 < g.items.length := List.length_pos_iff.2 hne
    refine ⟨hp, ?_⟩
    unfold Lg.lastU
    rw [List.getLast?_eq_getElem?, List.getElem?_eq_getElem (by omega)]
    rfl
  have hl0 : g.items = [] → g.lastU = 0 := fun h => by unfold Lg.lastU; rw [h]; rfl
  have hE := fun (W : World) (r : Value) (h : RowI W r g.items) => trim_bad g r (g.last + 1) W h (by
    unfold Lg.trimE; rw [if_pos hk]; unfold heldI; rw [if_neg (by omega), if_pos (by omega)]; decide)
  rw [show g.trimE (g.last + 1) = 5 by unfold Lg.trimE; rw [if_pos hk]; unfold heldI; rw [if_neg (by omega), if_pos (by omega)]] at hE
  have hA := fun (W : World) (r : Value) (h : RowI W r g.items) => trim_ok g r k W h hk hkl
  have hokb := okB_more g (offBy g.lastU ms) hk (by rw [hol]; omega) (by rw [hol]; omega) hok
  have hZ := fun (W : World) (r : Value) (h : RowI W r (g.items ++ offBy g.lastU ms)) => trim_ok ⟨g.base, g.term, g.items ++ offBy g.lastU ms⟩ r k W h hokb (by simp; omega)
  simp only [more_termAt g _ k hkl, List.drop_append_of_le_length hkl] at hZ
  have hX := fun (W : World) (r xs : Value) (h : RowI W r (g.items.drop k)) (hx : RowI W xs (offBy g.lastU ms)) => match_any (g.trim k) r g.last (g.termAt g.last) xs _ W h hx
  rw [trim_more g _ k hk hkl (by rw [hol]; omega) (by rw [hol]; omega) hok] at hX
  have hM := fun (W : World) (r xs : Value) (h : RowI W r g.items) (hx : RowI W xs (offBy g.lastU ms)) => match_any g r g.last (g.termAt g.last) xs _ W h hx
  rw [matchR_more g (offBy g.lastU ms) hk (by rw [hol]; omega) (by rw [hol]; omega) hok] at hM
  have eb : (g.trim k).base = g.base + k := rfl
  have et : (g.trim k).term = g.termAt (g.base + k) := rfl
  rw [eb, et] at hX
  have hQl : (g.items.drop k ++ offBy g.lastU ms).length ≤ 60 := by rw [List.length_append, hol]; simp; omega
  have hRl : (g.items ++ offBy g.lastU ms).length ≤ 60 := by rw [List.length_append, hol]; omega
  have hDl : (g.items.drop k).length ≤ 30 := by simp; omega
  have hMM : ∃ fr : Int, (∀ (W : World) (r xs : Value), RowI W r (g.items.drop k) → RowI W xs (offBy g.lastU ms) → Calls Try.prog 7 #[logV (g.base + k) (g.termAt (g.base + k)) r, .int .i64 g.last, .int .i64 (g.termAt g.last), xs] W (MatchOk W ⟨⟨g.base + k, g.termAt (g.base + k), g.items.drop k ++ offBy g.lastU ms⟩, true, fr, 0⟩)) ∧
      (∀ (W : World) (r xs : Value), RowI W r g.items → RowI W xs (offBy g.lastU ms) → Calls Try.prog 7 #[logV g.base g.term r, .int .i64 g.last, .int .i64 (g.termAt g.last), xs] W (MatchOk W ⟨⟨g.base, g.term, g.items ++ offBy g.lastU ms⟩, true, fr, 0⟩)) := by
    by_cases h0 : offBy g.lastU ms = []
    · simp only [if_pos h0] at hX hM
      refine ⟨0, fun W r xs h1 h2 => ?_, fun W r xs h1 h2 => ?_⟩
      · have := hX W r xs h1 h2; rw [h0, List.append_nil]; exact this
      · have := hM W r xs h1 h2; rw [h0, List.append_nil]; exact this
    · simp only [if_neg h0] at hX hM
      exact ⟨g.last + 1, fun W r xs h1 h2 => hX W r xs h1 h2, fun W r xs h1 h2 => hM W r xs h1 h2⟩
  clear hX hM
  obtain ⟨fr, hX, hM⟩ := hMM
  generalize g.items.drop k ++ offBy g.lastU ms = Q at *
  generalize g.items ++ offBy g.lastU ms = R at *
  generalize g.items.drop k = D at *
  have hLL : 0 ≤ g.last ∧ g.last ≤ 41 := by omega
  have HLe : Hid (g.last = g.base + g.items.length) := hL
  clear hL htt hok0 hbd hok hms eb et
  generalize g.termAt (g.base + k) = V0 at *
  generalize g.termAt g.last = T at *
  generalize g.lastU = U at *
  generalize g.last = L at *
  obtain ⟨b, t, A⟩ := g
  simp only at *
  have HL : Hid (∀ (W : World) (r : Value), RowI W r A → Calls Try.prog 16 #[logV b t r] W fun e w' => e = .returned (.tuple #[.int .i64 L, .int .i64 T, .int .i64 0]) ∧ Below W.heap.size W w') := hLa
  generalize hmx : max T 1 = T1 at *
  have HI : Hid (∀ (W : World), Below w.heap.size w W → Calls Try.prog 17 #[s2, .int .i64 T1] W fun e w' => ∃ r, e = .returned r ∧ OwnI W.heap.size w' r ms ∧ Below W.heap.size W w') := hI
  have HE : Hid (∀ (W : World) (r : Value), RowI W r A → Calls Try.prog 18 #[logV b t r, .int .i64 (L + 1)] W fun x w' => x = .returned (.tuple #[logV 0 0 (.slice none 0 0), .int .i64 5]) ∧ Below W.heap.size W w') := hE
  have HA : Hid (∀ (W : World) (r : Value), RowI W r A → Calls Try.prog 18 #[logV b t r, .int .i64 (b + k)] W fun x w' => ∃ r, x = .returned (.tuple #[logV (b + k) V0 r, .int .i64 0]) ∧ OwnI W.heap.size w' r D ∧ Below W.heap.size W w') := hA
  have HX : Hid (∀ (W : World) (r xs : Value), RowI W r D → RowI W xs (offBy U ms) → Calls Try.prog 7 #[logV (b + k) V0 r, .int .i64 L, .int .i64 T, xs] W (MatchOk W ⟨⟨b + k, V0, Q⟩, true, fr, 0⟩)) := hX
  have HM : Hid (∀ (W : World) (r xs : Value), RowI W r A → RowI W xs (offBy U ms) → Calls Try.prog 7 #[logV b t r, .int .i64 L, .int .i64 T, xs] W (MatchOk W ⟨⟨b, t, R⟩, true, fr, 0⟩)) := hM
  have HZ : Hid (∀ (W : World) (r : Value), RowI W r R → Calls Try.prog 18 #[logV b t r, .int .i64 (b + k)] W fun x w' => ∃ r, x = .returned (.tuple #[logV (b + k) V0 r, .int .i64 0]) ∧ OwnI W.heap.size w' r Q ∧ Below W.heap.size W w') := hZ
  have HS : Hid (∀ (W : World) (r r' : Value), RowI W r Q → RowI W r' Q → Calls Try.prog 14 #[logV (b + k) V0 r, logV (b + k) V0 r'] W fun e w' => e = .returned (.bool true) ∧ Below W.heap.size W w') := fun W r r' h h' => sameLogK (b + k) V0 r r' _ W h h'
  have P1 : Hid (∀ W, Calls Try.prog 12 #[.int .i64 at', .int .i64 ((A.length : Int) + 1)] W fun e w' => e = .returned (.int .i64 (k : Nat)) ∧ W = w') := p1
  have hAl : A.length ≤ 30 := hs.1
  have hb0 : 0 ≤ b ∧ b ≤ 11 := hs.2
  have HUB : Hid (∀ x ∈ ms, -1 ≤ x.u + U ∧ x.u + U ≤ 1073741824) := hub
  have HLT : Hid (A ≠ [] → 0 < A.length ∧ (A[A.length - 1]?).map Itm.u = some U) := hlt
  have HL0 : Hid (A = [] → U = 0) := hl0
  have HMX : Hid (max T 1 = T1) := hmx
  have hml30 : ms.length ≤ 30 := hml
  have HOL : Hid ((offBy U ms).length = ms.length) := hol
  clear hLa hI hk hd hd2 b1 b2 hs hub hlt hl0 hol hE hA hX hM hZ p1 hokb
  go_enter Try.func5, Try.ntmps5
  go_wp2_with fail
  refine HG.out.mono ?_
  rintro e w1 ⟨r, rfl, hown, hB⟩
  clear HG
  have hr := hown.row (by omega)
  obtain ⟨sa, sc, rfl⟩ := hown.shape
  clear hown
  go_wp2_with fail
  have ng := alloc_at w1 (logO b t (.slice sa A.length sc))
  have hbx := balloc w1 (logO b t (.slice sa A.length sc))
  replace hr := hr.below hbx
  replace hB := hB.alloc hB.size (logO b t (.slice sa A.length sc))
  clear hbx
  generalize w1.alloc (logO b t (.slice sa A.length sc)) = V at ng hr hB ⊢
  generalize w1.heap.size = bg at ng ⊢
  obtain ⟨c1, f1⟩ := cellsB ng
  refine (P1.out _).mono ?_
  rintro e w1 ⟨rfl, rfl⟩
  go_wp2_with fail
  refine (HL.out _ _ hr).mono ?_
  rintro e w2 ⟨rfl, hb2⟩
  clear c1 f1 P1
  replace ng := (hb2.block _ (lt_at ng)).trans ng
  replace hr := hr.below hb2
  replace hB := bstep hB hb2
  clear hb2
  have HR2 : Hid (RowI w2 (.slice sa A.length sc) A) := hr
  have HB2 : Hid (Below w.heap.size w w2) := hB
  have HN2 : Hid (w2.heap[bg]? = some (logO b t (.slice sa A.length sc))) := ng
  clear HL
  have hbg : bg < w2.heap.size := lt_at ng
  obtain ⟨c2, f2⟩ := cellsB ng
  go_wp2_with fail
  refine (HI.out _ hB).mono ?_
  rintro e w3 ⟨r, rfl, hown, hb3⟩
  have hup : w.heap.size ≤ w2.heap.size := hB.size
  have HB3 : Hid (Below w2.heap.size w2 w3) := hb3
  clear c2 f2 HI
  replace ng := (hb3.block _ (lt_at ng)).trans ng
  replace hr := hr.below hb3
  replace hB := bstep hB hb3
  clear hb3
  obtain ⟨xa, xc, rfl⟩ := hown.shape
  have HO : Hid (OwnI w2.heap.size w3 (.slice xa ms.length xc) ms) := hown
  clear hown
  obtain ⟨c3, f3⟩ := cellsB ng
  have hrow3 := hr
  clear hr ng hB
  by_cases hA0 : A = []
  · have hU0 := HL0.out hA0
    have hp0 : ¬ 0 < (A.length : Int) := by rw [hA0]; simp
    have HU0 : Hid (U = 0) := hU0
    have HA0 : Hid (A = []) := hA0
    clear HLT hU0 hA0
    go_wp2_with fail
    go_loopw [17] (fun c wr => ∃ m : Nat, c = .int .i64 (m : Int) ∧ m ≤ ms.length ∧ OwnI w2.heap.size wr (.slice xa ms.length xc) (someOff U ms m) ∧ Below w2.heap.size w2 wr) (fun c _ => ms.length - (intOf c).toNat)
    case atStart => exact ⟨0, by simp, by omega, by simpa [someOff, offBy] using HO.out, HB3.out⟩
    case round =>
      obtain ⟨m, rfl, hm, hown, hb⟩ := hrel
      clear hrow3 c3 f3 HO
      by_cases hlt : m < ms.length
      · have hi0 : (m : Int) < (ms.length : Int) := by omega
        have hub := HUB.out ms[m] (List.getElem_mem hlt)
        obtain ⟨gb, rfl, q1, q2, q3, q4, hnx⟩ := off_step hown hlt hml30
        have HNX : Hid (OwnI w2.heap.size (wr.setCell ⟨gb, m * 10 + 1, none⟩ (.int .i64 (ms[m].u + U))) (.slice (some ⟨gb, 0, none⟩) ms.length xc) (someOff U ms (m + 1))) := hnx
        have HB5 : Hid (Below w2.heap.size w2 (wr.setCell ⟨gb, m * 10 + 1, none⟩ (.int .i64 (ms[m].u + U)))) := hb.setCell q4 _
        clear hnx hown
        generalize ms[m].u = z at *
        have hzU : z + U = z := by rw [HU0.out, Int.add_zero]
        rw [hzU] at HNX HB5
        have hw1 : IntKind.i64.wrap z = z := by rw [IntKind.wrap_i64]; omega
        clear hzU
        go_wp2_with fail
        refine ⟨⟨m + 1, by go_num, by omega, ?_, ?_⟩, by simp [intOf]; omega⟩
        · first | exact HNX.out | simpa using HNX.out
        · first | exact HB5.out | simpa using HB5.out
      · have hge : ¬ (m : Int) < (ms.length : Int) := by omega
        have hml : m = ms.length := by omega
        rw [hml, someOff_all] at hown
        have hx := hown.row (by simp [offBy]; omega)
        have ng := (hb.block bg hbg).trans HN2.out
        have hB := bstep HB2.out hb
        have hr := HR2.out.below hb
        have HML : Hid (m = ms.length) := hml
        clear hown hml
        obtain ⟨c5, f5⟩ := cellsB ng
        go_wp2_with fail
        refine (HE.out _ _ hr).mono ?_
        rintro e w6 ⟨rfl, hb6⟩
        clear c5 f5 hb HE
        replace ng := (hb6.block _ (lt_at ng)).trans ng
        replace hr := hr.below hb6
        replace hx := hx.below hb6
        replace hB := bstep hB hb6
        clear hb6
        have hlg := lt_at ng
        obtain ⟨c6, f6⟩ := cellsB ng
        go_wp2_with fail
        clear hlg
        have no := alloc_at w6 (logO 0 0 (.slice none 0 0))
        have hbx := balloc w6 (logO 0 0 (.slice none 0 0))
        replace ng := (hbx.block _ (lt_at ng)).trans ng
        replace hr := hr.below hbx
        replace hx := hx.below hbx
        replace hB := hB.alloc hB.size (logO 0 0 (.slice none 0 0))
        clear hbx
        generalize w6.alloc (logO 0 0 (.slice none 0 0)) = V6 at no ng hr hx hB ⊢
        generalize w6.heap.size = bo at no ⊢
        refine (HA.out _ _ hr).mono ?_
        rintro e w7 ⟨r, rfl, hown, hb7⟩
        clear c6 f6 no HA
        replace ng := (hb7.block _ (lt_at ng)).trans ng
        replace hr := hr.below hb7
        replace hx := hx.below hb7
        replace hB := bstep hB hb7
        clear hb7
        have hy := hown.row (by omega)
        obtain ⟨ya, yc, rfl⟩ := hown.shape
        clear hown
        go_wp2_with fail
        have nx := alloc_at w7 (logO (b + k) V0 (.slice ya D.length yc))
        have hbx := balloc w7 (logO (b + k) V0 (.slice ya D.length yc))
        replace ng := (hbx.block _ (lt_at ng)).trans ng
        replace hr := hr.below hbx
        replace hx := hx.below hbx
        replace hy := hy.below hbx
        replace hB := hB.alloc hB.size (logO (b + k) V0 (.slice ya D.length yc))
        clear hbx
        generalize w7.alloc (logO (b + k) V0 (.slice ya D.length yc)) = V7 at nx ng hr hx hy hB ⊢
        generalize w7.heap.size = bx at nx ⊢
        obtain ⟨c7, f7⟩ := cellsB nx
        refine (HX.out _ _ _ hy hx).mono ?_
        rintro e w8 ⟨r, rfl, hown, hb8⟩
        clear c7 f7 HX nx
        replace ng := (hb8.block _ (lt_at ng)).trans ng
        replace hr := hr.below hb8
        replace hx := hx.below hb8
        replace hB := bstep hB hb8
        clear hb8
        have ha := hown.row (by show Q.length ≤ _; omega)
        obtain ⟨aa, ac, rfl⟩ := hown.shape
        clear hown hy
        simp only at ha ⊢
        have hlg := lt_at ng
        obtain ⟨c8, f8⟩ := cellsB ng
        go_wp2_with fail
        clear c8 f8 hlg
        have na := alloc_at w8 (logO (b + k) V0 (.slice aa Q.length ac))
        have hbx := balloc w8 (logO (b + k) V0 (.slice aa Q.length ac))
        replace ng := (hbx.block _ (lt_at ng)).trans ng
        replace hr := hr.below hbx
        replace hx := hx.below hbx
        replace ha := ha.below hbx
        replace hB := hB.alloc hB.size (logO (b + k) V0 (.slice aa Q.length ac))
        clear hbx
        generalize w8.alloc (logO (b + k) V0 (.slice aa Q.length ac)) = V8 at na ng hr hx ha hB ⊢
        generalize w8.heap.size = ba at na ⊢
        refine (HM.out _ _ _ hr hx).mono ?_
        rintro e w9 ⟨r, rfl, hown, hb9⟩
        clear HM
        replace ng := (hb9.block _ (lt_at ng)).trans ng
        replace na := (hb9.block _ (lt_at na)).trans na
        replace ha := ha.below hb9
        replace hB := bstep hB hb9
        clear hb9
        have hz := hown.row (by show R.length ≤ _; omega)
        obtain ⟨za, zc, rfl⟩ := hown.shape
        clear hown hr hx
        simp only at hz ⊢
        have hlg := lt_at ng
        obtain ⟨c9, f9⟩ := cellsB ng
        go_wp2_with fail
        clear c9 f9 hlg
        have nz := alloc_at w9 (logO b t (.slice za R.length zc))
        have hbx := balloc w9 (logO b t (.slice za R.length zc))
        replace na := (hbx.block _ (lt_at na)).trans na
        replace ha := ha.below hbx
        replace hz := hz.below hbx
        replace hB := hB.alloc hB.size (logO b t (.slice za R.length zc))
        clear hbx
        generalize w9.alloc (logO b t (.slice za R.length zc)) = V9 at nz na ha hz hB ⊢
        generalize w9.heap.size = bz at nz ⊢
        refine (HZ.out _ _ hz).mono ?_
        rintro e wa ⟨r, rfl, hown, hba⟩
        clear HZ nz
        replace na := (hba.block _ (lt_at na)).trans na
        replace ha := ha.below hba
        replace hB := bstep hB hba
        clear hba
        have hc := hown.row (by show Q.length ≤ _; omega)
        obtain ⟨ca, cc, rfl⟩ := hown.shape
        clear hown hz
        have hla := lt_at na
        obtain ⟨d1, d2⟩ := cellsB na
        have hea : ¬ ba = wa.heap.size := by omega
        have hea' : ¬ wa.heap.size = ba := by omega
        go_wp2_with fail
        clear d1 d2 hla
        have nc := alloc_at wa (logO (b + k) V0 (.slice ca Q.length cc))
        have hbx := balloc wa (logO (b + k) V0 (.slice ca Q.length cc))
        replace na := (hbx.block _ (lt_at na)).trans na
        replace ha := ha.below hbx
        replace hc := hc.below hbx
        replace hB := hB.alloc hB.size (logO (b + k) V0 (.slice ca Q.length cc))
        clear hbx
        generalize wa.alloc (logO (b + k) V0 (.slice ca Q.length cc)) = V10 at nc na ha hc hB ⊢
        generalize wa.heap.size = bc at nc ⊢
        refine (HS.out _ _ _ ha hc).mono ?_
        rintro e wb ⟨rfl, hbb⟩
        replace hB := bstep hB hbb
        clear hbb
        go_wp2_with fail
        go_ret
        exact ⟨rfl, hB⟩
  · obtain ⟨hp, hu⟩ := HLT.out hA0
    have hp1 : 0 < (A.length : Int) := by omega
    obtain ⟨bb, off, hsa, hcl⟩ : ∃ bb off, sa = some ⟨bb, off, none⟩ ∧ w3.cell? ⟨bb, off + (A.length - 1) * 10 + 1, none⟩ = some (.int .i64 U) := by
      obtain ⟨-, a', c', he, q1, q2, q3⟩ := hrow3
      simp only [Value.slice.injEq, true_and] at he
      obtain ⟨rfl, rfl⟩ := he
      rcases q3 with h | ⟨bb, off, ha, -, hc⟩
      · exact absurd h hA0
      · rw [List.getElem?_eq_getElem (by omega)] at hu
        simp only [Option.map_some, Option.some.injEq] at hu
        exact ⟨bb, off, ha, by rw [(RowAt.ten hc (A.length - 1) (by omega)).2.1, hu]⟩
    subst hsa
    have hidx : IntKind.i64.wrap ((A.length : Int) - 1) = ((A.length - 1 : Nat) : Int) := by rw [IntKind.wrap_i64]; omega
    have hidx2 : wrap64 ((A.length : Int) - 1) = ((A.length - 1 : Nat) : Int) := by unfold wrap64; omega
    have hidx3 : (A.length : Int) - 1 = ((A.length - 1 : Nat) : Int) := by omega
    have hidx4 : ((A.length - 1 : Nat) : Int) < (A.length : Int) := by omega
    clear hu
    go_wp2_with fail
    go_loopw [17] (fun c wr => ∃ m : Nat, c = .int .i64 (m : Int) ∧ m ≤ ms.length ∧ OwnI w2.heap.size wr (.slice xa ms.length xc) (someOff U ms m) ∧ Below w2.heap.size w2 wr) (fun c _ => ms.length - (intOf c).toNat)
    case atStart => exact ⟨0, by simp, by omega, by simpa [someOff, offBy] using HO.out, HB3.out⟩
    case round =>
      obtain ⟨m, rfl, hm, hown, hb⟩ := hrel
      clear hrow3 c3 f3 HO
      by_cases hlt : m < ms.length
      · have hi0 : (m : Int) < (ms.length : Int) := by omega
        have hub := HUB.out ms[m] (List.getElem_mem hlt)
        obtain ⟨gb, rfl, q1, q2, q3, q4, hnx⟩ := off_step hown hlt hml30
        have HNX : Hid (OwnI w2.heap.size (wr.setCell ⟨gb, m * 10 + 1, none⟩ (.int .i64 (ms[m].u + U))) (.slice (some ⟨gb, 0, none⟩) ms.length xc) (someOff U ms (m + 1))) := hnx
        have HB5 : Hid (Below w2.heap.size w2 (wr.setCell ⟨gb, m * 10 + 1, none⟩ (.int .i64 (ms[m].u + U)))) := hb.setCell q4 _
        clear hnx hown
        generalize ms[m].u = z at *
        have hw1 : IntKind.i64.wrap (z + U) = z + U := by rw [IntKind.wrap_i64]; omega
        go_wp2_with fail
        refine ⟨⟨m + 1, by go_num, by omega, ?_, ?_⟩, by simp [intOf]; omega⟩
        · first | exact HNX.out | simpa using HNX.out
        · first | exact HB5.out | simpa using HB5.out
      · have hge : ¬ (m : Int) < (ms.length : Int) := by omega
        have hml : m = ms.length := by omega
        rw [hml, someOff_all] at hown
        have hx := hown.row (by simp [offBy]; omega)
        have ng := (hb.block bg hbg).trans HN2.out
        have hB := bstep HB2.out hb
        have hr := HR2.out.below hb
        have HML : Hid (m = ms.length) := hml
        clear hown hml
        obtain ⟨c5, f5⟩ := cellsB ng
        go_wp2_with fail
        refine (HE.out _ _ hr).mono ?_
        rintro e w6 ⟨rfl, hb6⟩
        clear c5 f5 hb HE
        replace ng := (hb6.block _ (lt_at ng)).trans ng
        replace hr := hr.below hb6
        replace hx := hx.below hb6
        replace hB := bstep hB hb6
        clear hb6
        have hlg := lt_at ng
        obtain ⟨c6, f6⟩ := cellsB ng
        go_wp2_with fail
        clear hlg
        have no := alloc_at w6 (logO 0 0 (.slice none 0 0))
        have hbx := balloc w6 (logO 0 0 (.slice none 0 0))
        replace ng := (hbx.block _ (lt_at ng)).trans ng
        replace hr := hr.below hbx
        replace hx := hx.below hbx
        replace hB := hB.alloc hB.size (logO 0 0 (.slice none 0 0))
        clear hbx
        generalize w6.alloc (logO 0 0 (.slice none 0 0)) = V6 at no ng hr hx hB ⊢
        generalize w6.heap.size = bo at no ⊢
        refine (HA.out _ _ hr).mono ?_
        rintro e w7 ⟨r, rfl, hown, hb7⟩
        clear c6 f6 no HA
        replace ng := (hb7.block _ (lt_at ng)).trans ng
        replace hr := hr.below hb7
        replace hx := hx.below hb7
        replace hB := bstep hB hb7
        clear hb7
        have hy := hown.row (by omega)
        obtain ⟨ya, yc, rfl⟩ := hown.shape
        clear hown
        go_wp2_with fail
        have nx := alloc_at w7 (logO (b + k) V0 (.slice ya D.length yc))
        have hbx := balloc w7 (logO (b + k) V0 (.slice ya D.length yc))
        replace ng := (hbx.block _ (lt_at ng)).trans ng
        replace hr := hr.below hbx
        replace hx := hx.below hbx
        replace hy := hy.below hbx
        replace hB := hB.alloc hB.size (logO (b + k) V0 (.slice ya D.length yc))
        clear hbx
        generalize w7.alloc (logO (b + k) V0 (.slice ya D.length yc)) = V7 at nx ng hr hx hy hB ⊢
        generalize w7.heap.size = bx at nx ⊢
        obtain ⟨c7, f7⟩ := cellsB nx
        refine (HX.out _ _ _ hy hx).mono ?_
        rintro e w8 ⟨r, rfl, hown, hb8⟩
        clear c7 f7 HX nx
        replace ng := (hb8.block _ (lt_at ng)).trans ng
        replace hr := hr.below hb8
        replace hx := hx.below hb8
        replace hB := bstep hB hb8
        clear hb8
        have ha := hown.row (by show Q.length ≤ _; omega)
        obtain ⟨aa, ac, rfl⟩ := hown.shape
        clear hown hy
        simp only at ha ⊢
        have hlg := lt_at ng
        obtain ⟨c8, f8⟩ := cellsB ng
        go_wp2_with fail
        clear c8 f8 hlg
        have na := alloc_at w8 (logO (b + k) V0 (.slice aa Q.length ac))
        have hbx := balloc w8 (logO (b + k) V0 (.slice aa Q.length ac))
        replace ng := (hbx.block _ (lt_at ng)).trans ng
        replace hr := hr.below hbx
        replace hx := hx.below hbx
        replace ha := ha.below hbx
        replace hB := hB.alloc hB.size (logO (b + k) V0 (.slice aa Q.length ac))
        clear hbx
        generalize w8.alloc (logO (b + k) V0 (.slice aa Q.length ac)) = V8 at na ng hr hx ha hB ⊢
        generalize w8.heap.size = ba at na ⊢
        refine (HM.out _ _ _ hr hx).mono ?_
        rintro e w9 ⟨r, rfl, hown, hb9⟩
        clear HM
        replace ng := (hb9.block _ (lt_at ng)).trans ng
        replace na := (hb9.block _ (lt_at na)).trans na
        replace ha := ha.below hb9
        replace hB := bstep hB hb9
        clear hb9
        have hz := hown.row (by show R.length ≤ _; omega)
        obtain ⟨za, zc, rfl⟩ := hown.shape
        clear hown hr hx
        simp only at hz ⊢
        have hlg := lt_at ng
        obtain ⟨c9, f9⟩ := cellsB ng
        go_wp2_with fail
        clear c9 f9 hlg
        have nz := alloc_at w9 (logO b t (.slice za R.length zc))
        have hbx := balloc w9 (logO b t (.slice za R.length zc))
        replace na := (hbx.block _ (lt_at na)).trans na
        replace ha := ha.below hbx
        replace hz := hz.below hbx
        replace hB := hB.alloc hB.size (logO b t (.slice za R.length zc))
        clear hbx
        generalize w9.alloc (logO b t (.slice za R.length zc)) = V9 at nz na ha hz hB ⊢
        generalize w9.heap.size = bz at nz ⊢
        refine (HZ.out _ _ hz).mono ?_
        rintro e wa ⟨r, rfl, hown, hba⟩
        clear HZ nz
        replace na := (hba.block _ (lt_at na)).trans na
        replace ha := ha.below hba
        replace hB := bstep hB hba
        clear hba
        have hc := hown.row (by show Q.length ≤ _; omega)
        obtain ⟨ca, cc, rfl⟩ := hown.shape
        clear hown hz
        have hla := lt_at na
        obtain ⟨d1, d2⟩ := cellsB na
        have hea : ¬ ba = wa.heap.size := by omega
        have hea' : ¬ wa.heap.size = ba := by omega
        go_wp2_with fail
        clear d1 d2 hla
        have nc := alloc_at wa (logO (b + k) V0 (.slice ca Q.length cc))
        have hbx := balloc wa (logO (b + k) V0 (.slice ca Q.length cc))
        replace na := (hbx.block _ (lt_at na)).trans na
        replace ha := ha.below hbx
        replace hc := hc.below hbx
        replace hB := hB.alloc hB.size (logO (b + k) V0 (.slice ca Q.length cc))
        clear hbx
        generalize wa.alloc (logO (b + k) V0 (.slice ca Q.length cc)) = V10 at nc na ha hc hB ⊢
        generalize wa.heap.size = bc at nc ⊢
        refine (HS.out _ _ _ ha hc).mono ?_
        rintro e wb ⟨rfl, hbb⟩
        replace hB := bstep hB hbb
        clear hbb
        go_wp2_with fail
        go_ret
        exact ⟨rfl, hB⟩

theorem walk (v0 v1 v2 v3 : Value) (w : World) (h0 : IsDeeds w v0) (h1 : IsInt v1) (h2 : IsInt v2) (h3 : IsDeeds w v3) :
    Calls Try.prog 5 #[v0, v1, v2, v3] w fun e w' => e = .returned (.bool true) ∧ Below w.heap.size w w' := by
  obtain ⟨l, hd⟩ := h0
  obtain ⟨x1, rfl, c1, c2⟩ := h1
  obtain ⟨x2, rfl, c3, c4⟩ := h2
  obtain ⟨l2, hd2⟩ := h3
  exact walk0 v0 l x1 x2 v3 l2 w hd ⟨c1, c2⟩ ⟨c3, c4⟩ hd2

theorem own : ownKnob Try.prog.godebug = none := by kernel_rfl
theorem laidOut : laidOutB Try.prog = true := by kernel_rfl

set_option maxRecDepth 100000 in
theorem lifted (os : Os) (started : os.Started) (H : Type) (enc : TypeId × Value → H) :
    ReturnsInHanded {} Try.checked os 5 .any (Rows.trimMatchSpec.pre6 enc Try.prog Try.f5 Rows.trimMatchRow.domain false) (Rows.trimMatchSpec.post enc Try.prog Try.f5 false true false false) := by
  refine returnsInHanded_of_change (C := Try.checked) own started (by kernel_rfl) Try.func5
    (ChangeSpec.witness6 (enc := enc) (C := Try.checked) false ⟨#[], #[.slice none 0 0, .int .i64 0, .int .i64 0, .slice none 0 0], []⟩ 8 (by kernel_rfl) (by kernel_rfl) (by kernel_rfl) (by kernel_rfl)) ?_
  intro W base args ds gs before hval0 hW hcnd _
  have hval : ∀ (j : Nat) t v, Try.f5.params[j]? = some t → args[j]? = some v → Value.okWide Try.prog W .any base t v := hval0
  have hW' := hW
  obtain ⟨p, q, hA0, hV, rfl, hfz, hnd⟩ := hW
  have hA : DataW.TrodAll enc Try.prog W 0 (fun _ => true) true Try.f5.params.toList args.toList ds p := hA0
  rw [Try.params5] at hA hval
  obtain ⟨v0, vs0, d0, ds0, p0, q0, hargs, rfl, rfl, h0, r0⟩ := trodAll_cons hA
  obtain ⟨v1, vs1, d1, ds1, p1, q1, rfl, rfl, rfl, h1, r1⟩ := trodAll_cons r0
  obtain ⟨v2, vs2, d2, ds2, p2, q2, rfl, rfl, rfl, h2, r2⟩ := trodAll_cons r1
  obtain ⟨v3, vs3, d3, ds3, p3, q3, rfl, rfl, rfl, h3, r3⟩ := trodAll_cons r2
  obtain ⟨rfl, rfl, rfl⟩ := trodAll_nil r3
  obtain rfl : args = #[v0, v1, v2, v3] := by cases args; simp_all
  obtain ⟨rfl, rfl⟩ := trodVars_none hV
  have lt0 : ∀ x ∈ p0, x.block < W.heap.size := by obtain ⟨m, hm⟩ := h0; exact DataW.trod_lt m _ _ _ hm
  have g0 := shape_deeds (hval 0 32 v0 rfl rfl) h0
  have lt1 : ∀ x ∈ p1, x.block < W.heap.size := by obtain ⟨m, hm⟩ := h1; exact DataW.trod_lt m _ _ _ hm
  have g1 := shape_int (hval 1 3 v1 rfl rfl) h1
  have lt2 : ∀ x ∈ p2, x.block < W.heap.size := by obtain ⟨m, hm⟩ := h2; exact DataW.trod_lt m _ _ _ hm
  have g2 := shape_int (hval 2 3 v2 rfl rfl) h2
  have lt3 : ∀ x ∈ p3, x.block < W.heap.size := by obtain ⟨m, hm⟩ := h3; exact DataW.trod_lt m _ _ _ hm
  have g3 := shape_deeds (hval 3 32 v3 rfl rfl) h3
  clear hA0 hval0
  refine (walk v0 v1 v2 v3 W g0 g1 g2 g3).mono fun e W' ⟨he, bel⟩ => ?_
  subst he
  exact ⟨_, rfl, _, _, _, [], _, [], hW', trodAll_mk1 (shut_bool Try.underlying4 _), (trodAll_cons_mk (Below.trod laidOut (by kernel_rfl) (of_decide_eq_true (by kernel_rfl)) h0 bel lt0) (trodAll_cons_mk (Below.trod laidOut (by kernel_rfl) (of_decide_eq_true (by kernel_rfl)) h1 bel lt1) (trodAll_cons_mk (Below.trod laidOut (by kernel_rfl) (of_decide_eq_true (by kernel_rfl)) h2 bel lt2) (trodAll_cons_mk (Below.trod laidOut (by kernel_rfl) (of_decide_eq_true (by kernel_rfl)) h3 bel lt3) trodAll_mk0)))), rfl, bel.frame _, fun h => by cases h⟩

theorem over : Rows.trimMatchRow.holds Try.pinned (OpenSpec.ofChange Rows.trimMatchSpec) :=
  OpenClaim.holds_of_wide 5 Try.f5 rfl rfl rfl rfl rfl rfl rfl ⟨rfl, rfl, rfl, rfl, rfl⟩ rfl rfl rfl rfl rfl (by kernel_rfl) Try.func5 (by kernel_rfl)
    (of_decide_eq_true (by kernel_rfl)) (by unfold Func.isWrapper; first | (rw [if_pos (by decide +kernel)]; kernel_rfl) | (rw [if_neg (by decide +kernel)]; exact ⟨rfl, rfl⟩))
    (fun os started H enc _ => lifted os started H enc)

end Go.Proofs.Ytlmmeapdeojkdaa.trimMatchDone
namespace Go.Proofs.Ytlmmeapdeojkdaa
theorem TrimMatch_holds : Rows.TrimMatchSaid := trimMatchDone.over
end Go.Proofs.Ytlmmeapdeojkdaa
