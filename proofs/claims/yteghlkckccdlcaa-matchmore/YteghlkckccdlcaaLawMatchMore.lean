/- What fits behind the last one stands there: items of raw numbers behind a log of raw numbers, their terms and times not below its last ones, are laid behind it: for all raw numbers and every base the law returns true. No condition. -/
import Derived.Test.YteghlkckccdlcaaMd
import Derived.Test.YteghlkckccdlcaaHk
import Derived.Test.YteghlkckccdlcaaOj
import Derived.Test.YteghlkckccdlcaaQt
import Derived.Test.YteghlkckccdlcaaSa
import Derived.Shelf.Abstract
namespace Go.Proofs.Yteghlkckccdlcaa.matchMoreDone
open Go.ChangeShapes Go.WideShapes Go.ChangeAt Go.RowKit
open Go.Proofs.Yteghlkckccdlcaa
set_option linter.unusedVariables false
set_option maxRecDepth 100000

/-- The first ones put off, the others as they were. -/
def someOff (d : Int) (l : List Itm) (m : Nat) : List Itm := offBy d (l.take m) ++ l.drop m
theorem someOff_length (d : Int) (l : List Itm) (m : Nat) : (someOff d l m).length = l.length := by simp [someOff, offBy]; omega
theorem someOff_get (d : Int) (l : List Itm) (m : Nat) (h : m < l.length) : (someOff d l m)[m]? = some l[m] := by
  unfold someOff
  rw [List.getElem?_append_right (by simp [offBy]; omega)]
  simp [offBy, Nat.min_eq_left (Nat.le_of_lt h), h]
theorem someOff_set (d : Int) (l : List Itm) (m : Nat) (h : m < l.length) : (someOff d l m).set m (l[m].at (l[m].u + d)) = someOff d l (m + 1) := by
  have hle : (offBy d (l.take m)).length = m := by simp [offBy]; omega
  unfold someOff
  rw [List.set_append_right _ _ (by omega), hle, Nat.sub_self, List.drop_eq_getElem_cons h, List.set_cons_zero, List.take_succ_eq_append_getElem h]
  simp only [offBy, List.map_append, List.map_cons, List.map_nil, List.append_assoc, List.cons_append, List.nil_append]
theorem someOff_all (d : Int) (l : List Itm) : someOff d l l.length = offBy d l := by simp [someOff, offBy]

theorem off_step {B : Nat} {wr : World} {xa : Option Addr} {xc m : Nat} {U : Int} {ms : List Itm} (hown : OwnI B wr (.slice xa ms.length xc) (someOff U ms m)) (hlt : m < ms.length) (hsm : ms.length ≤ 30) :
    ∃ gb, xa = some ⟨gb, 0, none⟩ ∧ wr.cell? ⟨gb, m * 10 + 1, none⟩ = some (.int .i64 ms[m].u) ∧ (∀ o, wr.frozen? ⟨gb, o, none⟩ = false) ∧ gb < wr.heap.size ∧ B ≤ gb ∧ OwnI B (wr.setCell ⟨gb, m * 10 + 1, none⟩ (.int .i64 (ms[m].u + U))) (.slice (some ⟨gb, 0, none⟩) ms.length xc) (someOff U ms (m + 1)) := by
  have hl9 := someOff_length U ms m
  have hge9 := someOff_get U ms m hlt
  have hst9 := someOff_set U ms m hlt
  have hgi : (someOff U ms m)[m]'(by omega) = ms[m] := by
    have := hge9; rw [List.getElem?_eq_getElem (by omega)] at this; exact Option.some.inj this
  have hrw := hown.row (by omega)
  rcases hown.2 with ⟨he, h0⟩ | ⟨gb, cap, cur, he, h2, h3, h4, h5, h6, h7⟩
  · omega
  · simp only [Value.slice.injEq] at he
    obtain ⟨rfl, -, rfl⟩ := he
    refine ⟨gb, rfl, ?_, (cellsB h3).2, lt_at h3, h2, ?_⟩
    · obtain ⟨-, a', c', he', -, -, q3⟩ := hrw
      simp only [Value.slice.injEq] at he'
      obtain ⟨rfl, -, -⟩ := he'
      rcases q3 with hq | ⟨b', off', ha, -, hc⟩
      · rw [hq] at hl9; simp at hl9; omega
      · simp only [Option.some.injEq, Addr.mk.injEq, and_true] at ha
        obtain ⟨rfl, rfl⟩ := ha
        have := (RowAt.ten hc m (by omega)).2.1
        rw [hgi, Nat.zero_add] at this
        exact this
    · have hs1 : OwnI B wr (.slice (some ⟨gb, 0, none⟩) (someOff U ms m).length xc) (someOff U ms m) := by rw [hl9]; exact hown
      have := OwnI.setU hs1 m (by omega) (ms[m].u + U)
      rw [hgi, hst9, hl9] at this
      exact this

set_option maxHeartbeats 16000000 in
theorem walk0 (s : Value) (l : List Deed) (base : Int) (s2 : Value) (l2 : List Deed) (w : World) (hd : DeedsAt w s l) (b1 : in64 base) (hd2 : DeedsAt w s2 l2) :
    Calls Try.prog 5 #[s, .int .i64 base, s2] w fun e w' => e = .returned (.bool true) ∧ Below w.heap.size w w' := by
  have hG := log_any s l base w hd b1.1 b1.2
  have hk := logFor_ok l base
  have hs := logFor_small l base
  have htt := logFor_terms l base
  have hlu := lastU_small l base
  generalize logFor l base = g at *
  have HG : Hid (Calls Try.prog 18 #[s, .int .i64 base] w fun e w' => ∃ r, e = .returned (logV g.base g.term r) ∧ OwnI w.heap.size w' r g.items ∧ Below w.heap.size w w') := hG
  clear hG
  have hL : g.last = g.base + g.items.length := rfl
  have hT := htt g.last (by omega) (by omega)
  have hLa := fun (W : World) (r : Value) (h : RowI W r g.items) => last_ok g r W h hk
  have hI := fun (W : World) (hW : Below w.heap.size w W) => items_any s2 l2 (max (g.termAt g.last) 1) W (hd2.below hW) (by omega) (by omega)
  have hml : (itemsFor (max (g.termAt g.last) 1) 0 (l2.take 30)).length ≤ 30 := by rw [itemsFor_length]; simp; omega
  have hl30 : (l2.take 30).length ≤ 30 := by simp; omega
  have hok0 := itemsOk_for (l2.take 30) (max (g.termAt g.last) 1) 0 (g.termAt g.last) 0 (by omega) (by omega) (by omega) (by omega) (by omega) (by omega)
  have hbd : ∀ x ∈ itemsFor (max (g.termAt g.last) 1) 0 (l2.take 30), x.u + g.lastU ≤ 1073741824 := fun x hx => by
    obtain ⟨i, hi, rfl⟩ := List.getElem_of_mem hx
    have := (itemsFor_t (l2.take 30) (max (g.termAt g.last) 1) 0 i hi).2
    omega
  have hok := itemsOk_off g.lastU hlu.1 _ _ _ hok0 hbd
  rw [Int.zero_add] at hok
  generalize hms : itemsFor (max (g.termAt g.last) 1) 0 (l2.take 30) = ms at *
  have hol : (offBy g.lastU ms).length = ms.length := by simp [offBy]
  have hM := fun (W : World) (r xs : Value) (h : RowI W r g.items) (hx : RowI W xs (offBy g.lastU ms)) => match_any g r g.last (g.termAt g.last) xs _ W h hx
  rw [matchR_more g (offBy g.lastU ms) hk (by rw [hol]; omega) (by rw [hol]; omega) hok] at hM
  have hub : ∀ x ∈ ms, -1 ≤ x.u + g.lastU ∧ x.u + g.lastU ≤ 1073741824 := fun x hx => by
    obtain ⟨i, hi, rfl⟩ := List.getElem_of_mem hx
    have := (fault_num (itemsOk_drop i hi hok0).2).2
    have := hbd _ hx
    omega
  have hlt : g.items ≠ [] → 0 < g.items.length ∧ (g.items[g.items.length - 1]?).map Itm.u = some g.lastU := fun hne => by
    have hp : 0 < g.items.length := List.length_pos_iff.2 hne
    refine ⟨hp, ?_⟩
    unfold Lg.lastU
    rw [List.getLast?_eq_getElem?, List.getElem?_eq_getElem (by omega)]
    rfl
  have hl0 : g.items = [] → g.lastU = 0 := fun h => by unfold Lg.lastU; rw [h]; rfl
  generalize hTT : g.termAt g.last = T at *
  generalize g.lastU = U at *
  have hLL : 0 ≤ g.last ∧ g.last ≤ 41 := by omega
  have HLe : Hid (g.last = g.base + g.items.length) := hL
  clear hL htt hok0 hbd hok hms
  generalize g.last = L at *
  obtain ⟨b, t, A⟩ := g
  simp only at *
  have HL : Hid (∀ (W : World) (r : Value), RowI W r A → Calls Try.prog 22 #[logV b t r] W fun e w' => e = .returned (.tuple #[.int .i64 L, .int .i64 T, .int .i64 0]) ∧ Below W.heap.size W w') := hLa
  generalize hmx : max T 1 = T1 at *
  have HI : Hid (∀ (W : World), Below w.heap.size w W → Calls Try.prog 23 #[s2, .int .i64 T1] W fun e w' => ∃ r, e = .returned r ∧ OwnI W.heap.size w' r ms ∧ Below W.heap.size W w') := hI
  have HM : Hid (∀ (W : World) (r xs : Value), RowI W r A → RowI W xs (offBy U ms) → Calls Try.prog 14 #[logV b t r, .int .i64 L, .int .i64 T, xs] W (MatchOk W (if offBy U ms = [] then ⟨⟨b, t, A⟩, true, 0, 0⟩ else ⟨⟨b, t, A ++ offBy U ms⟩, true, L + 1, 0⟩))) := hM
  have hAl : A.length ≤ 30 := hs.1
  have HUB : Hid (∀ x ∈ ms, -1 ≤ x.u + U ∧ x.u + U ≤ 1073741824) := hub
  have HLT : Hid (A ≠ [] → 0 < A.length ∧ (A[A.length - 1]?).map Itm.u = some U) := hlt
  have HL0 : Hid (A = [] → U = 0) := hl0
  have HMX : Hid (max T 1 = T1) := hmx
  have hml30 : ms.length ≤ 30 := hml
  obtain ⟨fr, R, hfr, hRl, hRR, hMr⟩ : ∃ (fr : Int) (R : List Itm), ((ms.length = 0 ∧ fr = 0) ∨ (0 < ms.length ∧ fr = L + 1)) ∧ R.length ≤ 60 ∧ A ++ offBy U ms = R ∧ ∀ (W : World) (r xs : Value), RowI W r A → RowI W xs (offBy U ms) → Calls Try.prog 14 #[logV b t r, .int .i64 L, .int .i64 T, xs] W (MatchOk W ⟨⟨b, t, R⟩, true, fr, 0⟩) := by
    by_cases h0 : offBy U ms = []
    · refine ⟨0, A, .inl ⟨by rw [← hol, h0]; rfl, rfl⟩, by omega, by rw [h0]; simp, fun W r xs h1 h2 => ?_⟩
      have := HM.out W r xs h1 h2
      rwa [if_pos h0] at this
    · refine ⟨L + 1, A ++ offBy U ms, .inr ⟨?_, rfl⟩, by simp [hol]; omega, rfl, fun W r xs h1 h2 => ?_⟩
      · rw [← hol]; exact List.length_pos_iff.2 h0
      · have := HM.out W r xs h1 h2
        rwa [if_neg h0] at this
  have HMr : Hid (∀ (W : World) (r xs : Value), RowI W r A → RowI W xs (offBy U ms) → Calls Try.prog 14 #[logV b t r, .int .i64 L, .int .i64 T, xs] W (MatchOk W ⟨⟨b, t, R⟩, true, fr, 0⟩)) := hMr
  have HRR : Hid (A ++ offBy U ms = R) := hRR
  have HOL : Hid ((offBy U ms).length = ms.length) := hol
  have HFR : Hid ((ms.length = 0 ∧ fr = 0) ∨ (0 < ms.length ∧ fr = L + 1)) := hfr
  have HS : Hid (∀ (W : World) (r r' : Value), RowI W r R → RowI W r' R → Calls Try.prog 21 #[logV b t r, logV b t r'] W fun e w' => e = .returned (.bool true) ∧ Below W.heap.size W w') := fun W r r' h h' => sameLogK b t r r' _ W h h'
  clear hfr hRR hMr HM
  clear hLa hI hM hk hd hd2 b1 hs hub hlt hl0 hTT hol
  go_enter Try.func5, Try.ntmps5
  go_wp2_with fail
  refine HG.out.mono ?_
  rintro e w1 ⟨r, rfl, hown, hb1⟩
  clear HG
  have hrow := hown.row (by omega)
  obtain ⟨sa, sc, rfl⟩ := hown.shape
  clear hown
  go_wp2_with fail
  have n1 := alloc_at w1 (logO b t (.slice sa A.length sc))
  have hB1 := hb1.alloc hb1.size (logO b t (.slice sa A.length sc))
  have hrow1 := hrow.below (balloc w1 (logO b t (.slice sa A.length sc)))
  clear hrow hb1
  generalize w1.alloc (logO b t (.slice sa A.length sc)) = V at n1 hB1 hrow1 ⊢
  generalize w1.heap.size = bg at n1 ⊢
  refine (HL.out _ _ hrow1).mono ?_
  rintro e w2 ⟨rfl, hb2⟩
  have n2 := (hb2.block bg (lt_at n1)).trans n1
  have hB2 := bstep hB1 hb2
  have hrow2 := hrow1.below hb2
  have HR2 : Hid (RowI w2 (.slice sa A.length sc) A) := hrow2
  have HB2 : Hid (Below w.heap.size w w2) := hB2
  have HN2 : Hid (w2.heap[bg]? = some (logO b t (.slice sa A.length sc))) := n2
  clear hB1 hb2 hrow1 n1 HL
  obtain ⟨c2, f2⟩ := cellsB n2
  go_wp2_with fail
  refine (HI.out _ hB2).mono ?_
  rintro e w3 ⟨r, rfl, hown, hb3⟩
  have n3 := (hb3.block bg (lt_at n2)).trans n2
  have hB3 := bstep hB2 hb3
  have hrow3 := hrow2.below hb3
  have hup : w.heap.size ≤ w2.heap.size := hB2.size
  have HN3 : Hid (w3.heap[bg]? = some (logO b t (.slice sa A.length sc))) := n3
  have hbg : bg < w2.heap.size := lt_at n2
  have HB3 : Hid (Below w2.heap.size w2 w3) := hb3
  clear hB2 hb3 hrow2 n2 c2 f2 HI
  obtain ⟨xa, xc, rfl⟩ := hown.shape
  have HO : Hid (OwnI w2.heap.size w3 (.slice xa ms.length xc) ms) := hown
  clear hown
  obtain ⟨c3, f3⟩ := cellsB n3
  by_cases hA0 : A = []
  · have hU0 := HL0.out hA0
    have hp0 : ¬ 0 < (A.length : Int) := by rw [hA0]; simp
    have HU0 : Hid (U = 0) := hU0
    have HA0 : Hid (A = []) := hA0
    clear HLT hU0 hA0
    go_wp2_with fail
    go_loopw [14] (fun c wr => ∃ m : Nat, c = .int .i64 (m : Int) ∧ m ≤ ms.length ∧ OwnI w2.heap.size wr (.slice xa ms.length xc) (someOff U ms m) ∧ Below w2.heap.size w2 wr) (fun c _ => ms.length - (intOf c).toNat)
    case atStart => exact ⟨0, by simp, by omega, by simpa [someOff, offBy] using HO.out, HB3.out⟩
    case round =>
      obtain ⟨m, rfl, hm, hown, hb⟩ := hrel
      clear hrow3 n3 c3 f3 HO
      by_cases hlt : m < ms.length
      · have hi0 : (m : Int) < (ms.length : Int) := by omega
        have hub := HUB.out ms[m] (List.getElem_mem hlt)
        obtain ⟨gb, rfl, q1, q2, q3, q4, hnx⟩ := off_step hown hlt hml30
        have HNX : Hid (OwnI w2.heap.size (wr.setCell ⟨gb, m * 10 + 1, none⟩ (.int .i64 (ms[m].u + U))) (.slice (some ⟨gb, 0, none⟩) ms.length xc) (someOff U ms (m + 1))) := hnx
        have HB5 : Hid (Below w2.heap.size w2 (wr.setCell ⟨gb, m * 10 + 1, none⟩ (.int .i64 (ms[m].u + U)))) := hb.setCell q4 _
        clear hnx hown
        generalize ms[m].u = z at *
        have hzU : z + U = z := by rw [HU0.out, Int.add_zero]
        rw [hzU] at HNX HB5
        have hw1 : IntKind.i64.wrap z = z := by rw [IntKind.wrap_i64]; omega
        clear hzU
        go_wp2_with fail
        refine ⟨⟨m + 1, by go_num, by omega, ?_, ?_⟩, by simp [intOf]; omega⟩
        · first | exact HNX.out | simpa using HNX.out
        · first | exact HB5.out | simpa using HB5.out
      · have hge : ¬ (m : Int) < (ms.length : Int) := by omega
        have hml : m = ms.length := by omega
        rw [hml, someOff_all] at hown
        have hx5 := hown.row (by simp [offBy]; omega)
        have n5 := (hb.block bg hbg).trans HN2.out
        have hB5 := bstep HB2.out hb
        have hr5 := HR2.out.below hb
        clear hown
        obtain ⟨c5, f5⟩ := cellsB n5
        go_wp2_with fail
        refine (HMr.out _ _ _ hr5 hx5).mono ?_
        rintro e w6 ⟨r, rfl, hown6, hb6⟩
        obtain ⟨ya, yc, rfl⟩ := hown6.shape
        have hy6 := hown6.row (by show R.length ≤ _; omega)
        have n6 := (hb6.block bg (lt_at n5)).trans n5
        have hB6 := bstep hB5 hb6
        have hr6 := hr5.below hb6
        have hx6 := hx5.below hb6
        clear hown6 hb6 n5 hB5 hr5 hx5 c5 f5 HMr hb
        simp only at hy6 ⊢
        have hlen5 : Hid (m = ms.length) := hml
        rcases HFR.out with ⟨v1, rfl⟩ | ⟨v1, rfl⟩
        · have v2 : ¬ 0 < (ms.length : Int) := by omega
          have v3 : ((0 : Int) == L + 1) = false := by simp; omega
          have v4 : ¬ (0 : Int) = L + 1 := by omega
          clear v1
          go_wp2_with fail
          have mx := alloc_at w6 (logO b t (.slice ya R.length yc))
          have ng := ((balloc w6 (logO b t (.slice ya R.length yc))).block bg (lt_at n6)).trans n6
          have hB7 := hB6.alloc hB6.size (logO b t (.slice ya R.length yc))
          have hy7 := hy6.below (balloc w6 (logO b t (.slice ya R.length yc)))
          have hr7 := hr6.below (balloc w6 (logO b t (.slice ya R.length yc)))
          have hx7 := hx6.below (balloc w6 (logO b t (.slice ya R.length yc)))
          clear hy6 hr6 hx6 hB6 n6
          generalize w6.alloc (logO b t (.slice ya R.length yc)) = V6 at *
          generalize w6.heap.size = bx at *
          have HA : Hid (RowI V6.drew (.slice sa A.length sc) A) := hr7.below (Below.refl _ _).drew
          have HX : Hid (∀ w', Below V6.heap.size V6 w' → RowI w' (.slice xa ms.length xc) (offBy U ms)) := fun w' h => hx7.below h
          have HY : Hid (∀ w', Below V6.heap.size V6 w' → RowI w' (.slice ya R.length yc) R) := fun w' h => hy7.below h
          have HB7 : Hid (Below w.heap.size w V6) := hB7
          have HC1 : Hid (∀ w', Below V6.heap.size V6 w' → (∀ o, w'.cell? ⟨bg, o, none⟩ = #[Value.int .i64 b, .int .i64 t, .slice sa A.length sc][o]?)) := fun w' h => (cellsB ((h.block _ (lt_at ng)).trans ng)).1
          have HC2 : Hid (∀ w', Below V6.heap.size V6 w' → (∀ o, w'.cell? ⟨bx, o, none⟩ = #[Value.int .i64 b, .int .i64 t, .slice ya R.length yc][o]?)) := fun w' h => (cellsB ((h.block _ (lt_at mx)).trans mx)).1
          have d1 := HC1.out _ (Below.refl _ _)
          have d2 := HC2.out _ (Below.refl _ _)
          obtain ⟨r0, r1, r2⟩ : V6.cell? ⟨bg, 0, none⟩ = some (.int .i64 b) ∧ V6.cell? ⟨bg, 1, none⟩ = some (.int .i64 t) ∧ V6.cell? ⟨bg, 2, none⟩ = some (.slice sa A.length sc) := ⟨d1 0, d1 1, d1 2⟩
          obtain ⟨s0, s1, s2'⟩ : V6.cell? ⟨bx, 0, none⟩ = some (.int .i64 b) ∧ V6.cell? ⟨bx, 1, none⟩ = some (.int .i64 t) ∧ V6.cell? ⟨bx, 2, none⟩ = some (.slice ya R.length yc) := ⟨d2 0, d2 1, d2 2⟩
          clear d1 d2
          have HEn : Hid (∀ args w, (callFunc 21 args).run Try.prog w = .ok (.enter 21 args) w) := enters_of Try.func21 (by kernel_rfl) rfl
          have hby : A.length + (offBy U ms).length ≤ 60 := by rw [HOL.out]; omega
          clear hr7 hx7 hy7 hB7 mx ng
          go_region_held3 (fun w' => w'.cell? ⟨bg, 0, none⟩ = some (.int .i64 b) ∧ w'.cell? ⟨bg, 1, none⟩ = some (.int .i64 t) ∧ w'.cell? ⟨bg, 2, none⟩ = some (.slice sa A.length sc) ∧ w'.cell? ⟨bx, 0, none⟩ = some (.int .i64 b) ∧ w'.cell? ⟨bx, 1, none⟩ = some (.int .i64 t) ∧ w'.cell? ⟨bx, 2, none⟩ = some (.slice ya R.length yc)) (first | go_keep | exact ⟨e3 0, e3 1, e3 2, e4 0, e4 1, e4 2⟩ | exact ⟨e1 0, e1 1, e1 2, e2 0, e2 1, e2 2⟩ | exact ⟨e5 0, e5 1, e5 2, e6 0, e6 1, e6 2⟩) (first
            | (refine step_append_items rfl (.const (.slice none 0 0)) (.tmp 95) rfl V6.heap.size (.slice none 0 0) [] rfl (OwnI.nil _ _) (.slice sa A.length sc) A (by simp [Act.eval]) HA.out (by simp; omega) (Nat.le_refl _) ?_; intro v1 w7 hown7 hg7; have up7 : Below V6.heap.size V6 w7 := (Below.refl _ V6).drew.trans ((Below.refl _ _).grown hg7 (Nat.le_refl _) (fun k hk => by cases hk)); replace hown7 : OwnI V6.heap.size w7 v1 A := (by simpa using hown7); obtain ⟨pa, pc, rfl⟩ := hown7.shape; have e1 := HC1.out _ up7; have e2 := HC2.out _ up7)
            | (refine step_append_items rfl (.tmp 96) (.tmp 97) rfl V6.heap.size (.slice pa A.length pc) A (by simp [Act.eval]) hown7 (.slice xa ms.length xc) (offBy U ms) (by simp [Act.eval]) (HX.out _ up7) (by omega) up7.size ?_; intro v2 w8 hown8 hg8; have up8 : Below V6.heap.size V6 w8 := up7.trans (OwnI.below hown7 up7.size hg8); rw [HRR.out] at hown8; obtain ⟨qa, qc, rfl⟩ := hown8.shape; have e3 := HC1.out _ up8; have e4 := HC2.out _ up8)
            | (refine step_call2 (R := fun z w' => z = .bool true ∧ Below w8.heap.size w8 w') rfl 21 (.tmp 89) (.tmp 99) _ rfl HEn.out (logV b t (.slice ya R.length yc)) (logV b t (.slice qa R.length qc)) (by simp [Act.eval]) (by simp [Act.eval]) ((HS.out _ _ _ (HY.out _ up8) (hown8.row (by omega))).mono (fun e w' h => ⟨_, h.1, rfl, h.2⟩)) ?_; rintro z w9 ⟨rfl, hb9⟩; have up9 : Below V6.heap.size V6 w9 := up8.trans (hb9.mono up8.size); have e5 := HC1.out _ up9; have e6 := HC2.out _ up9))
          go_wp2_with fail
          go_ret
          exact ⟨rfl, bstep HB7.out up9⟩
        · have v2 : 0 < (ms.length : Int) := by omega
          have v5 : IntKind.i64.wrap (L + 1) = L + 1 := by rw [IntKind.wrap_i64]; omega
          have v6 : decide (0 < ms.length) = true := by simpa using v1
          go_wp2_with fail
          have mx := alloc_at w6 (logO b t (.slice ya R.length yc))
          have ng := ((balloc w6 (logO b t (.slice ya R.length yc))).block bg (lt_at n6)).trans n6
          have hB7 := hB6.alloc hB6.size (logO b t (.slice ya R.length yc))
          have hy7 := hy6.below (balloc w6 (logO b t (.slice ya R.length yc)))
          have hr7 := hr6.below (balloc w6 (logO b t (.slice ya R.length yc)))
          have hx7 := hx6.below (balloc w6 (logO b t (.slice ya R.length yc)))
          clear hy6 hr6 hx6 hB6 n6
          generalize w6.alloc (logO b t (.slice ya R.length yc)) = V6 at *
          generalize w6.heap.size = bx at *
          have HA : Hid (RowI V6.drew (.slice sa A.length sc) A) := hr7.below (Below.refl _ _).drew
          have HX : Hid (∀ w', Below V6.heap.size V6 w' → RowI w' (.slice xa ms.length xc) (offBy U ms)) := fun w' h => hx7.below h
          have HY : Hid (∀ w', Below V6.heap.size V6 w' → RowI w' (.slice ya R.length yc) R) := fun w' h => hy7.below h
          have HB7 : Hid (Below w.heap.size w V6) := hB7
          have HC1 : Hid (∀ w', Below V6.heap.size V6 w' → (∀ o, w'.cell? ⟨bg, o, none⟩ = #[Value.int .i64 b, .int .i64 t, .slice sa A.length sc][o]?)) := fun w' h => (cellsB ((h.block _ (lt_at ng)).trans ng)).1
          have HC2 : Hid (∀ w', Below V6.heap.size V6 w' → (∀ o, w'.cell? ⟨bx, o, none⟩ = #[Value.int .i64 b, .int .i64 t, .slice ya R.length yc][o]?)) := fun w' h => (cellsB ((h.block _ (lt_at mx)).trans mx)).1
          have d1 := HC1.out _ (Below.refl _ _)
          have d2 := HC2.out _ (Below.refl _ _)
          obtain ⟨r0, r1, r2⟩ : V6.cell? ⟨bg, 0, none⟩ = some (.int .i64 b) ∧ V6.cell? ⟨bg, 1, none⟩ = some (.int .i64 t) ∧ V6.cell? ⟨bg, 2, none⟩ = some (.slice sa A.length sc) := ⟨d1 0, d1 1, d1 2⟩
          obtain ⟨s0, s1, s2'⟩ : V6.cell? ⟨bx, 0, none⟩ = some (.int .i64 b) ∧ V6.cell? ⟨bx, 1, none⟩ = some (.int .i64 t) ∧ V6.cell? ⟨bx, 2, none⟩ = some (.slice ya R.length yc) := ⟨d2 0, d2 1, d2 2⟩
          clear d1 d2
          have HEn : Hid (∀ args w, (callFunc 21 args).run Try.prog w = .ok (.enter 21 args) w) := enters_of Try.func21 (by kernel_rfl) rfl
          have hby : A.length + (offBy U ms).length ≤ 60 := by rw [HOL.out]; omega
          clear hr7 hx7 hy7 hB7 mx ng
          go_region_held3 (fun w' => w'.cell? ⟨bg, 0, none⟩ = some (.int .i64 b) ∧ w'.cell? ⟨bg, 1, none⟩ = some (.int .i64 t) ∧ w'.cell? ⟨bg, 2, none⟩ = some (.slice sa A.length sc) ∧ w'.cell? ⟨bx, 0, none⟩ = some (.int .i64 b) ∧ w'.cell? ⟨bx, 1, none⟩ = some (.int .i64 t) ∧ w'.cell? ⟨bx, 2, none⟩ = some (.slice ya R.length yc)) (first | go_keep | exact ⟨e3 0, e3 1, e3 2, e4 0, e4 1, e4 2⟩ | exact ⟨e1 0, e1 1, e1 2, e2 0, e2 1, e2 2⟩ | exact ⟨e5 0, e5 1, e5 2, e6 0, e6 1, e6 2⟩) (first
            | (refine step_append_items rfl (.const (.slice none 0 0)) (.tmp 95) rfl V6.heap.size (.slice none 0 0) [] rfl (OwnI.nil _ _) (.slice sa A.length sc) A (by simp [Act.eval]) HA.out (by simp; omega) (Nat.le_refl _) ?_; intro v1 w7 hown7 hg7; have up7 : Below V6.heap.size V6 w7 := (Below.refl _ V6).drew.trans ((Below.refl _ _).grown hg7 (Nat.le_refl _) (fun k hk => by cases hk)); replace hown7 : OwnI V6.heap.size w7 v1 A := (by simpa using hown7); obtain ⟨pa, pc, rfl⟩ := hown7.shape; have e1 := HC1.out _ up7; have e2 := HC2.out _ up7)
            | (refine step_append_items rfl (.tmp 96) (.tmp 97) rfl V6.heap.size (.slice pa A.length pc) A (by simp [Act.eval]) hown7 (.slice xa ms.length xc) (offBy U ms) (by simp [Act.eval]) (HX.out _ up7) (by omega) up7.size ?_; intro v2 w8 hown8 hg8; have up8 : Below V6.heap.size V6 w8 := up7.trans (OwnI.below hown7 up7.size hg8); rw [HRR.out] at hown8; obtain ⟨qa, qc, rfl⟩ := hown8.shape; have e3 := HC1.out _ up8; have e4 := HC2.out _ up8)
            | (refine step_call2 (R := fun z w' => z = .bool true ∧ Below w8.heap.size w8 w') rfl 21 (.tmp 89) (.tmp 99) _ rfl HEn.out (logV b t (.slice ya R.length yc)) (logV b t (.slice qa R.length qc)) (by simp [Act.eval]) (by simp [Act.eval]) ((HS.out _ _ _ (HY.out _ up8) (hown8.row (by omega))).mono (fun e w' h => ⟨_, h.1, rfl, h.2⟩)) ?_; rintro z w9 ⟨rfl, hb9⟩; have up9 : Below V6.heap.size V6 w9 := up8.trans (hb9.mono up8.size); have e5 := HC1.out _ up9; have e6 := HC2.out _ up9))
          go_wp2_with fail
          go_ret
          exact ⟨rfl, bstep HB7.out up9⟩
  · obtain ⟨hp, hu⟩ := HLT.out hA0
    have hp1 : 0 < (A.length : Int) := by omega
    obtain ⟨bb, off, hsa, hcl⟩ : ∃ bb off, sa = some ⟨bb, off, none⟩ ∧ w3.cell? ⟨bb, off + (A.length - 1) * 10 + 1, none⟩ = some (.int .i64 U) := by
      obtain ⟨-, a', c', he, q1, q2, q3⟩ := hrow3
      simp only [Value.slice.injEq, true_and] at he
      obtain ⟨rfl, rfl⟩ := he
      rcases q3 with h | ⟨bb, off, ha, -, hc⟩
      · exact absurd h hA0
      · rw [List.getElem?_eq_getElem (by omega)] at hu
        simp only [Option.map_some, Option.some.injEq] at hu
        exact ⟨bb, off, ha, by rw [(RowAt.ten hc (A.length - 1) (by omega)).2.1, hu]⟩
    subst hsa
    have hidx : IntKind.i64.wrap ((A.length : Int) - 1) = ((A.length - 1 : Nat) : Int) := by rw [IntKind.wrap_i64]; omega
    have hidx2 : wrap64 ((A.length : Int) - 1) = ((A.length - 1 : Nat) : Int) := by unfold wrap64; omega
    have hidx3 : (A.length : Int) - 1 = ((A.length - 1 : Nat) : Int) := by omega
    have hidx4 : ((A.length - 1 : Nat) : Int) < (A.length : Int) := by omega
    clear hu
    go_wp2_with fail
    go_loopw [14] (fun c wr => ∃ m : Nat, c = .int .i64 (m : Int) ∧ m ≤ ms.length ∧ OwnI w2.heap.size wr (.slice xa ms.length xc) (someOff U ms m) ∧ Below w2.heap.size w2 wr) (fun c _ => ms.length - (intOf c).toNat)
    case atStart => exact ⟨0, by simp, by omega, by simpa [someOff, offBy] using HO.out, HB3.out⟩
    case round =>
      obtain ⟨m, rfl, hm, hown, hb⟩ := hrel
      clear hrow3 n3 c3 f3 HO
      by_cases hlt : m < ms.length
      · have hi0 : (m : Int) < (ms.length : Int) := by omega
        have hub := HUB.out ms[m] (List.getElem_mem hlt)
        obtain ⟨gb, rfl, q1, q2, q3, q4, hnx⟩ := off_step hown hlt hml30
        have HNX : Hid (OwnI w2.heap.size (wr.setCell ⟨gb, m * 10 + 1, none⟩ (.int .i64 (ms[m].u + U))) (.slice (some ⟨gb, 0, none⟩) ms.length xc) (someOff U ms (m + 1))) := hnx
        have HB5 : Hid (Below w2.heap.size w2 (wr.setCell ⟨gb, m * 10 + 1, none⟩ (.int .i64 (ms[m].u + U)))) := hb.setCell q4 _
        clear hnx hown
        generalize ms[m].u = z at *
        have hw1 : IntKind.i64.wrap (z + U) = z + U := by rw [IntKind.wrap_i64]; omega
        go_wp2_with fail
        refine ⟨⟨m + 1, by go_num, by omega, ?_, ?_⟩, by simp [intOf]; omega⟩
        · first | exact HNX.out | simpa using HNX.out
        · first | exact HB5.out | simpa using HB5.out
      · have hge : ¬ (m : Int) < (ms.length : Int) := by omega
        have hml : m = ms.length := by omega
        rw [hml, someOff_all] at hown
        have hx5 := hown.row (by simp [offBy]; omega)
        have n5 := (hb.block bg hbg).trans HN2.out
        have hB5 := bstep HB2.out hb
        have hr5 := HR2.out.below hb
        clear hown
        obtain ⟨c5, f5⟩ := cellsB n5
        go_wp2_with fail
        refine (HMr.out _ _ _ hr5 hx5).mono ?_
        rintro e w6 ⟨r, rfl, hown6, hb6⟩
        obtain ⟨ya, yc, rfl⟩ := hown6.shape
        have hy6 := hown6.row (by show R.length ≤ _; omega)
        have n6 := (hb6.block bg (lt_at n5)).trans n5
        have hB6 := bstep hB5 hb6
        have hr6 := hr5.below hb6
        have hx6 := hx5.below hb6
        clear hown6 hb6 n5 hB5 hr5 hx5 c5 f5 HMr hb
        simp only at hy6 ⊢
        have hlen5 : Hid (m = ms.length) := hml
        rcases HFR.out with ⟨v1, rfl⟩ | ⟨v1, rfl⟩
        · have v2 : ¬ 0 < (ms.length : Int) := by omega
          have v3 : ((0 : Int) == L + 1) = false := by simp; omega
          have v4 : ¬ (0 : Int) = L + 1 := by omega
          clear v1
          go_wp2_with fail
          have mx := alloc_at w6 (logO b t (.slice ya R.length yc))
          have ng := ((balloc w6 (logO b t (.slice ya R.length yc))).block bg (lt_at n6)).trans n6
          have hB7 := hB6.alloc hB6.size (logO b t (.slice ya R.length yc))
          have hy7 := hy6.below (balloc w6 (logO b t (.slice ya R.length yc)))
          have hr7 := hr6.below (balloc w6 (logO b t (.slice ya R.length yc)))
          have hx7 := hx6.below (balloc w6 (logO b t (.slice ya R.length yc)))
          clear hy6 hr6 hx6 hB6 n6
          generalize w6.alloc (logO b t (.slice ya R.length yc)) = V6 at *
          generalize w6.heap.size = bx at *
          have HA : Hid (RowI V6.drew (.slice (some ⟨bb, off, none⟩) A.length sc) A) := hr7.below (Below.refl _ _).drew
          have HX : Hid (∀ w', Below V6.heap.size V6 w' → RowI w' (.slice xa ms.length xc) (offBy U ms)) := fun w' h => hx7.below h
          have HY : Hid (∀ w', Below V6.heap.size V6 w' → RowI w' (.slice ya R.length yc) R) := fun w' h => hy7.below h
          have HB7 : Hid (Below w.heap.size w V6) := hB7
          have HC1 : Hid (∀ w', Below V6.heap.size V6 w' → (∀ o, w'.cell? ⟨bg, o, none⟩ = #[Value.int .i64 b, .int .i64 t, .slice (some ⟨bb, off, none⟩) A.length sc][o]?)) := fun w' h => (cellsB ((h.block _ (lt_at ng)).trans ng)).1
          have HC2 : Hid (∀ w', Below V6.heap.size V6 w' → (∀ o, w'.cell? ⟨bx, o, none⟩ = #[Value.int .i64 b, .int .i64 t, .slice ya R.length yc][o]?)) := fun w' h => (cellsB ((h.block _ (lt_at mx)).trans mx)).1
          have d1 := HC1.out _ (Below.refl _ _)
          have d2 := HC2.out _ (Below.refl _ _)
          obtain ⟨r0, r1, r2⟩ : V6.cell? ⟨bg, 0, none⟩ = some (.int .i64 b) ∧ V6.cell? ⟨bg, 1, none⟩ = some (.int .i64 t) ∧ V6.cell? ⟨bg, 2, none⟩ = some (.slice (some ⟨bb, off, none⟩) A.length sc) := ⟨d1 0, d1 1, d1 2⟩
          obtain ⟨s0, s1, s2'⟩ : V6.cell? ⟨bx, 0, none⟩ = some (.int .i64 b) ∧ V6.cell? ⟨bx, 1, none⟩ = some (.int .i64 t) ∧ V6.cell? ⟨bx, 2, none⟩ = some (.slice ya R.length yc) := ⟨d2 0, d2 1, d2 2⟩
          clear d1 d2
          have HEn : Hid (∀ args w, (callFunc 21 args).run Try.prog w = .ok (.enter 21 args) w) := enters_of Try.func21 (by kernel_rfl) rfl
          have hby : A.length + (offBy U ms).length ≤ 60 := by rw [HOL.out]; omega
          clear hr7 hx7 hy7 hB7 mx ng
          go_region_held3 (fun w' => w'.cell? ⟨bg, 0, none⟩ = some (.int .i64 b) ∧ w'.cell? ⟨bg, 1, none⟩ = some (.int .i64 t) ∧ w'.cell? ⟨bg, 2, none⟩ = some (.slice (some ⟨bb, off, none⟩) A.length sc) ∧ w'.cell? ⟨bx, 0, none⟩ = some (.int .i64 b) ∧ w'.cell? ⟨bx, 1, none⟩ = some (.int .i64 t) ∧ w'.cell? ⟨bx, 2, none⟩ = some (.slice ya R.length yc)) (first | go_keep | exact ⟨e3 0, e3 1, e3 2, e4 0, e4 1, e4 2⟩ | exact ⟨e1 0, e1 1, e1 2, e2 0, e2 1, e2 2⟩ | exact ⟨e5 0, e5 1, e5 2, e6 0, e6 1, e6 2⟩) (first
            | (refine step_append_items rfl (.const (.slice none 0 0)) (.tmp 95) rfl V6.heap.size (.slice none 0 0) [] rfl (OwnI.nil _ _) (.slice (some ⟨bb, off, none⟩) A.length sc) A (by simp [Act.eval]) HA.out (by simp; omega) (Nat.le_refl _) ?_; intro v1 w7 hown7 hg7; have up7 : Below V6.heap.size V6 w7 := (Below.refl _ V6).drew.trans ((Below.refl _ _).grown hg7 (Nat.le_refl _) (fun k hk => by cases hk)); replace hown7 : OwnI V6.heap.size w7 v1 A := (by simpa using hown7); obtain ⟨pa, pc, rfl⟩ := hown7.shape; have e1 := HC1.out _ up7; have e2 := HC2.out _ up7)
            | (refine step_append_items rfl (.tmp 96) (.tmp 97) rfl V6.heap.size (.slice pa A.length pc) A (by simp [Act.eval]) hown7 (.slice xa ms.length xc) (offBy U ms) (by simp [Act.eval]) (HX.out _ up7) (by omega) up7.size ?_; intro v2 w8 hown8 hg8; have up8 : Below V6.heap.size V6 w8 := up7.trans (OwnI.below hown7 up7.size hg8); rw [HRR.out] at hown8; obtain ⟨qa, qc, rfl⟩ := hown8.shape; have e3 := HC1.out _ up8; have e4 := HC2.out _ up8)
            | (refine step_call2 (R := fun z w' => z = .bool true ∧ Below w8.heap.size w8 w') rfl 21 (.tmp 89) (.tmp 99) _ rfl HEn.out (logV b t (.slice ya R.length yc)) (logV b t (.slice qa R.length qc)) (by simp [Act.eval]) (by simp [Act.eval]) ((HS.out _ _ _ (HY.out _ up8) (hown8.row (by omega))).mono (fun e w' h => ⟨_, h.1, rfl, h.2⟩)) ?_; rintro z w9 ⟨rfl, hb9⟩; have up9 : Below V6.heap.size V6 w9 := up8.trans (hb9.mono up8.size); have e5 := HC1.out _ up9; have e6 := HC2.out _ up9))
          go_wp2_with fail
          go_ret
          exact ⟨rfl, bstep HB7.out up9⟩
        · have v2 : 0 < (ms.length : Int) := by omega
          have v5 : IntKind.i64.wrap (L + 1) = L + 1 := by rw [IntKind.wrap_i64]; omega
          have v6 : decide (0 < ms.length) = true := by simpa using v1
          go_wp2_with fail
          have mx := alloc_at w6 (logO b t (.slice ya R.length yc))
          have ng := ((balloc w6 (logO b t (.slice ya R.length yc))).block bg (lt_at n6)).trans n6
          have hB7 := hB6.alloc hB6.size (logO b t (.slice ya R.length yc))
          have hy7 := hy6.below (balloc w6 (logO b t (.slice ya R.length yc)))
          have hr7 := hr6.below (balloc w6 (logO b t (.slice ya R.length yc)))
          have hx7 := hx6.below (balloc w6 (logO b t (.slice ya R.length yc)))
          clear hy6 hr6 hx6 hB6 n6
          generalize w6.alloc (logO b t (.slice ya R.length yc)) = V6 at *
          generalize w6.heap.size = bx at *
          have HA : Hid (RowI V6.drew (.slice (some ⟨bb, off, none⟩) A.length sc) A) := hr7.below (Below.refl _ _).drew
          have HX : Hid (∀ w', Below V6.heap.size V6 w' → RowI w' (.slice xa ms.length xc) (offBy U ms)) := fun w' h => hx7.below h
          have HY : Hid (∀ w', Below V6.heap.size V6 w' → RowI w' (.slice ya R.length yc) R) := fun w' h => hy7.below h
          have HB7 : Hid (Below w.heap.size w V6) := hB7
          have HC1 : Hid (∀ w', Below V6.heap.size V6 w' → (∀ o, w'.cell? ⟨bg, o, none⟩ = #[Value.int .i64 b, .int .i64 t, .slice (some ⟨bb, off, none⟩) A.length sc][o]?)) := fun w' h => (cellsB ((h.block _ (lt_at ng)).trans ng)).1
          have HC2 : Hid (∀ w', Below V6.heap.size V6 w' → (∀ o, w'.cell? ⟨bx, o, none⟩ = #[Value.int .i64 b, .int .i64 t, .slice ya R.length yc][o]?)) := fun w' h => (cellsB ((h.block _ (lt_at mx)).trans mx)).1
          have d1 := HC1.out _ (Below.refl _ _)
          have d2 := HC2.out _ (Below.refl _ _)
          obtain ⟨r0, r1, r2⟩ : V6.cell? ⟨bg, 0, none⟩ = some (.int .i64 b) ∧ V6.cell? ⟨bg, 1, none⟩ = some (.int .i64 t) ∧ V6.cell? ⟨bg, 2, none⟩ = some (.slice (some ⟨bb, off, none⟩) A.length sc) := ⟨d1 0, d1 1, d1 2⟩
          obtain ⟨s0, s1, s2'⟩ : V6.cell? ⟨bx, 0, none⟩ = some (.int .i64 b) ∧ V6.cell? ⟨bx, 1, none⟩ = some (.int .i64 t) ∧ V6.cell? ⟨bx, 2, none⟩ = some (.slice ya R.length yc) := ⟨d2 0, d2 1, d2 2⟩
          clear d1 d2
          have HEn : Hid (∀ args w, (callFunc 21 args).run Try.prog w = .ok (.enter 21 args) w) := enters_of Try.func21 (by kernel_rfl) rfl
          have hby : A.length + (offBy U ms).length ≤ 60 := by rw [HOL.out]; omega
          clear hr7 hx7 hy7 hB7 mx ng
          go_region_held3 (fun w' => w'.cell? ⟨bg, 0, none⟩ = some (.int .i64 b) ∧ w'.cell? ⟨bg, 1, none⟩ = some (.int .i64 t) ∧ w'.cell? ⟨bg, 2, none⟩ = some (.slice (some ⟨bb, off, none⟩) A.length sc) ∧ w'.cell? ⟨bx, 0, none⟩ = some (.int .i64 b) ∧ w'.cell? ⟨bx, 1, none⟩ = some (.int .i64 t) ∧ w'.cell? ⟨bx, 2, none⟩ = some (.slice ya R.length yc)) (first | go_keep | exact ⟨e3 0, e3 1, e3 2, e4 0, e4 1, e4 2⟩ | exact ⟨e1 0, e1 1, e1 2, e2 0, e2 1, e2 2⟩ | exact ⟨e5 0, e5 1, e5 2, e6 0, e6 1, e6 2⟩) (first
            | (refine step_append_items rfl (.const (.slice none 0 0)) (.tmp 95) rfl V6.heap.size (.slice none 0 0) [] rfl (OwnI.nil _ _) (.slice (some ⟨bb, off, none⟩) A.length sc) A (by simp [Act.eval]) HA.out (by simp; omega) (Nat.le_refl _) ?_; intro v1 w7 hown7 hg7; have up7 : Below V6.heap.size V6 w7 := (Below.refl _ V6).drew.trans ((Below.refl _ _).grown hg7 (Nat.le_refl _) (fun k hk => by cases hk)); replace hown7 : OwnI V6.heap.size w7 v1 A := (by simpa using hown7); obtain ⟨pa, pc, rfl⟩ := hown7.shape; have e1 := HC1.out _ up7; have e2 := HC2.out _ up7)
            | (refine step_append_items rfl (.tmp 96) (.tmp 97) rfl V6.heap.size (.slice pa A.length pc) A (by simp [Act.eval]) hown7 (.slice xa ms.length xc) (offBy U ms) (by simp [Act.eval]) (HX.out _ up7) (by omega) up7.size ?_; intro v2 w8 hown8 hg8; have up8 : Below V6.heap.size V6 w8 := up7.trans (OwnI.below hown7 up7.size hg8); rw [HRR.out] at hown8; obtain ⟨qa, qc, rfl⟩ := hown8.shape; have e3 := HC1.out _ up8; have e4 := HC2.out _ up8)
            | (refine step_call2 (R := fun z w' => z = .bool true ∧ Below w8.heap.size w8 w') rfl 21 (.tmp 89) (.tmp 99) _ rfl HEn.out (logV b t (.slice ya R.length yc)) (logV b t (.slice qa R.length qc)) (by simp [Act.eval]) (by simp [Act.eval]) ((HS.out _ _ _ (HY.out _ up8) (hown8.row (by omega))).mono (fun e w' h => ⟨_, h.1, rfl, h.2⟩)) ?_; rintro z w9 ⟨rfl, hb9⟩; have up9 : Below V6.heap.size V6 w9 := up8.trans (hb9.mono up8.size); have e5 := HC1.out _ up9; have e6 := HC2.out _ up9))
          go_wp2_with fail
          go_ret
          exact ⟨rfl, bstep HB7.out up9⟩

theorem walk (v0 v1 v2 : Value) (w : World) (h0 : IsDeeds w v0) (h1 : IsInt v1) (h2 : IsDeeds w v2) :
    Calls Try.prog 5 #[v0, v1, v2] w fun e w' => e = .returned (.bool true) ∧ Below w.heap.size w w' := by
  obtain ⟨l, hd⟩ := h0
  obtain ⟨x1, rfl, c1, c2⟩ := h1
  obtain ⟨l2, hd2⟩ := h2
  exact walk0 v0 l x1 v2 l2 w hd ⟨c1, c2⟩ hd2

theorem own : ownKnob Try.prog.godebug = none := by kernel_rfl
theorem laidOut : laidOutB Try.prog = true := by kernel_rfl

set_option maxRecDepth 100000 in
theorem lifted (os : Os) (started : os.Started) (H : Type) (enc : TypeId × Value → H) :
    ReturnsInHanded {} Try.checked os 5 .any (Rows.matchMoreSpec.pre6 enc Try.prog Try.f5 Rows.matchMoreRow.domain false) (Rows.matchMoreSpec.post enc Try.prog Try.f5 false true false false) := by
  refine returnsInHanded_of_change (C := Try.checked) own started (by kernel_rfl) Try.func5
    (ChangeSpec.witness6 (enc := enc) (C := Try.checked) false ⟨#[], #[.slice none 0 0, .int .i64 0, .slice none 0 0], []⟩ 8 (by kernel_rfl) (by kernel_rfl) (by kernel_rfl) (by kernel_rfl)) ?_
  intro W base args ds gs before hval0 hW hcnd _
  have hval : ∀ (j : Nat) t v, Try.f5.params[j]? = some t → args[j]? = some v → Value.okWide Try.prog W .any base t v := hval0
  have hW' := hW
  obtain ⟨p, q, hA0, hV, rfl, hfz, hnd⟩ := hW
  have hA : DataW.TrodAll enc Try.prog W 0 (fun _ => true) true Try.f5.params.toList args.toList ds p := hA0
  rw [Try.params5] at hA hval
  obtain ⟨v0, vs0, d0, ds0, p0, q0, hargs, rfl, rfl, h0, r0⟩ := trodAll_cons hA
  obtain ⟨v1, vs1, d1, ds1, p1, q1, rfl, rfl, rfl, h1, r1⟩ := trodAll_cons r0
  obtain ⟨v2, vs2, d2, ds2, p2, q2, rfl, rfl, rfl, h2, r2⟩ := trodAll_cons r1
  obtain ⟨rfl, rfl, rfl⟩ := trodAll_nil r2
  obtain rfl : args = #[v0, v1, v2] := by cases args; simp_all
  obtain ⟨rfl, rfl⟩ := trodVars_none hV
  have lt0 : ∀ x ∈ p0, x.block < W.heap.size := by obtain ⟨m, hm⟩ := h0; exact DataW.trod_lt m _ _ _ hm
  have g0 := shape_deeds (hval 0 32 v0 rfl rfl) h0
  have lt1 : ∀ x ∈ p1, x.block < W.heap.size := by obtain ⟨m, hm⟩ := h1; exact DataW.trod_lt m _ _ _ hm
  have g1 := shape_int (hval 1 3 v1 rfl rfl) h1
  have lt2 : ∀ x ∈ p2, x.block < W.heap.size := by obtain ⟨m, hm⟩ := h2; exact DataW.trod_lt m _ _ _ hm
  have g2 := shape_deeds (hval 2 32 v2 rfl rfl) h2
  clear hA0 hval0
  refine (walk v0 v1 v2 W g0 g1 g2).mono fun e W' ⟨he, bel⟩ => ?_
  subst he
  exact ⟨_, rfl, _, _, _, [], _, [], hW', trodAll_mk1 (shut_bool Try.underlying4 _), (trodAll_cons_mk (Below.trod laidOut (by kernel_rfl) (of_decide_eq_true (by kernel_rfl)) h0 bel lt0) (trodAll_cons_mk (Below.trod laidOut (by kernel_rfl) (of_decide_eq_true (by kernel_rfl)) h1 bel lt1) (trodAll_cons_mk (Below.trod laidOut (by kernel_rfl) (of_decide_eq_true (by kernel_rfl)) h2 bel lt2) trodAll_mk0))), rfl, bel.frame _, fun h => by cases h⟩

theorem over : Rows.matchMoreRow.holds Try.pinned (OpenSpec.ofChange Rows.matchMoreSpec) :=
  OpenClaim.holds_of_wide 5 Try.f5 rfl rfl rfl rfl rfl rfl rfl ⟨rfl, rfl, rfl, rfl, rfl⟩ rfl rfl rfl rfl rfl (by kernel_rfl) Try.func5 (by kernel_rfl)
    (of_decide_eq_true (by kernel_rfl)) (by unfold Func.isWrapper; first | (rw [if_pos (by decide +kernel)]; kernel_rfl) | (rw [if_neg (by decide +kernel)]; exact ⟨rfl, rfl⟩))
    (fun os started H enc _ => lifted os started H enc)

end Go.Proofs.Yteghlkckccdlcaa.matchMoreDone
namespace Go.Proofs.Yteghlkckccdlcaa
theorem MatchMore_holds : Rows.MatchMoreSaid := matchMoreDone.over
end Go.Proofs.Yteghlkckccdlcaa
