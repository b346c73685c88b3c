/- Whether a store may be: store.Check. -/
import Derived.Test.YtfnephnecighaaaGreatVe8
import Derived.Test.YtfnephnecighaaaGreatGw
import Derived.Test.YtfnephnecighaaaGreatVbJ
namespace Go.Proofs.YtfnephnecighaaaGreat
open Go.RowKit
set_option linter.unusedVariables false
set_option maxRecDepth 100000

set_option maxHeartbeats 400000 in
theorem isTimeS_any (n : Int) (w : World) : Calls Tryz.prog 47 #[.int .i64 n] w fun e w' => e = .returned (.bool (isTimeB n)) ∧ w = w' := by
  go_enter Tryz.func47, Tryz.ntmps47
  go_wp2
  all_goals (go_ret; exact ⟨ret_bool (by unfold isTimeB; simp; omega), rfl⟩)

set_option maxHeartbeats 2000000 in
theorem entryMayBe_any (e : Ent) (now : Int) (w : World) (hl : Lists w e.ps e.is e.ss e.kv.x) :
    Calls Tryz.prog 46 #[valE e, .int .i64 now] w fun r w' => r = .returned (.bool (!wrongK now e.kv)) ∧ Below w.heap.size w w' := by
  have hc := fun W (hb : Below w.heap.size w W) => check_any (valV e.kv.x.kind e.kv.x.text e.kv.x.count e.ps e.is e.ss) e.kv.x W ⟨_, _, _, rfl, hl.below hb⟩
  have hn := fun W => isName_any e.kv.key W
  clear hl
  have hF : (!wrongK now e.kv) = (isNameB e.kv.key && decide (e.kv.x.fault = 0) && (decide (e.kv.til = 0) || (decide (now < e.kv.til) && decide (e.kv.til ≤ 1073741824)))) := by rw [wrongK, Bool.not_not]
  rw [hF]
  clear hF
  obtain ⟨⟨key, ⟨kind, text, count, pairs, items, scores⟩, til⟩, pa, pc, ia, ic, sa, sc⟩ := e
  simp only at *
  generalize Val.fault ⟨kind, text, count, pairs, items, scores⟩ = F at *
  generalize isNameB key = K at *
  have HC : Hid (∀ W, Below w.heap.size w W → Calls Tryz.prog 53 #[valV kind text count (.slice pa pairs.length pc) (.slice ia items.length ic) (.slice sa scores.length sc)] W fun e w' => e = .returned (.int .i64 F) ∧ Below W.heap.size W w') := hc
  have HN : Hid (∀ W, Calls Tryz.prog 85 #[.string key] W fun e w' => e = .returned (.bool K) ∧ W = w') := hn
  have hB0 := balloc w (entO key kind text count (.slice pa pairs.length pc) (.slice ia items.length ic) (.slice sa scores.length sc) til)
  have n0 := alloc_at w (entO key kind text count (.slice pa pairs.length pc) (.slice ia items.length ic) (.slice sa scores.length sc) til)
  have HB0 : Hid _ := hB0
  clear hc hn hB0
  cases K
  · go_enter Tryz.func46, Tryz.ntmps46
    go_wp2_with (go_at_call 85; refine (HN.out _).mono ?_; rintro e w3 ⟨rfl, rfl⟩)
    go_ret
    exact ⟨ret_bool (by simp), HB0.out⟩
  · go_enter Tryz.func46, Tryz.ntmps46
    go_wp2_with (go_at_call 85; refine (HN.out _).mono ?_; rintro e w3 ⟨rfl, rfl⟩)
    refine (HC.out _ HB0.out).mono ?_
    rintro e w1 ⟨rfl, hb1⟩
    have n1 := (hb1.block _ (lt_at n0)).trans n0
    have hB1 := bstep HB0.out hb1
    obtain ⟨q0, f0⟩ := cellsB n1
    clear hb1 n0 HN HC HB0
    have HB1 : Hid (Below w.heap.size w w1) := hB1
    clear hB1
    by_cases hF : F = 0
    · subst hF
      by_cases ht : til = 0
      · subst ht
        go_wp2_with fail
        go_ret
        exact ⟨ret_bool (by simp), HB1.out⟩
      · have ht' : (til == 0) = false := by simpa using ht
        have HT : Hid (decide (til = 0) = false) := by show decide (til = 0) = false; simpa using ht
        clear ht
        cases hx : decide (now < til)
        · have HX : Hid (decide (now < til) = false) := hx
          go_wp2_with fail
          go_ret
          exact ⟨ret_bool (by rw [HT.out]), HB1.out⟩
        · have HX : Hid (decide (now < til) = true) := hx
          go_wp2_with fail
          go_ret
          exact ⟨ret_bool (by rw [HT.out]; simp), HB1.out⟩
    · have hF' : (F == 0) = false := by simpa using hF
      have HF : Hid (decide (F = 0) = false) := by show decide (F = 0) = false; simpa using hF
      clear hF
      go_wp2_with fail
      go_ret
      exact ⟨ret_bool (by rw [HF.out]; simp), HB1.out⟩

def riseE (a b : Ent) : Bool := ltK a.kv b.kv
theorem rises_map {α β : Type} (f : α → β) (lt : β → β → Bool) : ∀ l : List α, risesB (fun a b => lt (f a) (f b)) l = risesB lt (l.map f)
  | [] => rfl
  | [a] => rfl
  | a :: b :: r => by
    have := rises_map f lt (b :: r)
    simp only [List.map_cons] at this ⊢
    rw [risesB, risesB, this]

set_option maxHeartbeats 2000000 in
theorem keysRise_any (s : Value) (l : List Ent) (w : World) (hs : RowAt 8 encE w s l) :
    Calls Tryz.prog 49 #[s] w fun e w' => e = .returned (.bool (risesB riseE l)) ∧ Below w.heap.size w w' := by
  obtain ⟨hl, a, cap, rfl, h1, h2, h3⟩ := hs
  go_enter Tryz.func49, Tryz.ntmps49
  go_wp2
  go_loopw [3] (fun c wr => ∃ m : Nat, c = .int .i64 ((m : Int) + 1) ∧ m ≤ l.length ∧ Below w.heap.size w wr ∧ ∀ j (hj : j < m) (hl : j + 1 < l.length), riseE (l[j]'(by omega)) l[j + 1] = true) (fun c _ => l.length + 1 - (intOf c).toNat)
  case atStart => exact ⟨0, by simp, by omega, Below.refl _ _, fun j hj => absurd hj (by omega)⟩
  case round =>
    obtain ⟨m, rfl, hkl, hb, hyes⟩ := hrel
    have HY : Hid (∀ j (hj : j < m) (hl : j + 1 < l.length), riseE (l[j]'(by omega)) l[j + 1] = true) := hyes
    clear hyes
    by_cases hlt : m + 1 < l.length
    · rcases h3 with ⟨-, rfl, -⟩ | ⟨b, off, rfl, hbk, hc⟩
      · simp at hlt
      · have c0 := (hb.cell (p := ⟨b, off + m * 8 + 0, none⟩) hbk).trans (hc m (by omega) 0 (by omega))
        have d0 := (hb.cell (p := ⟨b, off + (m + 1) * 8 + 0, none⟩) hbk).trans (hc (m + 1) hlt 0 (by omega))
        simp only [encE, List.getElem?_cons_zero, Nat.add_zero] at c0 d0
        clear hc
        have hi1 : (m : Int) + 1 < (l.length : Int) := by omega
        have hi0 : (m : Int) < (l.length : Int) := by omega
        have hw0 : IntKind.i64.wrap (m : Int) = (m : Int) := by rw [IntKind.wrap_i64]; omega
        have hw1 : IntKind.i64.wrap ((m : Int) + 1) = (m : Int) + 1 := by rw [IntKind.wrap_i64]; omega
        have hbr : b < wr.heap.size := bsize hb hbk
        have inst := Grown.isThere wr
        have g0 := fun g => Grown.cell hbr c0 g
        have g1 := fun g => Grown.cell hbr d0 g
        have HB : Hid (∀ W, Below wr.heap.size wr W → Below w.heap.size w W) := fun W h => bstep hb h
        clear c0 d0 hb
        cases hq : riseE l[m] l[m + 1]
        · have hq1 : Op.bytesLess l[m].kv.key.toList l[m + 1].kv.key.toList = false := hq
          have HQ : Hid (riseE l[m] l[m + 1] = false) := hq
          clear hq
          go_wp2_with fail
          refine wp_region_grown (by kernel_rfl) (by kernel_rfl) ?_
          repeat (first | go_big_quiet_skip | (go_big_quiet_want; go_big_quiet_op; first | go_big_quiet_on | (apply Exists.intro; refine ⟨fun _ => ?_, ?_⟩; (· (fail)); go_big_quiet_on)))
          refine wpQuiet_nil ?_
          rintro _ ⟨⟨w1, hb1⟩, rfl⟩
          go_wp2_with fail
          go_ret
          exact ⟨ret_bool (risesB_not riseE l m hlt HQ.out).symm, HB.out _ hb1⟩
        · have hq1 : Op.bytesLess l[m].kv.key.toList l[m + 1].kv.key.toList = true := hq
          have HQ : Hid (riseE l[m] l[m + 1] = true) := hq
          clear hq
          go_wp2_with fail
          refine wp_region_grown (by kernel_rfl) (by kernel_rfl) ?_
          repeat (first | go_big_quiet_skip | (go_big_quiet_want; go_big_quiet_op; first | go_big_quiet_on | (apply Exists.intro; refine ⟨fun _ => ?_, ?_⟩; (· (fail)); go_big_quiet_on)))
          refine wpQuiet_nil ?_
          rintro _ ⟨⟨w1, hb1⟩, rfl⟩
          go_wp2_with fail
          exact ⟨⟨m + 1, by go_num, by omega, HB.out _ hb1, fun j hj hl => by
            by_cases e : j = m
            · subst e; exact HQ.out
            · exact HY.out j (by omega) hl⟩, by simp [intOf]; omega⟩
    · have hge : ¬ (m : Int) + 1 < (l.length : Int) := by omega
      go_wp2_with fail
      go_ret
      exact ⟨ret_bool ((risesB_iff riseE l).2 fun i hi => HY.out i (by omega) hi).symm, hb⟩

theorem egS : ∀ args w, (callFunc 45 args).run Tryz.prog w = .ok (.enter 45 args) w := enters_of Tryz.func45 (by kernel_rfl) rfl

set_option maxHeartbeats 1000000 in
theorem wrongEntry_pred (e : Ent) (now : Int) (es : Value) (b : Nat) (w : World) (hl : Lists w e.ps e.is e.ss e.kv.x) (hn : w.heap[b]? = some (stoO now es)) :
    Calls Tryz.prog 45 #[valE e, .pointer (some ⟨b, 0, none⟩)] w fun r w' => r = .returned (.bool (wrongK now e.kv)) ∧ Below w.heap.size w w' := by
  have hc := fun W (hb : Below w.heap.size w W) => entryMayBe_any e now W (hl.below hb)
  obtain ⟨⟨key, ⟨kind, text, count, pairs, items, scores⟩, til⟩, pa, pc, ia, ic, sa, sc⟩ := e
  simp only at *
  clear hl
  generalize wrongK now ⟨key, ⟨kind, text, count, pairs, items, scores⟩, til⟩ = F at *
  have HC : Hid (∀ W, Below w.heap.size w W → Calls Tryz.prog 46 #[entV key kind text count (.slice pa pairs.length pc) (.slice ia items.length ic) (.slice sa scores.length sc) til, .int .i64 now] W fun e w' => e = .returned (.bool (!F)) ∧ Below W.heap.size W w') := hc
  clear hc
  obtain ⟨q0, f0⟩ := cellsB hn
  have hlt := lt_at hn
  go_enter Tryz.func45, Tryz.ntmps45
  go_wp2_with fail
  refine (HC.out _ (balloc _ _)).mono ?_
  rintro e w1 ⟨rfl, hb1⟩
  have hB1 := bstep (balloc _ _) hb1
  clear hb1 HC
  go_wp2_with fail
  go_ret
  exact ⟨ret_bool (by simp), hB1⟩

theorem fault_store {s : Sto} : s.fault = if s.badB = true then 13 else 0 := rfl
set_option maxHeartbeats 2000000 in
theorem storeCheck_any (v : Value) (s : Sto) (w : World) (h : RepsSt w v s) :
    Calls Tryz.prog 23 #[v] w fun e w' => e = .returned (.int .i64 s.fault) ∧ Below w.heap.size w w' := by
  obtain ⟨es, E, rfl, hrow, hls, hE⟩ := h
  obtain ⟨now, L⟩ := s
  simp only at hE ⊢
  subst hE
  have hbad : Sto.badB ⟨now, E.map (·.kv)⟩ = (!isTimeB now || decide (12 < E.length) || anyB (fun e => wrongK now e.kv) E || !risesB riseE E) := by
    have h1 : risesB riseE E = risesB ltK (E.map (·.kv)) := rises_map (fun e : Ent => e.kv) ltK E
    rw [h1, Sto.badB]
    simp only [List.length_map]
    congr 2
    unfold anyB
    rw [List.any_map]; rfl
  obtain ⟨G, hG⟩ : ∃ G, G = Sto.fault ⟨now, E.map (·.kv)⟩ := ⟨_, rfl⟩
  rw [← hG]
  rw [fault_store, hbad] at hG
  clear hbad
  have hb0 := balloc w (stoO now es)
  have n0 := alloc_at w (stoO now es)
  have hct := fun W (hb : Below w.heap.size w W) (hn : W.heap[w.heap.size]? = some (stoO now es)) => containsFuncE 45 #[.pointer (some ⟨w.heap.size, 0, none⟩)] (fun e => wrongK now e.kv) es E egS W (hrow.below hb) (fun e he W' hW' => wrongEntry_pred e now es w.heap.size W' ((hls e he).below (bstep hb hW')) ((hW'.block _ (lt_at hn)).trans hn))
  have hkr := fun W (hb : Below w.heap.size w W) => keysRise_any es E W (hrow.below hb)
  have hlen := hrow.1
  obtain ⟨-, ea, ec, rfl, -⟩ := hrow
  have hti := fun W => isTimeS_any now W
  generalize isTimeB now = T at *
  generalize anyB (fun e : Ent => wrongK now e.kv) E = A at *
  generalize risesB riseE E = R at *
  have HT : Hid (∀ W, Calls Tryz.prog 47 #[.int .i64 now] W fun e w' => e = .returned (.bool T) ∧ W = w') := hti
  have HCT : Hid (∀ W, Below w.heap.size w W → W.heap[w.heap.size]? = some (stoO now (.slice ea E.length ec)) → Calls Tryz.prog 48 #[.slice ea E.length ec, .func (.func 45) #[] #[.pointer (some ⟨w.heap.size, 0, none⟩)]] W fun e w' => e = .returned (.bool A) ∧ Below W.heap.size W w') := hct
  have HKR : Hid (∀ W, Below w.heap.size w W → Calls Tryz.prog 49 #[.slice ea E.length ec] W fun e w' => e = .returned (.bool R) ∧ Below W.heap.size W w') := hkr
  have N0 : Hid (Below w.heap.size w (w.alloc (stoO now (.slice ea E.length ec))) ∧ (w.alloc (stoO now (.slice ea E.length ec))).heap[w.heap.size]? = some (stoO now (.slice ea E.length ec))) := ⟨hb0, n0⟩
  generalize E.length = n at *
  have HG : Hid (G = if (!T || decide (12 < n) || A || !R) = true then 13 else 0) := hG
  clear hti hct hkr hb0 n0 hls hG
  cases T
  · go_enter Tryz.func23, Tryz.ntmps23
    go_wp2_with (go_at_call 47; refine (HT.out _).mono ?_; rintro e w3 ⟨rfl, rfl⟩)
    go_ret
    exact ⟨ret_int (by rw [HG.out]; simp), N0.out.1⟩
  · by_cases h12 : 12 < n
    · have HH : Hid (12 < n) := h12
      have h12i : (12 : Int) < (n : Int) := by omega
      go_enter Tryz.func23, Tryz.ntmps23
      go_wp2_with (go_at_call 47; refine (HT.out _).mono ?_; rintro e w3 ⟨rfl, rfl⟩)
      go_ret
      exact ⟨ret_int (by rw [HG.out]; simp [HH.out]), N0.out.1⟩
    · have H12 : Hid (decide (12 < n) = false) := by show decide (12 < n) = false; simpa using h12
      have h12i : ¬ (12 : Int) < (n : Int) := by omega
      go_enter Tryz.func23, Tryz.ntmps23
      go_wp2_with (go_at_call 47; refine (HT.out _).mono ?_; rintro e w3 ⟨rfl, rfl⟩)
      refine (HCT.out _ N0.out.1 N0.out.2).mono ?_
      rintro e w1 ⟨rfl, hb1⟩
      have n1 := (hb1.block _ (lt_at N0.out.2)).trans N0.out.2
      have hB1 := bstep N0.out.1 hb1
      obtain ⟨q0, f0⟩ := cellsB n1
      clear hb1 n1 HT HCT N0
      cases A
      · go_wp2_with fail
        refine (HKR.out _ hB1).mono ?_
        rintro e w2 ⟨rfl, hb2⟩
        have hB2 := bstep hB1 hb2
        clear hb2 hB1 HKR
        cases R
        · go_wp2_with fail
          go_ret
          exact ⟨ret_int (by rw [HG.out]; simp), hB2⟩
        · go_wp2_with fail
          go_ret
          exact ⟨ret_int (by rw [HG.out, H12.out]; rfl), hB2⟩
      · go_wp2_with fail
        go_ret
        exact ⟨ret_int (by rw [HG.out]; simp), hB1⟩
end Go.Proofs.YtfnephnecighaaaGreat

/- Why a command can't be tried at all: store.refusal. -/
namespace Go.Proofs.YtfnephnecighaaaGreat
open Go.RowKit
set_option linter.unusedVariables false
set_option maxRecDepth 100000

def refS (s : Sto) (time : Int) (c : Cmd) : Int := if s.fault ≠ 0 then s.fault else if isTimeB time = false then 2 else c.fault
abbrev cmdO0 (k : Int) (key fld txt : ByteArray) (n : Int) : Obj := .cells #[.int .i64 k, .string key, .string fld, .string txt, .int .i64 n] 28
set_option maxHeartbeats 2000000 in
theorem refusalS_any (v : Value) (s : Sto) (time : Int) (c : Cmd) (w : World) (h : RepsSt w v s) :
    Calls Tryz.prog 38 #[v, .int .i64 time, c.v] w fun e w' => e = .returned (.int .i64 (refS s time c)) ∧ Below w.heap.size w w' := by
  obtain ⟨G, hG⟩ : ∃ G, G = refS s time c := ⟨_, rfl⟩
  rw [← hG]
  have HG : Hid (G = if s.fault ≠ 0 then s.fault else if isTimeB time = false then 2 else c.fault) := hG
  have hc := fun W (hb : Below w.heap.size w W) => storeCheck_any v s W (h.below hb)
  obtain ⟨es, E, rfl, hrow, -, -⟩ := h
  obtain ⟨-, ea, ec, rfl, -⟩ := hrow
  obtain ⟨k, key, fld, txt, n⟩ := c
  obtain ⟨now, L⟩ := s
  have hk := fun W => checkCommand_any k key fld txt n W
  have ht := fun W => isTimeS_any time W
  have hcf : Cmd.fault ⟨k, key, fld, txt, n⟩ = cmdFault k key fld txt n := rfl
  rw [hcf] at HG
  simp only at hc
  generalize Sto.fault ⟨now, L⟩ = F at *
  generalize cmdFault k key fld txt n = X at *
  generalize isTimeB time = T at *
  have HC : Hid (∀ W, Below w.heap.size w W → Calls Tryz.prog 23 #[stoV now (.slice ea E.length ec)] W fun e w' => e = .returned (.int .i64 F) ∧ Below W.heap.size W w') := hc
  have HK : Hid (∀ W, Calls Tryz.prog 54 #[cmdV k key fld txt n] W fun e w' => e = .returned (.int .i64 X) ∧ Below W.heap.size W w') := hk
  have HT : Hid (∀ W, Calls Tryz.prog 47 #[.int .i64 time] W fun e w' => e = .returned (.bool T) ∧ W = w') := ht
  have hB0 : Below w.heap.size w ((w.alloc (stoO now (.slice ea E.length ec))).alloc (cmdO0 k key fld txt n)) := (balloc _ _).alloc (by simp) _
  have n1 : ((w.alloc (stoO now (.slice ea E.length ec))).alloc (cmdO0 k key fld txt n)).heap[w.heap.size + 1]? = some (cmdO0 k key fld txt n) := by
    show ((_ : Array Obj).push _)[_]? = _
    rw [Array.getElem?_push, if_pos (by simp)]
  clear hG hc hk ht hcf
  by_cases hF : F = 0
  · subst hF
    cases T
    · go_enter Tryz.func38, Tryz.ntmps38
      go_wp2_with fail
      refine (HC.out _ hB0).mono ?_
      rintro e w1 ⟨rfl, hb1⟩
      have hB1 := bstep hB0 hb1
      clear hb1 hB0 n1 HC HK
      go_wp2_with (go_at_call 47; refine (HT.out _).mono ?_; rintro e w3 ⟨rfl, rfl⟩)
      go_ret
      exact ⟨ret_int (by rw [HG.out]; simp), hB1⟩
    · go_enter Tryz.func38, Tryz.ntmps38
      go_wp2_with fail
      refine (HC.out _ hB0).mono ?_
      rintro e w1 ⟨rfl, hb1⟩
      have n2 := (hb1.block _ (lt_at n1)).trans n1
      have hB1 := bstep hB0 hb1
      obtain ⟨q0, f0⟩ := cellsB n2
      clear hb1 hB0 n1 n2 HC
      go_wp2_with (go_at_call 47; refine (HT.out _).mono ?_; rintro e w3 ⟨rfl, rfl⟩)
      refine (HK.out _).mono ?_
      rintro e w2 ⟨rfl, hb2⟩
      have hB2 := bstep hB1 hb2
      clear hb2 hB1 q0 f0
      go_wp2_with fail
      go_ret
      exact ⟨ret_int (by rw [HG.out]; simp), hB2⟩
  · have hF' : (F != 0) = true := by simpa using hF
    have HF : Hid (¬ F = 0) := hF
    clear hF
    go_enter Tryz.func38, Tryz.ntmps38
    go_wp2_with fail
    refine (HC.out _ hB0).mono ?_
    rintro e w1 ⟨rfl, hb1⟩
    have hB1 := bstep hB0 hb1
    clear hb1 hB0 n1 HC HK HT
    go_wp2_with fail
    go_ret
    exact ⟨ret_int (by rw [HG.out, if_pos HF.out]), hB1⟩
end Go.Proofs.YtfnephnecighaaaGreat
