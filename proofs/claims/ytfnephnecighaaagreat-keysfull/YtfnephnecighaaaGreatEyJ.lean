/- What a store has under a key, as the statements look it up: rostrumkeep.entry. What store.Apply comes to, all written out. -/
import Derived.Test.YtfnephnecighaaaGreatChJ
import Derived.Test.YtfnephnecighaaaGreatLnJ
namespace Go.Proofs.YtfnephnecighaaaGreat
open Go.RowKit
set_option linter.unusedVariables false
set_option maxRecDepth 100000

/-- What a call of Apply comes to: the store, the reply, the error. -/
def ActsS (s : Sto) (t : Int) (c : Cmd) (s' : Sto) (r : Rep) (f : Int) : Prop := ∀ (W : World) (es : Value), RepsSt W (stoV s.now es) s → Calls Tryz.prog 17 #[stoV s.now es, .int .i64 t, cmdV c.k c.key c.fld c.txt c.n] W fun e w' =>
  ∃ ea ec la lc, e = .returned (.tuple #[stoV s'.now (.slice ea s'.es.length ec), repV r.code r.text r.n (.slice la r.list.length lc), .int .i64 f]) ∧
    RepsStF W.heap.size w' (stoV s'.now (.slice ea s'.es.length ec)) s' ∧ RowAt 1 encI w' (.slice la r.list.length lc) r.list ∧ Below W.heap.size W w'
theorem RepsStF.shape {B : Nat} {w : World} {v : Value} {s : Sto} (h : RepsStF B w v s) : ∃ ea ec, v = stoV s.now (.slice ea s.es.length ec) := by
  obtain ⟨es, E, rfl, ⟨-, a, c, rfl, -⟩, -, -, h4⟩ := h
  exact ⟨a, c, by rw [← h4]; simp⟩
theorem acts_s (s : Sto) (t : Int) (c : Cmd) : ActsS s t c (applyS s t c) (applyR s t c) (refS s t c) := by
  intro W es h
  refine (apply_any s t c W _ h).mono ?_
  rintro e w' ⟨v', u, rfl, hs, ⟨ls, rfl, hr, -⟩, hb⟩
  obtain ⟨ea, ec, rfl⟩ := hs.shape
  obtain ⟨la, lc, rfl⟩ : ∃ la lc, ls = .slice la (applyR s t c).list.length lc := by obtain ⟨-, a, c, h, -⟩ := hr; exact ⟨a, c, h⟩
  exact ⟨ea, ec, la, lc, rfl, hs, hr, hb⟩
theorem acts_of {s : Sto} {t : Int} {c : Cmd} {s' : Sto} {r : Rep} (h0 : refS s t c = 0) (h : applyS s t c = s' ∧ applyR s t c = r) : ActsS s t c s' r 0 := by
  have := acts_s s t c
  rw [h.1, h.2, h0] at this
  exact this

def isKey (key : ByteArray) : Kv → Bool := fun e => e.key.toList == key.toList
def thereB (key : ByteArray) (L : List Kv) : Bool := L.any (isKey key)
def findE (key : ByteArray) (L : List Kv) : Kv := (L.find? (isKey key)).getD noKv
/-- An entry that lies in memory as e. -/
def EntR (w : World) (v : Value) (e : Kv) : Prop := ∃ ps is ss, v = entV e.key e.x.kind e.x.text e.x.count ps is ss e.til ∧ Lists w ps is ss e.x
theorem find_none {key : ByteArray} {L : List Kv} (h : ∀ j (hj : j < L.length), isKey key L[j] = false) : thereB key L = false ∧ findE key L = noKv := by
  have h1 : ∀ x ∈ L, isKey key x = false := fun x hx => by obtain ⟨i, hi, rfl⟩ := List.getElem_of_mem hx; exact h i hi
  refine ⟨List.any_eq_false.2 fun x hx => by simp [h1 x hx], ?_⟩
  rw [findE, List.find?_eq_none.2 fun x hx => by simp [h1 x hx]]; rfl
theorem find_some {key : ByteArray} {L : List Kv} {k : Nat} (hk : k < L.length) (h : ∀ j (hj : j < k), isKey key (L[j]'(by omega)) = false) (h1 : isKey key L[k] = true) : thereB key L = true ∧ findE key L = L[k] := by
  refine ⟨List.any_eq_true.2 ⟨_, List.getElem_mem hk, h1⟩, ?_⟩
  rw [findE, List.find?_eq_some_iff_getElem.2 ⟨h1, k, hk, rfl, fun j hj => by simp [h j hj]⟩]; rfl
theorem key_eq {k : ByteArray} {e : Kv} : isKey k e = true ↔ e.key = k := by
  rw [isKey, beq_iff_eq]
  exact ⟨bytes_ext, fun h => by rw [h]⟩
theorem find_has {L : List Kv} (hr : Rise L) (k : ByteArray) : thereB k L = hasK k L ∧ findE k L = getK k L := by
  cases h : hasK k L with
  | false =>
    have hn := (has_not hr).1 h
    have h1 : ∀ j (hj : j < L.length), isKey k L[j] = false := fun j hj => by
      rw [← Bool.not_eq_true, key_eq]; exact hn _ (List.getElem_mem hj)
    obtain ⟨a, b⟩ := find_none h1
    exact ⟨a, by rw [b, get_none h]⟩
  | true =>
    obtain ⟨hp, h1, h2⟩ := has_get h
    have h3 : ∀ j (hj : j < atK k L), isKey k (L[j]'(by omega)) = false := fun j hj => by
      rw [← Bool.not_eq_true, key_eq]
      intro he
      have h4 := ((kparts hr k).2 j (by omega)).2 hj
      rw [kCm, he, (cmpS_eq _ _).2 rfl] at h4
      omega
    obtain ⟨a, b⟩ := find_some hp h3 (key_eq.2 h1)
    exact ⟨a, by rw [b, h2]⟩

set_option maxHeartbeats 4000000 in
theorem entry_any (v : Value) (s : Sto) (key : ByteArray) (w : World) (h : RepsSt w v s) :
    Calls Tryz.prog 24 #[v, .string key] w fun e w' => ∃ ev, e = .returned (.tuple #[ev, .bool (thereB key s.es)]) ∧ EntR w' ev (findE key s.es) ∧ Below w.heap.size w w' := by
  obtain ⟨es, E, rfl, hrow, hls, hE⟩ := h
  obtain ⟨hl, ea, ec, rfl, k1, k2, k3⟩ := hrow
  obtain ⟨TH, hTH⟩ : ∃ t, thereB key s.es = t := ⟨_, rfl⟩
  obtain ⟨FE, hFE⟩ : ∃ t, findE key s.es = t := ⟨_, rfl⟩
  rw [hTH, hFE]
  have HTF : Hid (thereB key (E.map (·.kv)) = TH ∧ findE key (E.map (·.kv)) = FE) := ⟨by rw [hE]; exact hTH, by rw [hE]; exact hFE⟩
  have HLS := hideE hls
  obtain ⟨n0, n1⟩ := two_new w (stoO s.now (.slice ea E.length ec)) (entO ⟨#[]⟩ 0 ⟨#[]⟩ 0 (.slice none 0 0) (.slice none 0 0) (.slice none 0 0) 0)
  have hB0 : Below w.heap.size w ((w.alloc (stoO s.now (.slice ea E.length ec))).alloc (entO ⟨#[]⟩ 0 ⟨#[]⟩ 0 (.slice none 0 0) (.slice none 0 0) (.slice none 0 0) 0)) := (balloc _ _).alloc (by simp) _
  generalize s.now = now at *
  clear hTH hFE hE hls
  go_enter Tryz.func24, Tryz.ntmps24
  go_upto_region 1 with fail
  generalize (w.alloc (stoO now (.slice ea E.length ec))).alloc (entO ⟨#[]⟩ 0 ⟨#[]⟩ 0 (.slice none 0 0) (.slice none 0 0) (.slice none 0 0) 0) = V at n0 n1 hB0 ⊢
  have hVB : ∀ {b : Nat}, b < w.heap.size → V.heap[b]? = w.heap[b]? := fun hb => hB0.block _ hb
  have HV : Hid (V.heap[w.heap.size]? = some (stoO now (.slice ea E.length ec)) ∧ V.heap[w.heap.size + 1]? = some (entO ⟨#[]⟩ 0 ⟨#[]⟩ 0 (.slice none 0 0) (.slice none 0 0) (.slice none 0 0) 0) ∧ Below w.heap.size w V) := ⟨n0, n1, hB0⟩
  obtain ⟨c0, f0⟩ := cellsB n0
  obtain ⟨c1, f1⟩ := cellsB n1
  have l0 := lt_at n0
  have l1 := lt_at n1
  clear n0 n1 hB0 hVB
  go_wp2_with fail
  go_loopw [6] (fun c wr => wr = V ∧ ∃ k : Nat, k ≤ E.length ∧ c = .int .i64 k ∧ ∀ j (hj : j < k) (h' : j < E.length), isKey key E[j].kv = false) (fun c _ => E.length - (intOf c).toNat)
  case atStart => exact ⟨rfl, 0, Nat.zero_le _, rfl, fun j hj => absurd hj (Nat.not_lt_zero j)⟩
  case round =>
    obtain ⟨rfl, k, hk, rfl, hno⟩ := hrel
    have HNO := hideE hno
    clear hno
    by_cases hlt : k < E.length
    · rcases k3 with ⟨-, rfl, -⟩ | ⟨b, off, rfl, hbk, hc⟩
      · simp at hlt
      · have hcw : ∀ i (h : i < E.length) (c : Nat), c < 8 → wr.cell? ⟨b, off + i * 8 + c, none⟩ = (encE E[i])[c]? := fun i hi c hk => (HV.out.2.2.cell (p := ⟨b, off + i * 8 + c, none⟩) hbk).trans (hc i hi c hk)
        obtain ⟨e0, e1, e2, e3, e4, e5, e6, e7⟩ := eightE hcw k hlt
        have hki : (k : Int) < (E.length : Int) := by omega
        have hb1 : ¬ b = w.heap.size + 1 := by omega
        have hlk := HLS.out E[k] (List.getElem_mem hlt)
        have HTK : Hid (∀ hk : isKey key E[k].kv = true, TH = true ∧ FE = E[k].kv) := fun hk => by
          have := find_some (key := key) (L := E.map (·.kv)) (k := k) (by simpa using hlt) (fun j hj => by simpa using HNO.out j hj (by omega)) (by simpa using hk)
          simp only [List.getElem_map] at this
          exact ⟨HTF.out.1.symm.trans this.1, HTF.out.2.symm.trans this.2⟩
        obtain ⟨x, hx⟩ : ∃ x : Ent, E[k] = x := ⟨_, rfl⟩
        have HX := hideE hx
        rw [hx] at e0 e1 e2 e3 e4 e5 e6 e7 hlk HTK
        clear hx hc hcw
        obtain ⟨⟨ekey, ⟨kind, text, count, pairs, items, scores⟩, til⟩, pa, pc, ia, ic, sa, sc⟩ := x
        simp only [Ent.ps, Ent.is, Ent.ss] at e0 e1 e2 e3 e4 e5 e6 e7 hlk HTK
        have HLW := hideE hlk
        by_cases hkk : isKey key ⟨ekey, ⟨kind, text, count, pairs, items, scores⟩, til⟩ = true
        · have hkb : (ekey.toList == key.toList) = true := hkk
          obtain ⟨h1, h2⟩ := HTK.out hkk
          subst h1 h2
          have HB2 := hideE HV.out.2.2
          clear hkk HTK hlk
          go_wp2_with fail
          refine bodyPost_ret (v := .tuple #[entV ekey kind text count (.slice pa pairs.length pc) (.slice ia items.length ic) (.slice sa scores.length sc) til, .bool true]) (by simp [results, Tryz.results24, go_sem, c1]) rfl ⟨_, rfl, ⟨_, _, _, rfl, HLW.out.below ?_⟩, ?_⟩
          all_goals
            (iterate 8 (refine Below.setCell ?_ (by simp) _))
            exact HB2.out
        · have hkb : (ekey.toList == key.toList) = false := (show isKey key ⟨ekey, ⟨kind, text, count, pairs, items, scores⟩, til⟩ = false by simpa using hkk)
          have HKK := hideE hkk
          clear hkk HTK hlk
          go_wp2_with fail
          go_roundw
          case rel => exact ⟨by first | trivial | rfl, k + 1, by omega, by go_num, fun j hj h' => by
            by_cases e : j = k
            · subst e; rw [HX.out]; simpa using HKK.out
            · exact HNO.out j (by omega) h'⟩
          case measure => simp [intOf]; omega
    · have hki : ¬ (k : Int) < (E.length : Int) := by omega
      obtain rfl : k = E.length := by omega
      have h0 := find_none (key := key) (L := E.map (·.kv)) (fun j hj => by simpa using HNO.out j (by simpa using hj) (by simpa using hj))
      have hh := HTF.out
      rw [h0.1, h0.2] at hh
      obtain ⟨rfl, rfl⟩ := hh
      have HB2 := hideE HV.out.2.2
      clear h0
      go_wp2_with fail
      refine bodyPost_ret (v := .tuple #[entV ⟨#[]⟩ 0 ⟨#[]⟩ 0 (.slice none 0 0) (.slice none 0 0) (.slice none 0 0) 0, .bool false]) (by simp [results, Tryz.results24, go_sem, c1]) rfl ⟨_, rfl, ⟨_, _, _, rfl, Lists.empty _ 0⟩, ?_⟩
      (iterate 8 (refine Below.setCell ?_ (by simp) _))
      exact HB2.out
end Go.Proofs.YtfnephnecighaaaGreat

/- Stores of one-letter keys: what KeysFull's rounds leave (plain; by evaluation). -/
namespace Go.Proofs.YtfnephnecighaaaGreat
set_option linter.unusedVariables false
set_option maxRecDepth 100000

def kfB (i : Nat) : ByteArray := ⟨#[UInt8.ofNat (65 + i)]⟩
def kfC (i : Nat) : Cmd := ⟨11, kfB i, ⟨#[]⟩, ⟨#[120]⟩, 0⟩
def kfP : Cmd := ⟨1, ⟨#[65]⟩, ⟨#[]⟩, ⟨#[]⟩, 0⟩
def kfS : Nat → Sto
  | 0 => ⟨0, []⟩
  | i + 1 => applyS (kfS i) 0 (kfC i)
theorem kfS_len : ∀ i ≤ 24, (kfS i).es.length = min i 12 := by decide +kernel
theorem kfS_ref : ∀ i < 24, refS (kfS i) 0 (kfC i) = 0 := by decide +kernel
theorem kfS_code : ∀ i < 24, (applyR (kfS i) 0 (kfC i)).code = (if 12 ≤ i then 6 else 0) := by decide +kernel
theorem kfS_now : ∀ i ≤ 24, (kfS i).now = 0 := by decide +kernel
theorem kfP_ref : ∀ i ≤ 24, refS (kfS i) 0 kfP = 0 := by decide +kernel
theorem kfP_code : ∀ i ≤ 24, (applyR (kfS i) 0 kfP).code = 0 := by decide +kernel
theorem kfP_len : ∀ i ≤ 24, (applyS (kfS i) 0 kfP).es.length = max (min i 12) 1 ∧ (applyS (kfS i) 0 kfP).now = 0 := by decide +kernel
end Go.Proofs.YtfnephnecighaaaGreat

/- Small stores: one key, made, changed, run out: plain lists alone. -/
namespace Go.Proofs.YtfnephnecighaaaGreat
open Go.RowKit
set_option linter.unusedVariables false

theorem do_new {c : Cmd} {y : Val} {r : Rep} (hc : c.fault = 0) (hm : makesB c.k = true) (hp : performV (emptyVal (kindOfI c.k)) c = (y, r)) (h0 : r.code = 0) (hk : keptV y = y) : doV (emptyVal 0) c = y ∧ doR (emptyVal 0) c = r := by
  have hk2 : c.k = 1 ∨ c.k = 3 ∨ c.k = 4 ∨ c.k = 7 ∨ c.k = 8 ∨ c.k = 11 ∨ c.k = 14 := by simpa [makesB] using hm
  have hr := (show Well (emptyVal 0) from .inl rfl).ref hc (show ofStoreB c.k = false by simp [ofStoreB]; omega)
  have ha : answerV (emptyVal 0) c = (y, r) := by unfold answerV; rw [if_pos none_empty, if_pos hm, hp]
  refine ⟨?_, ?_⟩
  · unfold doV; rw [if_neg (by omega), ha, if_neg (by simp [h0])]; exact hk
  · unfold doR; rw [if_neg (by omega), ha, if_neg (by simp [h0])]
theorem do_fit {x : Val} {c : Cmd} {y : Val} {r : Rep} (hx : OkVal x) (hc : c.fault = 0) (hs : ofStoreB c.k = false) (hf : fitsB x.kind c.k = true) (hp : performV x c = (y, r)) (h0 : r.code = 0) (hk : keptV y = y) : doV x c = y ∧ doR x c = r := by
  have hr := (show Well x from .inr hx).ref hc hs
  have ha : answerV x c = (y, r) := by unfold answerV; rw [hx.not_none, if_neg (by simp), if_pos hf, hp]
  refine ⟨?_, ?_⟩
  · unfold doV; rw [if_neg (by omega), ha, if_neg (by simp [h0])]; exact hk
  · unfold doR; rw [if_neg (by omega), ha, if_neg (by simp [h0])]

abbrev keyA : ByteArray := ⟨#[97]⟩
abbrev addA (n : Int) : Cmd := ⟨3, keyA, ⟨#[]⟩, ⟨#[]⟩, n⟩
abbrev expA (n : Int) : Cmd := ⟨20, keyA, ⟨#[]⟩, ⟨#[]⟩, n⟩
abbrev lifeA : Cmd := ⟨21, keyA, ⟨#[]⟩, ⟨#[]⟩, 0⟩
abbrev keysC : Cmd := ⟨22, ⟨#[]⟩, ⟨#[]⟩, ⟨#[]⟩, 0⟩
abbrev putA (t : ByteArray) : Cmd := ⟨1, keyA, ⟨#[]⟩, t, 0⟩
abbrev pushA (t : ByteArray) : Cmd := ⟨7, keyA, ⟨#[]⟩, t, 0⟩
abbrev cntV (n : Int) : Val := ⟨2, ⟨#[]⟩, n, [], [], []⟩
abbrev txtV (t : ByteArray) : Val := ⟨1, t, 0, [], [], []⟩
abbrev lisV (l : List ByteArray) : Val := ⟨4, ⟨#[]⟩, 0, [], l, []⟩
theorem sizeA : keyA.size = 1 := by decide +kernel
theorem fault_addA {n : Int} (h : isCountB n = true) : (addA n).fault = 0 := by simp [Cmd.fault, cmdFault, foreignB, partsB, hasKeyB, hasFieldB, hasTextB, hasNumberB, isNameB, isTextB, sizeA, show (⟨#[]⟩ : ByteArray).size = 0 from rfl, h]
theorem fault_expA {n : Int} (h : isCountB n = true) : (expA n).fault = 0 := by simp [Cmd.fault, cmdFault, foreignB, partsB, hasKeyB, hasFieldB, hasTextB, hasNumberB, isNameB, isTextB, sizeA, show (⟨#[]⟩ : ByteArray).size = 0 from rfl, h]
theorem fault_putA {t : ByteArray} (h : t.size ≤ 20) : (putA t).fault = 0 := by simp [Cmd.fault, cmdFault, foreignB, partsB, hasKeyB, hasFieldB, hasTextB, hasNumberB, isNameB, isTextB, isCountB, sizeA, h]
theorem fault_pushA {t : ByteArray} (h : t.size ≤ 20) : (pushA t).fault = 0 := by simp [Cmd.fault, cmdFault, foreignB, partsB, hasKeyB, hasFieldB, hasTextB, hasNumberB, isNameB, isTextB, isCountB, sizeA, h]
theorem fault_lifeA : lifeA.fault = 0 := by decide +kernel
theorem fault_keysC : keysC.fault = 0 := by decide +kernel
theorem kept_cnt (n : Int) : keptV (cntV n) = cntV n := kept_small (by simp [holdsB])
theorem kept_txt (t : ByteArray) : keptV (txtV t) = txtV t := kept_small (by simp [holdsB])
theorem do_addA_new {n : Int} (h : isCountB n = true) : doV (emptyVal 0) (addA n) = cntV n ∧ doR (emptyVal 0) (addA n) = { n := n } :=
  do_new (fault_addA h) rfl (by simp [performV, kindOfI, addV, emptyVal, h]) rfl (kept_cnt n)
theorem do_addA_old {m n : Int} (hm : isCountB m = true) (hn : isCountB n = true) (h : isCountB (m + n) = true) : doV (cntV m) (addA n) = cntV (m + n) ∧ doR (cntV m) (addA n) = { n := m + n } :=
  do_fit (ok_count hm) (fault_addA hn) rfl rfl (by simp [performV, addV, h]) rfl (kept_cnt _)
theorem do_putA {x : Val} (hx : OkVal x) {t : ByteArray} (h : t.size ≤ 20) : doV x (putA t) = txtV t ∧ doR x (putA t) = {} :=
  do_fit hx (fault_putA h) rfl (by simp [fitsB]) (by simp [performV, emptyVal]) rfl (kept_txt _)
theorem do_pushA_new {t : ByteArray} (h : t.size ≤ 20) : doV (emptyVal 0) (pushA t) = lisV [t] ∧ doR (emptyVal 0) (pushA t) = { n := 1 } :=
  do_new (fault_pushA h) rfl (by simp [performV, kindOfI, listV, emptyVal, layAt, Val.size]) rfl (by simp [keptV, Val.size])
theorem count1 : isCountB 1 = true := by decide
theorem count2 : isCountB 2 = true := by decide
theorem countK {k : Int} (h1 : 1 ≤ k) (h2 : k ≤ 90) : isCountB k = true := by simp [isCountB]; omega
theorem sto_keyA {now til : Int} {x : Val} (h0 : 0 ≤ now) (h1 : now ≤ 1073741824) (hx : OkVal x) (ht : til = 0 ∨ (now < til ∧ til ≤ 1073741824)) : OkSto ⟨now, [⟨keyA, x, til⟩]⟩ :=
  ⟨h0, h1, by simp, fun e he => by simp at he; subst he; exact wrong_iff.2 ⟨by simp [isNameB, sizeA], hx, ht⟩, by simp [Rise]⟩
theorem sto_nil {now : Int} (h0 : 0 ≤ now) (h1 : now ≤ 1073741824) : OkSto ⟨now, []⟩ := ⟨h0, h1, by simp, fun e he => by simp at he, List.Pairwise.nil⟩
end Go.Proofs.YtfnephnecighaaaGreat
