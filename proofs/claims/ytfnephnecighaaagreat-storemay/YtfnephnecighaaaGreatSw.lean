/- Stores of one key, and what a change comes to: plain lists alone. -/
import Derived.Test.YtfnephnecighaaaGreatSv
namespace Go.Proofs.YtfnephnecighaaaGreat
open Go.RowKit
set_option linter.unusedVariables false

theorem nil_has (k : ByteArray) : hasK k [] = false ∧ atK k [] = 0 ∧ getK k [] = noKv := by
  have h : hasK k [] = false := rfl
  exact ⟨h, rfl, get_none h⟩
theorem one_has (k : ByteArray) (x : Val) (t : Int) : hasK k [⟨k, x, t⟩] = true ∧ atK k [⟨k, x, t⟩] = 0 ∧ getK k [⟨k, x, t⟩] = ⟨k, x, t⟩ := by
  have h0 : cmpS k k = 0 := (cmpS_eq _ _).2 rfl
  have h1 : atK k [⟨k, x, t⟩] = 0 := by simp [atK, posOf, kCm, h0]
  have h2 : hasK k [⟨k, x, t⟩] = true := by
    unfold hasK hitB
    rw [h1]
    simp [kCm, h0]
  refine ⟨h2, h1, ?_⟩
  rw [getK, if_pos h2, h1]; rfl
theorem kept_nil (M : Int) : keptK M [] = [] := rfl
theorem kept_one {M : Int} {e : Kv} (h : goneB M e = false) : keptK M [e] = [e] := by simp [keptK, h]
theorem kept_gone {M : Int} {e : Kv} (h : goneB M e = true) : keptK M [e] = [] := by simp [keptK, h]
theorem gone_zero (M : Int) (k : ByteArray) (x : Val) : goneB M ⟨k, x, 0⟩ = false := by simp [goneB]
theorem gone_late {M t : Int} (k : ByteArray) (x : Val) (h : M < t) : goneB M ⟨k, x, t⟩ = false := by simp [goneB]; omega
theorem gone_past {M t : Int} (k : ByteArray) (x : Val) (h : t ≤ M) (h0 : t ≠ 0) : goneB M ⟨k, x, t⟩ = true := by simp [goneB]; omega

/-- What a change comes to, whatever was there. -/
theorem ans_change {now : Int} {c : Cmd} {L : List Kv} (hs : ofStoreB c.k = false) : ansK now c L = changeK c L := by
  have h : ¬ (c.k = 19 ∨ c.k = 20 ∨ c.k = 21 ∨ c.k = 22) := by simpa [ofStoreB] using hs
  unfold ansK
  rw [if_neg (by omega), if_neg (by omega), if_neg (by omega), if_neg (by omega)]
theorem change_fail {c : Cmd} {L : List Kv} (h : (doR (getK c.key L).x c).code ≠ 0) : changeK c L = (L, doR (getK c.key L).x c) := by rw [changeK, if_pos h]
theorem change_old {c : Cmd} {L : List Kv} {y : Val} {r : Rep} (hy : doV (getK c.key L).x c = y) (hr : doR (getK c.key L).x c = r) (h0 : r.code = 0) (hk : y.kind ≠ 0) (hh : hasK c.key L = true) : changeK c L = (L.set (atK c.key L) ⟨c.key, y, tilK c (getK c.key L).til⟩, r) := by
  have e : layK c L y = (L.set (atK c.key L) ⟨c.key, y, tilK c (getK c.key L).til⟩, 0) := by rw [layK, if_neg hk, if_pos hh]
  rw [changeK, hr, hy, if_neg (by simp [h0]), e]; simp
theorem change_new {c : Cmd} {L : List Kv} {y : Val} {r : Rep} (hy : doV (emptyVal 0) c = y) (hr : doR (emptyVal 0) c = r) (h0 : r.code = 0) (hk : y.kind ≠ 0) (hh : hasK c.key L = false) (hl : L.length < 12) : changeK c L = (layAt L (atK c.key L) ⟨c.key, y, 0⟩, r) := by
  have e : layK c L y = (layAt L (atK c.key L) ⟨c.key, y, 0⟩, 0) := by rw [layK, if_neg hk, hh, if_neg (by simp), if_neg (by omega)]
  rw [changeK, get_none hh, show noKv.x = emptyVal 0 from rfl, hr, hy, if_neg (by simp [h0]), e]; simp
theorem change_full {c : Cmd} {L : List Kv} {y : Val} {r : Rep} (hy : doV (emptyVal 0) c = y) (hr : doR (emptyVal 0) c = r) (h0 : r.code = 0) (hk : y.kind ≠ 0) (hh : hasK c.key L = false) (hl : 12 ≤ L.length) : changeK c L = (L, { code := 6 }) := by
  have e : layK c L y = (L, 6) := by rw [layK, if_neg hk, hh, if_neg (by simp), if_pos hl]
  rw [changeK, get_none hh, show noKv.x = emptyVal 0 from rfl, hr, hy, if_neg (by simp [h0]), e]; simp
theorem change_gone {c : Cmd} {L : List Kv} {r : Rep} (hy : (doV (getK c.key L).x c).kind = 0) (hr : doR (getK c.key L).x c = r) (h0 : r.code = 0) : changeK c L = (cutAt L (atK c.key L), r) := by
  have e : layK c L (doV (getK c.key L).x c) = (cutAt L (atK c.key L), 0) := by rw [layK, if_pos hy]
  rw [changeK, hr, if_neg (by simp [h0]), e]; simp
theorem applied {s : Sto} {t M : Int} {c : Cmd} {L : List Kv} {A : List Kv × Rep} (h : refS s t c = 0) (hM : max s.now t = M) (hL : keptK M s.es = L) (hA : ansK M c L = A) : applyS s t c = ⟨M, A.1⟩ ∧ applyR s t c = A.2 := by
  subst hM hL hA
  rw [applyS, applyR, if_neg (by simp [h]), if_neg (by simp [h])]
  exact ⟨rfl, rfl⟩
/- Stores of one key. -/
theorem ap_new {now t M : Int} {c : Cmd} {y : Val} {r : Rep} (h : refS ⟨now, []⟩ t c = 0) (hM : max now t = M) (hs : ofStoreB c.k = false) (hy : doV (emptyVal 0) c = y) (hr : doR (emptyVal 0) c = r) (h0 : r.code = 0) (hk : y.kind ≠ 0) : applyS ⟨now, []⟩ t c = ⟨M, [⟨c.key, y, 0⟩]⟩ ∧ applyR ⟨now, []⟩ t c = r :=
  applied h hM rfl ((ans_change hs).trans (change_new hy hr h0 hk (nil_has _).1 (by simp [keptK])))
theorem ap_old {now t M til : Int} {c : Cmd} {x y : Val} {r : Rep} (h : refS ⟨now, [⟨c.key, x, til⟩]⟩ t c = 0) (hM : max now t = M) (hg : goneB M ⟨c.key, x, til⟩ = false) (hs : ofStoreB c.k = false) (hy : doV x c = y) (hr : doR x c = r) (h0 : r.code = 0) (hk : y.kind ≠ 0) : applyS ⟨now, [⟨c.key, x, til⟩]⟩ t c = ⟨M, [⟨c.key, y, tilK c til⟩]⟩ ∧ applyR ⟨now, [⟨c.key, x, til⟩]⟩ t c = r := by
  obtain ⟨h1, h2, h3⟩ := one_has c.key x til
  have := change_old (c := c) (L := [⟨c.key, x, til⟩]) (y := y) (r := r) (by rw [h3]; exact hy) (by rw [h3]; exact hr) h0 hk h1
  rw [h2, h3] at this
  exact applied h hM (kept_one hg) ((ans_change hs).trans this)
theorem ap_expire {now t M til : Int} {c : Cmd} {x : Val} (h : refS ⟨now, [⟨c.key, x, til⟩]⟩ t c = 0) (hM : max now t = M) (hg : goneB M ⟨c.key, x, til⟩ = false) (hk : c.k = 20) (h1 : 1 ≤ c.n) (h2 : c.n ≤ 1073741824 - M) : applyS ⟨now, [⟨c.key, x, til⟩]⟩ t c = ⟨M, [⟨c.key, x, M + c.n⟩]⟩ ∧ applyR ⟨now, [⟨c.key, x, til⟩]⟩ t c = {} := by
  obtain ⟨q1, q2, q3⟩ := one_has c.key x til
  refine applied (A := ([⟨c.key, x, M + c.n⟩], {})) h hM (kept_one hg) ?_
  rw [ansK, if_neg (by omega), if_neg (by omega), if_pos hk, expireK, q1, q2, q3, if_neg (by simp), if_neg (by omega)]; simp
theorem ap_life {now t M til : Int} {c : Cmd} {x : Val} (h : refS ⟨now, [⟨c.key, x, til⟩]⟩ t c = 0) (hM : max now t = M) (hg : goneB M ⟨c.key, x, til⟩ = false) (hk : c.k = 21) : applyS ⟨now, [⟨c.key, x, til⟩]⟩ t c = ⟨M, [⟨c.key, x, til⟩]⟩ ∧ applyR ⟨now, [⟨c.key, x, til⟩]⟩ t c = if til = 0 then {} else { n := til - M } := by
  obtain ⟨q1, q2, q3⟩ := one_has c.key x til
  refine applied (A := ([⟨c.key, x, til⟩], if til = 0 then {} else { n := til - M })) h hM (kept_one hg) ?_
  rw [ansK, if_neg (by omega), if_neg (by omega), if_neg (by omega), if_pos hk, q1, q3]; rfl
theorem ap_keys {s : Sto} {t M : Int} {c : Cmd} (h : refS s t c = 0) (hM : max s.now t = M) (hk : c.k = 22) : applyS s t c = ⟨M, keptK M s.es⟩ ∧ applyR s t c = { list := (keptK M s.es).map (·.key) } := by
  refine applied (A := (keptK M s.es, { list := (keptK M s.es).map (·.key) })) h hM rfl ?_
  rw [ansK, if_pos hk]
end Go.Proofs.YtfnephnecighaaaGreat
