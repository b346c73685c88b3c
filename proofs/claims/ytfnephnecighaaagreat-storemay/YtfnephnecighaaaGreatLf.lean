/- How long a key is there: (*store.deed).life. -/
import Derived.Test.YtfnephnecighaaaGreatBg
namespace Go.Proofs.YtfnephnecighaaaGreat
open Go.RowKit
set_option linter.unusedVariables false
set_option maxRecDepth 100000

theorem Deed.entry {w wr : World} {now at' : Int} {c : Cmd} {found : Bool} {F : List Ent} {D : Nat} {es : Value} (h : Deed w now c at' found F D es wr) (p : Nat) (hp : p < F.length) : ∃ g cap S, es = .slice (some ⟨g, 0, none⟩) F.length cap ∧ w.heap.size ≤ g ∧ g ≠ D ∧ F.length ≤ cap ∧ cap ≤ maxLen ∧
    wr.heap[g]? = some (.cells (F.flatMap encE ++ S).toArray 57 (0, 0)) ∧ (F.flatMap encE ++ S).length = cap * 8 := by
  obtain ⟨g, cap, S, hs, hg, hb, hc, hm, hsz⟩ := own_open h.own (by omega)
  refine ⟨g, cap, S, hs, hg, ?_, hc, hm, hb, hsz⟩
  rintro rfl
  exact own_ne h.own h.deed (by decide) (by rw [hs]; rfl)

def lifeRep (now : Int) (found : Bool) (til : Int) : Rep := if found = false then { code := 5 } else if til = 0 then {} else { n := til - now }

set_option maxHeartbeats 4000000 in
theorem life_none (w wr : World) (now at' : Int) (c : Cmd) (F : List Ent) (D : Nat) (es : Value) (h : Deed w now c at' false F D es wr) :
    Calls Tryz.prog 82 #[.pointer (some ⟨D, 0, none⟩)] wr fun e w' => e = .returned (repV 5 ⟨#[]⟩ 0 (.slice none 0 0)) ∧ Below wr.heap.size wr w' := by
  have hbl := balloc wr (.cells #[.int .i64 0, .string ⟨#[]⟩, .int .i64 0, .slice none 0 0] 32)
  have nx := alloc_at wr (.cells #[.int .i64 0, .string ⟨#[]⟩, .int .i64 0, .slice none 0 0] 32)
  have nD := (hbl.block D (lt_at h.deed)).trans h.deed
  obtain ⟨k, key, fld, txt, n⟩ := c
  clear h
  go_enter Tryz.func82, Tryz.ntmps82
  go_upto_region 1 with fail
  generalize wr.alloc (.cells #[.int .i64 0, .string ⟨#[]⟩, .int .i64 0, .slice none 0 0] 32) = V at nx nD hbl ⊢
  generalize hb : wr.heap.size = b at nx hbl ⊢
  obtain ⟨q0, f0⟩ := cellsB nx
  obtain ⟨q1, f1⟩ := cellsB nD
  have l0 := lt_at nx
  have l1 := lt_at nD
  go_wp2_with fail
  refine bodyPost_ret (v := repV 5 ⟨#[]⟩ 0 (.slice none 0 0)) (by simp [results, Tryz.results82, go_sem, q0]) rfl ⟨rfl, ?_⟩
  exact (((hbl.setCell (Nat.le_refl _) _).setCell (Nat.le_refl _) _).setCell (Nat.le_refl _) _).setCell (Nat.le_refl _) _

set_option maxHeartbeats 4000000 in
theorem life_some (w wr : World) (now : Int) (p : Nat) (c : Cmd) (F : List Ent) (D : Nat) (es : Value) (h : Deed w now c (p : Int) true F D es wr) (hp : p < F.length) (hn0 : 0 ≤ now) (hn1 : now ≤ 1073741824) (ht0 : 0 ≤ F[p].kv.til) (ht1 : F[p].kv.til ≤ 1073741824) :
    Calls Tryz.prog 82 #[.pointer (some ⟨D, 0, none⟩)] wr fun e w' => e = .returned (repV 0 ⟨#[]⟩ (lifeRep now true F[p].kv.til).n (.slice none 0 0)) ∧ Below wr.heap.size wr w' := by
  obtain ⟨g, cap, S, hs, hgw, hgD, hc1, hc2, hrow, hsz⟩ := h.entry p hp
  obtain ⟨y, hy⟩ : ∃ y : Ent, F[p] = y := ⟨_, rfl⟩
  rw [hy] at ht0 ht1 ⊢
  subst hs
  have HR : Hid (∀ t, lifeRep now true t = if t = 0 then {} else { n := t - now }) := fun t => rfl
  have hbl := balloc wr (.cells #[.int .i64 0, .string ⟨#[]⟩, .int .i64 0, .slice none 0 0] 32)
  have nx := alloc_at wr (.cells #[.int .i64 0, .string ⟨#[]⟩, .int .i64 0, .slice none 0 0] 32)
  have nD := (hbl.block D (lt_at h.deed)).trans h.deed
  have nR := (hbl.block g (lt_at hrow)).trans hrow
  obtain ⟨-, -, -, -, -, -, -, r7, -⟩ := row_eight nR hp hy
  obtain ⟨k, key, fld, txt, n⟩ := c
  have hpi : (p : Int) < (F.length : Int) := by omega
  have hpi0 : (0 : Int) ≤ (p : Int) := by omega
  clear h hrow hsz
  go_enter Tryz.func82, Tryz.ntmps82
  go_upto_region 1 with fail
  generalize wr.alloc (.cells #[.int .i64 0, .string ⟨#[]⟩, .int .i64 0, .slice none 0 0] 32) = V at nx nD nR r7 hbl ⊢
  generalize hb : wr.heap.size = b at nx hbl ⊢
  obtain ⟨q0, f0⟩ := cellsB nx
  obtain ⟨q1, f1⟩ := cellsB nD
  go_wp2_with fail
  have inst := Grown.isThere V
  obtain ⟨x0, x1⟩ := Grown.cells nx
  obtain ⟨x2, x3⟩ := Grown.cells nD
  have g7 := fun gr => Grown.cell (lt_at nR) r7 gr
  have HN : Hid (∀ W, Below V.heap.size V W → W.heap[b]? = some (.cells #[.int .i64 0, .string ⟨#[]⟩, .int .i64 0, .slice none 0 0] 32 (0, 0)) ∧ W.heap[D]? = some (deedO now (.slice (some ⟨g, 0, none⟩) F.length cap) k key fld txt n (p : Int) true) ∧ Below b wr W) := fun W hW => ⟨(hW.block _ (lt_at nx)).trans nx, (hW.block _ (lt_at nD)).trans nD, hbl.trans (hW.mono (by have := hbl.size; omega))⟩
  clear nx nD nR r7 q0 f0 q1 f1 hbl
  refine wp_region_grown (by kernel_rfl) (by kernel_rfl) ?_
  repeat (first | go_big_quiet_skip | (go_big_quiet_want; go_big_quiet_op; first | go_big_quiet_on | (apply Exists.intro; refine ⟨fun _ => ?_, ?_⟩; (· (fail)); go_big_quiet_on)))
  refine wpQuiet_nil ?_
  rintro _ ⟨⟨w1, hb1⟩, rfl⟩
  obtain ⟨m0, m1, hB⟩ := HN.out _ hb1
  have HB : Hid _ := hB
  obtain ⟨q0, f0⟩ := cellsB m0
  obtain ⟨q1, f1⟩ := cellsB m1
  have l0 := lt_at m0
  have l1 := lt_at m1
  clear x0 x1 x2 x3 g7 inst m0 m1 hB
  by_cases ht : y.kv.til = 0
  · have HT : Hid (y.kv.til = 0) := ht
    go_wp2_with fail
    refine bodyPost_ret (v := repV 0 ⟨#[]⟩ 0 (.slice none 0 0)) (by simp [results, Tryz.results82, go_sem, q0]) rfl ⟨?_, ?_⟩
    · rw [HR.out, if_pos HT.out]
    · first | rw [hb] | skip
      (iterate 4 (refine Below.setCell ?_ (by simp) _))
      exact HB.out
  · have HT : Hid (¬ y.kv.til = 0) := ht
    have ht' : (y.kv.til == 0) = false := by simpa using ht
    clear ht
    go_wp2_with fail
    refine bodyPost_ret (v := repV 0 ⟨#[]⟩ (y.kv.til - now) (.slice none 0 0)) (by simp [results, Tryz.results82, go_sem, q0]) rfl ⟨?_, ?_⟩
    · rw [HR.out, if_neg HT.out]
    · first | rw [hb] | skip
      (iterate 4 (refine Below.setCell ?_ (by simp) _))
      exact HB.out
end Go.Proofs.YtfnephnecighaaaGreat
