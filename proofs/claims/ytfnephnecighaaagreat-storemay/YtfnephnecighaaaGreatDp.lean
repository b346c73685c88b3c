/- An entry that was found is dropped: (*store.deed).drop, remove. All keys: keys. -/
import Derived.Test.YtfnephnecighaaaGreatFi
namespace Go.Proofs.YtfnephnecighaaaGreat
open Go.RowKit
set_option linter.unusedVariables false
set_option maxRecDepth 100000

theorem grown_thru {W W2 W3 : World} {ob : Option Nat} (hW : Below W.heap.size W W2) (hg : W2.grownBy W3 ob) : W.grownBy W3 ob :=
  ⟨hg.os.trans hW.os, hg.tape.trans hW.tape, hg.output.trans hW.output, Nat.le_trans hW.size hg.size, fun b hl hne => (hg.block b (Nat.lt_of_lt_of_le hl hW.size) hne).trans (hW.block b hl)⟩
theorem drew_grown {W W2 : World} {ob : Option Nat} (hg : W.drew.grownBy W2 ob) : W.grownBy W2 ob := grown_undraw hg

set_option maxHeartbeats 4000000 in
theorem drop_any (w wr : World) (now : Int) (p : Nat) (c : Cmd) (found : Bool) (F : List Ent) (D : Nat) (es : Value) (h : Deed w now c (p : Int) found F D es wr) (hp : p < F.length) (hn : F.length ≤ 1048576) :
    Calls Tryz.prog 105 #[.pointer (some ⟨D, 0, none⟩)] wr fun e w' => e = .returned (.tuple #[]) ∧ ∃ r, Deed w now c (p : Int) found (cutAt F p) D r w' ∧ Kept D es.ownBlock wr w' := by
  obtain ⟨a1, e1, rfl⟩ := ownsRow_shape h.own
  have HDL : Hid (∀ W, Below wr.heap.size wr W → Calls Tryz.prog 144 #[.slice a1 F.length e1, .int .i64 (p : Int), .int .i64 ((p : Int) + 1)] W fun e w' => ∃ a2 m e2, e = .returned (.slice a2 m e2) ∧ (w'.ownsRow w.heap.size 57 8 (.slice a2 m e2) (F.length - 1) ((F.take p ++ F.drop (p + 1)).flatMap encE) ∧ wr.grownBy w' (Value.slice a1 F.length e1).ownBlock ∧ (Value.slice a2 m e2).ownBlock = (Value.slice a1 F.length e1).ownBlock)) := fun W hW =>
    (deleteE_any w.heap.size p _ F W (ownsRow_kept h.own hW) hp hn).mono fun e w' ⟨r, h1, h2, h3, h4⟩ => by
      obtain ⟨a2, e2, rfl⟩ := ownsRow_shape h2
      exact ⟨a2, _, e2, h1, h2, grown_thru hW h3, h4⟩
  have HD : Hid (Deed w now c (p : Int) found F D (.slice a1 F.length e1) wr) := h
  have hne := own_ne h.own h.deed (by decide)
  obtain ⟨q0, f0⟩ := cellsB h.deed
  have l0 := lt_at h.deed
  obtain ⟨k, key, fld, txt, n⟩ := c
  have hp1 : IntKind.i64.wrap ((p : Int) + 1) = (p : Int) + 1 := by rw [IntKind.wrap_i64]; omega
  have HP : Hid (p < F.length) := hp
  clear h hp
  go_enter Tryz.func105, Tryz.ntmps105
  go_region_with (first | (go_at_call 144; refine (HDL.out _ (by first | exact Below.refl _ _ | exact (Below.refl _ _).drew)).mono ?_; rintro e w2 ⟨a2, m, e2, rfl, hown, hg, hob⟩; obtain ⟨y1, y2⟩ := same_block (hg.block D l0 (fun h => hne h.symm)); have l2 := Nat.lt_of_lt_of_le l0 hg.size))
  all_goals
    have hfin := HD.out.dropped HP.out hown hg hob
    have hK := ((Kept.refl D (Value.slice a1 F.length e1).ownBlock wr).grown hg).cell (o := 1) (.slice a2 m e2)
    clear y1 y2
    go_wp2_with fail
    exact bodyPost_end (v := .tuple #[]) (by simp [results, Tryz.results105, go_sem]) rfl ⟨rfl, _, hfin, hK⟩

set_option maxHeartbeats 4000000 in
theorem remove_none (w wr : World) (now at' : Int) (c : Cmd) (F : List Ent) (D : Nat) (es : Value) (h : Deed w now c at' false F D es wr) :
    Calls Tryz.prog 80 #[.pointer (some ⟨D, 0, none⟩)] wr fun e w' => e = .returned (repV 0 ⟨#[]⟩ 0 (.slice none 0 0)) ∧ Below wr.heap.size wr w' := by
  have hbl := balloc wr (.cells #[.int .i64 0, .string ⟨#[]⟩, .int .i64 0, .slice none 0 0] 32)
  have nx := alloc_at wr (.cells #[.int .i64 0, .string ⟨#[]⟩, .int .i64 0, .slice none 0 0] 32)
  have nD := (hbl.block D (lt_at h.deed)).trans h.deed
  obtain ⟨k, key, fld, txt, n⟩ := c
  clear h
  go_enter Tryz.func80, Tryz.ntmps80
  go_upto_region 1 with fail
  generalize wr.alloc (.cells #[.int .i64 0, .string ⟨#[]⟩, .int .i64 0, .slice none 0 0] 32) = V at nx nD hbl ⊢
  generalize hb : wr.heap.size = b at nx hbl ⊢
  obtain ⟨q0, f0⟩ := cellsB nx
  obtain ⟨q1, f1⟩ := cellsB nD
  have l0 := lt_at nx
  have l1 := lt_at nD
  go_wp2_with fail
  refine bodyPost_ret (v := repV 0 ⟨#[]⟩ 0 (.slice none 0 0)) (by simp [results, Tryz.results80, go_sem, q0]) rfl ⟨rfl, ?_⟩
  first | rw [hb] | skip
  (iterate 4 (refine Below.setCell ?_ (by simp) _))
  exact hbl

set_option maxHeartbeats 4000000 in
theorem remove_some (w wr : World) (now : Int) (p : Nat) (c : Cmd) (F : List Ent) (D : Nat) (es : Value) (h : Deed w now c (p : Int) true F D es wr) (hp : p < F.length) (hn : F.length ≤ 1048576) :
    Calls Tryz.prog 80 #[.pointer (some ⟨D, 0, none⟩)] wr fun e w' => e = .returned (repV 0 ⟨#[]⟩ 1 (.slice none 0 0)) ∧ ∃ r, Deed w now c (p : Int) true (cutAt F p) D r w' ∧ Kept D es.ownBlock wr w' := by
  have hbl := balloc wr (.cells #[.int .i64 0, .string ⟨#[]⟩, .int .i64 0, .slice none 0 0] 32)
  have nx := alloc_at wr (.cells #[.int .i64 0, .string ⟨#[]⟩, .int .i64 0, .slice none 0 0] 32)
  have hd := h.mid hbl
  have hbw : w.heap.size ≤ wr.heap.size := h.below.size
  have hDR := drop_any w _ now p c true F D es hd hp hn
  obtain ⟨k, key, fld, txt, n⟩ := c
  clear h
  go_enter Tryz.func80, Tryz.ntmps80
  go_upto_region 1 with fail
  generalize wr.alloc (.cells #[.int .i64 0, .string ⟨#[]⟩, .int .i64 0, .slice none 0 0] 32) = V at nx hbl hd hDR ⊢
  generalize hb : wr.heap.size = b at nx hbl hbw ⊢
  obtain ⟨q1, f1⟩ := cellsB hd.deed
  have l1 := lt_at hd.deed
  have l0 := lt_at nx
  have hne := own_ne hd.own nx (by decide)
  have hbD : b ≠ D := by
    rintro rfl
    have := nx.symm.trans hd.deed
    simp at this
  have HDR : Hid (Calls Tryz.prog 105 #[.pointer (some ⟨D, 0, none⟩)] V fun e w' => e = .returned (.tuple #[]) ∧ ∃ r, Deed w now ⟨k, key, fld, txt, n⟩ (p : Int) true (cutAt F p) D r w' ∧ Kept D es.ownBlock V w') := hDR
  have HBL : Hid (Below wr.heap.size wr V) := by show Below _ _ _; first | exact hbl | (rw [hb]; exact hbl)
  clear hDR hd
  go_wp2_with fail
  refine HDR.out.mono ?_
  rintro e w2 ⟨rfl, r, hd2, hK⟩
  have nx2 := (hK.block b l0 hbD (fun e => hne e.symm)).trans nx
  obtain ⟨q0, f0⟩ := cellsB nx2
  have l2 := lt_at nx2
  have HX := hideE (hd2.reply (b := b) nx2 hbw (.int .i64 0) (.string ⟨#[]⟩) (.int .i64 1) (.slice none 0 0))
  have HKK := hideE ((hK.pre HBL.out).fresh4 (b := b) (by omega) (.int .i64 0) (.string ⟨#[]⟩) (.int .i64 1) (.slice none 0 0))
  clear q1 f1 nx nx2 hd2 hK
  go_wp2_with fail
  exact bodyPost_ret (v := repV 0 ⟨#[]⟩ 1 (.slice none 0 0)) (by simp [results, Tryz.results80, go_sem, q0]) rfl ⟨rfl, r, HX.out, HKK.out⟩

set_option maxHeartbeats 4000000 in
theorem keys_any (w w1 : World) (now at' : Int) (c : Cmd) (found : Bool) (F : List Ent) (D : Nat) (es : Value) (h : Deed w now c at' found F D es w1) (hn : F.length ≤ 1048576) :
    Calls Tryz.prog 79 #[.pointer (some ⟨D, 0, none⟩)] w1 fun e w' => ∃ r, e = .returned r ∧ w'.ownsRow w1.heap.size 9 1 r F.length ((F.map (·.kv.key)).flatMap encI) ∧ Below w1.heap.size w1 w' := by
  have hrow := RowAt.ofOwn lenE h.own (by omega)
  obtain ⟨hl, a, cap, rfl, h1, h2, h3⟩ := hrow
  obtain ⟨q0, f0⟩ := cellsB h.deed
  have l0 := lt_at h.deed
  obtain ⟨k, key, fld, txt, n⟩ := c
  clear h
  go_enter Tryz.func79, Tryz.ntmps79
  go_wp2_with fail
  clear q0 f0
  go_loopw [3, 12] (fun lv c wr => ∃ k : Nat, k ≤ F.length ∧ c = .int .i64 k ∧ wr.ownsRow w1.heap.size 9 1 lv k (((F.take k).map (·.kv.key)).flatMap encI) ∧ Below w1.heap.size w1 wr) (fun _ c _ => F.length - (intOf c).toNat)
  case atStart => exact ⟨0, Nat.zero_le _, rfl, World.ownsRow_nil _ _ _ _, Below.refl _ _⟩
  case round =>
    obtain ⟨k, hk, rfl, hown, hB⟩ := hrel
    by_cases hlt : k < F.length
    · rcases h3 with ⟨-, rfl, -⟩ | ⟨b, off, rfl, hbk, hc⟩
      · simp at hlt
      · have hcw : ∀ i (h : i < F.length) (c : Nat), c < 8 → wr.cell? ⟨b, off + i * 8 + c, none⟩ = (encE F[i])[c]? := fun i hi c hk => (hB.cell (p := ⟨b, off + i * 8 + c, none⟩) hbk).trans (hc i hi c hk)
        obtain ⟨c0, c1, c2, c3, c4, c5, c6, c7⟩ := eightE hcw k hlt
        have hsn := take_map_succ (·.kv.key) F k hlt
        clear hcw hc
        generalize F[k] = e at c0 c1 c2 c3 c4 c5 c6 c7 hsn
        obtain ⟨⟨ekey, ⟨kind, text, count, pairs, items, scores⟩, til⟩, pa, pc, ia, ic, sa, sc⟩ := e
        simp only at c0 c1 c2 c3 c4 c5 c6 c7
        have HS : Hid ((F.take (k + 1)).map (·.kv.key) = (F.take k).map (·.kv.key) ++ [ekey]) := hsn
        clear hsn
        have hz : w1.heap.size ≤ wr.heap.size := hB.size
        obtain ⟨la, lc, rfl⟩ := ownsRow_shape hown
        go_wp2_with (at_builtin; refine wpList_append_text _ rfl _ _ rfl w1.heap.size (.slice la k lc) k _ ekey (wr.heap.size + 1) ?_ ((hown.alloc _).alloc _) ?_ ?_ ?_ ?_ ?_ ?_)
        · omega
        · omega
        · intro v2 w2 hown2 hg2
          have hB2 := below_append2 hB hz hown hg2
          clear hg2 c0 c1 c2 c3 c4 c5 c6 c7
          go_wp2_with fail
          go_roundw
          case rel => exact ⟨k + 1, by omega, by go_num, by rw [HS.out]; simpa [encI, List.append_assoc, Nat.add_assoc] using hown2, hB2⟩
          case measure => simp [intOf]; omega
    · obtain rfl : k = F.length := by omega
      rw [List.take_length] at hown
      go_wp2_with fail
      go_ret
      exact ⟨_, rfl, hown, hB⟩
end Go.Proofs.YtfnephnecighaaaGreat
