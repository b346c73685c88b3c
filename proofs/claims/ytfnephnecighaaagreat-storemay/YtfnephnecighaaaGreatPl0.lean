/- A member is put into a rank: anew, or at another place. -/
import Derived.Test.YtfnephnecighaaaGreatPk
import Derived.Deep.DeepCutAuto
namespace Go.Proofs.YtfnephnecighaaaGreat
open Go.RowKit
set_option linter.unusedVariables false

/-- Where performRank stands between its calls: its frame as it was, the scores a row of the call's own. -/
structure Mid (B N : Nat) (W : World) (x : Val) (c : Cmd) (s0 : Value) (w : World) (s : Value) (L : List (ByteArray × Int)) : Prop where
  keeps : Keeps B N W w
  own : w.ownsRow B 69 2 s L.length (L.flatMap encS)
  inn : In B N W.heap.size s
  size : W.heap.size + 4 ≤ w.heap.size
  b0 : w.heap[W.heap.size]? = some (valO x.kind x.text x.count (.slice none 0 0) (.slice none 0 0) s0)
  b1 : w.heap[W.heap.size + 1]? = some (cmdC c)
  b2 : w.heap[W.heap.size + 1 + 1]? = some (valO 0 ⟨#[]⟩ 0 (.slice none 0 0) (.slice none 0 0) (.slice none 0 0))
  b3 : w.heap[W.heap.size + 1 + 1 + 1]? = some (repO 0 ⟨#[]⟩ 0 (.slice none 0 0))

theorem Mid.heap {B N : Nat} {W w w' : World} {x : Val} {c : Cmd} {s0 s : Value} {L : List (ByteArray × Int)} (h : Mid B N W x c s0 w s L) (e : w' = w.drew) : Mid B N W x c s0 w' s L := by
  subst e
  exact ⟨h.keeps.drew, h.own, h.inn, h.size, h.b0, h.b1, h.b2, h.b3⟩
theorem Mid.grown {B N : Nat} {W w w' : World} {x : Val} {c : Cmd} {s0 s r : Value} {L L' : List (ByteArray × Int)} (h : Mid B N W x c s0 w s L) (hg : w.grownBy w' s.ownBlock) (ho : w'.ownsRow B 69 2 r L'.length (L'.flatMap encS))
    (hr : ∀ k, r.ownBlock = some k → s.ownBlock = some k ∨ w.heap.size ≤ k) : Mid B N W x c s0 w' r L' := by
  have hz := h.keeps.size
  have e0 := own_ne h.own h.b0 (by decide)
  have e1 := own_ne h.own h.b1 (by decide)
  have e2 := own_ne h.own h.b2 (by decide)
  have e3 := own_ne h.own h.b3 (by decide)
  have hs := h.size
  refine ⟨⟨hg.os.trans h.keeps.os, hg.tape.trans h.keeps.tape, hg.output.trans h.keeps.output, Nat.le_trans hz hg.size, fun k hk ho => ?_⟩, ho, fun k hk => ⟨(ho.lt k hk).1, ?_⟩, Nat.le_trans hs hg.size, ?_, ?_, ?_, ?_⟩
  · refine (hg.block k (by omega) (fun e => ?_)).trans (h.keeps.block k hk ho)
    have := h.inn k e.symm
    omega
  · rcases hr k hk with e | e
    · exact (h.inn k e).2
    · exact .inr (by omega)
  · exact (hg.block _ (by omega) (fun e => e0 e.symm)).trans h.b0
  · exact (hg.block _ (by omega) (fun e => e1 e.symm)).trans h.b1
  · exact (hg.block _ (by omega) (fun e => e2 e.symm)).trans h.b2
  · exact (hg.block _ (by omega) (fun e => e3 e.symm)).trans h.b3

theorem mid_insert {B N p : Nat} {W w : World} {x : Val} {c : Cmd} {s0 s : Value} {L : List (ByteArray × Int)} (t : ByteArray × Int) (h : Mid B N W x c s0 w s L) (hB : B ≤ N) (hN : N ≤ W.heap.size) (hn : L.length ≤ 1048575) (hp : Parts (fun q => cmpSc q t) L p) :
    Calls Tryz.prog 142 #[s, valS t] w fun e w' => ∃ a cc, e = .returned (.slice a (L.length + 1) cc) ∧ Mid B N W x c s0 w' (.slice a (L.length + 1) cc) (L.take p ++ t :: L.drop p) := by
  have hz := h.size
  have hpl : p ≤ L.length := hp.1
  refine (insertScore_at B p s L t w h.own (by omega) hn hp).mono ?_
  rintro e w' ⟨r, rfl, h1, h2, h3⟩
  obtain ⟨a, cc, rfl⟩ := ownsRow_shape h1
  have hlen : (L.take p ++ t :: L.drop p).length = L.length + 1 := by simp; omega
  exact ⟨a, cc, rfl, h.grown h2 (by rw [hlen]; exact h1) h3⟩
theorem mid_without {B N i : Nat} {W w : World} {x : Val} {c : Cmd} {s0 s : Value} {L : List (ByteArray × Int)} (h : Mid B N W x c s0 w s L) (hi : i < L.length) (hn : L.length ≤ 1048576) :
    Calls Tryz.prog 143 #[s, .int .i64 (i : Int)] w fun e w' => ∃ a cc, e = .returned (.slice a (L.take i ++ L.drop (i + 1)).length cc) ∧ Mid B N W x c s0 w' (.slice a (L.take i ++ L.drop (i + 1)).length cc) (L.take i ++ L.drop (i + 1)) := by
  refine (withoutScore_at B i s L w h.own hi hn).mono ?_
  rintro e w' ⟨r, rfl, h1, h2, h3⟩
  have hlen : (L.take i ++ L.drop (i + 1)).length = L.length - 1 := by simp; omega
  rw [← hlen] at h1
  obtain ⟨a, cc, rfl⟩ := ownsRow_shape h1
  exact ⟨a, cc, rfl, h.grown h2 h1 (fun k hk => .inl (h3 ▸ hk))⟩
theorem mid_keep {B N : Nat} {W w : World} {x : Val} {c : Cmd} {s0 : Value} {a : Option Addr} {cc : Nat} {L : List (ByteArray × Int)} (h : Mid B N W x c s0 w (.slice a L.length cc) L) :
    Calls Tryz.prog 143 #[.slice a L.length cc, .int .i64 (-1)] w fun e w' => ∃ a cc, e = .returned (.slice a L.length cc) ∧ Mid B N W x c s0 w' (.slice a L.length cc) L := by
  refine (withoutScore_none _ a _ cc rfl w).mono ?_
  rintro e w' ⟨rfl, rfl⟩
  exact ⟨a, cc, rfl, h⟩
theorem Mid.below {B N : Nat} {W w w' : World} {x : Val} {c : Cmd} {s0 s : Value} {L : List (ByteArray × Int)} (h : Mid B N W x c s0 w s L) (hb : Below w.heap.size w w') : Mid B N W x c s0 w' s L := by
  have hz := h.size
  exact ⟨h.keeps.trans (Keeps.ofBelow hb), own_kept h.own hb, h.inn, Nat.le_trans hz hb.size, (hb.block _ (by omega)).trans h.b0, (hb.block _ (by omega)).trans h.b1, (hb.block _ (by omega)).trans h.b2, (hb.block _ (by omega)).trans h.b3⟩

end Go.Proofs.YtfnephnecighaaaGreat
