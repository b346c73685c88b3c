/- Two blocks that are laid, one behind the other; a piece of a slice. -/
import Derived.Test.YtpbgadojocgefaaHf
import Derived.Test.YtpbgadojocgefaaGb
namespace Go.Proofs.Ytpbgadojocgefaa
open Go.RowKit
set_option linter.unusedVariables false
set_option maxRecDepth 100000

theorem two_at (w : World) (o0 o1 : Obj) : ((w.alloc o0).alloc o1).heap[w.heap.size]? = some o0 ∧ ((w.alloc o0).alloc o1).heap[w.heap.size + 1]? = some o1 ∧ Below w.heap.size w ((w.alloc o0).alloc o1) ∧ ((w.alloc o0).alloc o1).heap.size = w.heap.size + 2 := by
  refine ⟨?_, ?_, (balloc _ _).alloc (by simp) _, by simp⟩
  · rw [Below.heap_alloc _ _ _ (by simp)]
    show ((_ : Array Obj).push _)[_]? = _
    simp
  · show ((_ : Array Obj).push _)[_]? = _
    rw [Array.getElem?_push, if_pos (by simp)]
/-- Some items out of a slice's midst. -/
theorem piece_row {w W : World} {a : Option Addr} {cap : Nat} {l : List Itm} {k m : Nat} (hr : RowI w (.slice a l.length cap) l) (hW : Below w.heap.size w W) (a' : Option Addr) (n c : Nat) (hn : n = ((l.drop k).take m).length) (hc : n ≤ c) (hc' : c ≤ 9223372036854775807)
    (ha : ((l.drop k).take m).length = 0 ∨ ∃ bk off, a = some ⟨bk, off, none⟩ ∧ a' = some ⟨bk, off + k * 10, none⟩) : RowI W (.slice a' n c) ((l.drop k).take m) := by
  obtain ⟨hl, a1, cap1, hs, h1, h2, h3⟩ := hr
  simp only [Value.slice.injEq, true_and] at hs
  obtain ⟨rfl, rfl⟩ := hs
  refine ⟨by simp; omega, a', c, by rw [hn], by omega, hc', ?_⟩
  rcases ha with ha | ⟨bk, off, rfl, rfl⟩
  · exact .inl (List.eq_nil_of_length_eq_zero ha)
  · rcases h3 with rfl | ⟨b', off', he, hb, hcl⟩
    · exact .inl (by simp)
    · simp only [Option.some.injEq, Addr.mk.injEq, and_true] at he
      obtain ⟨rfl, rfl⟩ := he
      refine .inr ⟨bk, off + k * 10, rfl, bsize hW hb, fun j hj q hq => ?_⟩
      have hj' : k + j < l.length := by simp at hj; omega
      have := (hW.cell (p := ⟨bk, off + (k + j) * 10 + q, none⟩) hb).trans (hcl (k + j) hj' q hq)
      rw [show off + (k + j) * 10 + q = off + k * 10 + j * 10 + q by omega] at this
      rw [this]; simp
end Go.Proofs.Ytpbgadojocgefaa
