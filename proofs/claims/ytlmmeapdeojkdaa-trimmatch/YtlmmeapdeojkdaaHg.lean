/- ledger: firstBehind. -/
import Derived.Test.YtlmmeapdeojkdaaHf
import Derived.Test.YtlmmeapdeojkdaaGb
namespace Go.Proofs.Ytlmmeapdeojkdaa
open Go.RowKit
set_option linter.unusedVariables false
set_option maxRecDepth 100000

/-- Some items out of a slice's midst. -/
theorem piece_row {w W : World} {a : Option Addr} {cap : Nat} {l : List Itm} {k m : Nat} (hr : RowI w (.slice a l.length cap) l) (hW : Below w.heap.size w W) (a' : Option Addr) (n c : Nat) (hn : n = ((l.drop k).take m).length) (hc : n ≤ c) (hc' : c ≤ 9223372036854775807)
    (ha : ((l.drop k).take m).length = 0 ∨ ∃ bk off, a = some ⟨bk, off, none⟩ ∧ a' = some ⟨bk, off + k * 10, none⟩) : RowI W (.slice a' n c) ((l.drop k).take m) := by
  obtain ⟨hl, a1, cap1, hs, h1, h2, h3⟩ := hr
  simp only [Value.slice.injEq, true_and] at hs
  obtain ⟨rfl, rfl⟩ := hs
  refine ⟨by simp; omega, a', c, by rw [hn], by omega, hc', ?_⟩
  rcases ha with ha | ⟨bk, off, rfl, rfl⟩
  · exact .inl (List.eq_nil_of_length_eq_zero ha)
  · rcases h3 with rfl | ⟨b', off', he, hb, hcl⟩
    · exact .inl (by simp)
    · simp only [Option.some.injEq, Addr.mk.injEq, and_true] at he
      obtain ⟨rfl, rfl⟩ := he
      refine .inr ⟨bk, off + k * 10, rfl, bsize hW hb, fun j hj q hq => ?_⟩
      have hj' : k + j < l.length := by simp at hj; omega
      have := (hW.cell (p := ⟨bk, off + (k + j) * 10 + q, none⟩) hb).trans (hcl (k + j) hj' q hq)
      rw [show off + (k + j) * 10 + q = off + k * 10 + j * 10 + q by omega] at this
      rw [this]; simp

set_option maxHeartbeats 2000000 in
theorem firstBehind_any (b t : Int) (s : Value) (l : List Itm) (k : Nat) (most : Int) (w : World) (hr : RowI w s l) (h0 : 0 ≤ b) (h1 : b + l.length ≤ 1048576) (hk : k ≤ l.length) (hm : 0 ≤ most) :
    Calls Try.prog 32 #[logV b t s, .int .i64 (b + k), .int .i64 most] w fun e w' => ∃ r, e = .returned r ∧ OwnI w.heap.size w' r ((l.drop k).take most.toNat) ∧ Below w.heap.size w w' := by
  obtain ⟨a, cap, rfl⟩ : ∃ a cap, s = .slice a l.length cap := by obtain ⟨-, a, cap, rfl, -⟩ := hr; exact ⟨_, _, rfl⟩
  have HR : Hid (RowI w (.slice a l.length cap) l) := hr
  have hlen : ((l.drop k).take most.toNat).length = min most.toNat (l.length - k) := by simp
  have HLN : Hid (((l.drop k).take most.toNat).length = min most.toNat (l.length - k)) := hlen
  obtain ⟨hl, a1, cap1, hs, k1, k2, k3⟩ := hr
  simp only [Value.slice.injEq, true_and] at hs
  obtain ⟨rfl, rfl⟩ := hs
  have HA : Hid (l.length = 0 ∨ ∃ bk off, a = some ⟨bk, off, none⟩) := by
    rcases k3 with h | ⟨bk, off, h, -⟩
    · exact .inl (by rw [h]; rfl)
    · exact .inr ⟨bk, off, h⟩
  clear k3
  have HLs : Hid (∀ W sl, RowI W sl ((l.drop k).take most.toNat) → Calls Try.prog 35 #[sl] W fun e w' => ∃ r, e = .returned r ∧ OwnI W.heap.size w' r ((l.drop k).take most.toNat) ∧ Below W.heap.size W w') := fun W sl h => listIt_any sl _ W h (by rw [hlen]; omega)
  have HP : Hid (∀ a' n c, n = min most.toNat (l.length - k) → n ≤ c → c ≤ 9223372036854775807 → (min most.toNat (l.length - k) = 0 ∨ ∃ bk off, a = some ⟨bk, off, none⟩ ∧ a' = some ⟨bk, off + k * 10, none⟩) → ∀ o, RowI (w.alloc o) (.slice a' n c) ((l.drop k).take most.toNat)) := fun a' n c q1 q2 q3 q4 o =>
    piece_row HR.out (balloc w o) a' n c (by rw [hlen]; exact q1) q2 q3 (by rw [hlen]; exact q4)
  clear hlen
  generalize (l.drop k).take most.toNat = P at *
  have x1 : IntKind.i64.wrap (b + (k : Int) - b) = k := by rw [IntKind.wrap_i64]; omega
  have y1 : wrap64 (b + (k : Int) - b) = k := by unfold wrap64; omega
  have hk0 : (k : Int) ≤ (l.length : Int) := by omega
  have fin : Hid (∀ (w1 : World) (r : Value) o, OwnI (w.alloc o).heap.size w1 r P → Below (w.alloc o).heap.size (w.alloc o) w1 → OwnI w.heap.size w1 r P ∧ Below w.heap.size w w1) := fun w1 r o q1 q2 => ⟨OwnI.base q1 (by simp), bstep (balloc _ _) q2⟩
  rcases HA.out with hl0 | ⟨bk, off, rfl⟩
  · have hk00 : k = 0 := by omega
    subst hk00
    cases a with
    | none =>
      go_enter Try.func32, Try.ntmps32
      go_wp2_with fail
      all_goals
        refine (HLs.out _ _ (HP.out _ _ _ ?_ ?_ ?_ ?_ _)).mono ?_
        rotate_right
        · rintro e w1 ⟨r, rfl, hown, hb1⟩
          have hf := fin.out w1 r _ hown hb1
          obtain ⟨sa, sc, rfl⟩ := hown.shape
          clear hown hb1
          go_wp2_with fail
          go_ret
          exact ⟨_, rfl, hf.1, hf.2⟩
        all_goals (first | omega | (left; omega) | (simp; omega))
    | some ad =>
      go_enter Try.func32, Try.ntmps32
      go_wp2_with fail
      all_goals
        refine (HLs.out _ _ (HP.out _ _ _ ?_ ?_ ?_ ?_ _)).mono ?_
        rotate_right
        · rintro e w1 ⟨r, rfl, hown, hb1⟩
          have hf := fin.out w1 r _ hown hb1
          obtain ⟨sa, sc, rfl⟩ := hown.shape
          clear hown hb1
          go_wp2_with fail
          go_ret
          exact ⟨_, rfl, hf.1, hf.2⟩
        all_goals (first | omega | (left; omega) | (simp; omega))
  · go_enter Try.func32, Try.ntmps32
    go_wp2_with fail
    all_goals
      refine (HLs.out _ _ (HP.out _ _ _ ?_ ?_ ?_ ?_ _)).mono ?_
      rotate_right
      · rintro e w1 ⟨r, rfl, hown, hb1⟩
        have hf := fin.out w1 r _ hown hb1
        obtain ⟨sa, sc, rfl⟩ := hown.shape
        clear hown hb1
        go_wp2_with fail
        go_ret
        exact ⟨_, rfl, hf.1, hf.2⟩
      all_goals (first | omega | (left; omega) | exact .inr ⟨_, _, rfl, rfl⟩ | (simp; omega))

end Go.Proofs.Ytlmmeapdeojkdaa
