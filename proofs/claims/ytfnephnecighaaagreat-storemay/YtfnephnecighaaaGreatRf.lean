/- Why a command can't be tried at all: store.refusal. -/
import Derived.Test.YtfnephnecighaaaGreatSc
import Derived.Test.YtfnephnecighaaaGreatCd
namespace Go.Proofs.YtfnephnecighaaaGreat
open Go.RowKit
set_option linter.unusedVariables false
set_option maxRecDepth 100000

def refS (s : Sto) (time : Int) (c : Cmd) : Int := if s.fault ≠ 0 then s.fault else if isTimeB time = false then 2 else c.fault
abbrev cmdO0 (k : Int) (key fld txt : ByteArray) (n : Int) : Obj := .cells #[.int .i64 k, .string key, .string fld, .string txt, .int .i64 n] 28
set_option maxHeartbeats 2000000 in
theorem refusalS_any (v : Value) (s : Sto) (time : Int) (c : Cmd) (w : World) (h : RepsSt w v s) :
    Calls Tryz.prog 38 #[v, .int .i64 time, c.v] w fun e w' => e = .returned (.int .i64 (refS s time c)) ∧ Below w.heap.size w w' := by
  obtain ⟨G, hG⟩ : ∃ G, G = refS s time c := ⟨_, rfl⟩
  rw [← hG]
  have HG : Hid (G = if s.fault ≠ 0 then s.fault else if isTimeB time = false then 2 else c.fault) := hG
  have hc := fun W (hb : Below w.heap.size w W) => storeCheck_any v s W (h.below hb)
  obtain ⟨es, E, rfl, hrow, -, -⟩ := h
  obtain ⟨-, ea, ec, rfl, -⟩ := hrow
  obtain ⟨k, key, fld, txt, n⟩ := c
  obtain ⟨now, L⟩ := s
  have hk := fun W => checkCommand_any k key fld txt n W
  have ht := fun W => isTimeS_any time W
  have hcf : Cmd.fault ⟨k, key, fld, txt, n⟩ = cmdFault k key fld txt n := rfl
  rw [hcf] at HG
  simp only at hc
  generalize Sto.fault ⟨now, L⟩ = F at *
  generalize cmdFault k key fld txt n = X at *
  generalize isTimeB time = T at *
  have HC : Hid (∀ W, Below w.heap.size w W → Calls Tryz.prog 23 #[stoV now (.slice ea E.length ec)] W fun e w' => e = .returned (.int .i64 F) ∧ Below W.heap.size W w') := hc
  have HK : Hid (∀ W, Calls Tryz.prog 54 #[cmdV k key fld txt n] W fun e w' => e = .returned (.int .i64 X) ∧ Below W.heap.size W w') := hk
  have HT : Hid (∀ W, Calls Tryz.prog 47 #[.int .i64 time] W fun e w' => e = .returned (.bool T) ∧ W = w') := ht
  have hB0 : Below w.heap.size w ((w.alloc (stoO now (.slice ea E.length ec))).alloc (cmdO0 k key fld txt n)) := (balloc _ _).alloc (by simp) _
  have n1 : ((w.alloc (stoO now (.slice ea E.length ec))).alloc (cmdO0 k key fld txt n)).heap[w.heap.size + 1]? = some (cmdO0 k key fld txt n) := by
    show ((_ : Array Obj).push _)[_]? = _
    rw [Array.getElem?_push, if_pos (by simp)]
  clear hG hc hk ht hcf
  by_cases hF : F = 0
  · subst hF
    cases T
    · go_enter Tryz.func38, Tryz.ntmps38
      go_wp2_with fail
      refine (HC.out _ hB0).mono ?_
      rintro e w1 ⟨rfl, hb1⟩
      have hB1 := bstep hB0 hb1
      clear hb1 hB0 n1 HC HK
      go_wp2_with (go_at_call 47; refine (HT.out _).mono ?_; rintro e w3 ⟨rfl, rfl⟩)
      go_ret
      exact ⟨ret_int (by rw [HG.out]; simp), hB1⟩
    · go_enter Tryz.func38, Tryz.ntmps38
      go_wp2_with fail
      refine (HC.out _ hB0).mono ?_
      rintro e w1 ⟨rfl, hb1⟩
      have n2 := (hb1.block _ (lt_at n1)).trans n1
      have hB1 := bstep hB0 hb1
      obtain ⟨q0, f0⟩ := cellsB n2
      clear hb1 hB0 n1 n2 HC
      go_wp2_with (go_at_call 47; refine (HT.out _).mono ?_; rintro e w3 ⟨rfl, rfl⟩)
      refine (HK.out _).mono ?_
      rintro e w2 ⟨rfl, hb2⟩
      have hB2 := bstep hB1 hb2
      clear hb2 hB1 q0 f0
      go_wp2_with fail
      go_ret
      exact ⟨ret_int (by rw [HG.out]; simp), hB2⟩
  · have hF' : (F != 0) = true := by simpa using hF
    have HF : Hid (¬ F = 0) := hF
    clear hF
    go_enter Tryz.func38, Tryz.ntmps38
    go_wp2_with fail
    refine (HC.out _ hB0).mono ?_
    rintro e w1 ⟨rfl, hb1⟩
    have hB1 := bstep hB0 hb1
    clear hb1 hB0 n1 HC HK HT
    go_wp2_with fail
    go_ret
    exact ⟨ret_int (by rw [HG.out, if_pos HF.out]), hB1⟩
end Go.Proofs.YtfnephnecighaaaGreat
