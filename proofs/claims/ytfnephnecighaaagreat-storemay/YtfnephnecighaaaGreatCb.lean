/- Contracts of the functions on commands (a struct of five cells): what each returns; of old memory nothing turns. -/
import Derived.Test.YtfnephnecighaaaGreatCa
import Derived.Deep.DeepCutAuto
namespace Go.Proofs.YtfnephnecighaaaGreat
open Go.RowKit

/-- A command as a value. -/
abbrev cmdV (k : Int) (key fld txt : ByteArray) (n : Int) : Value := .agg #[.int .i64 k, .string key, .string fld, .string txt, .int .i64 n]

def foreignB (k : Int) (key fld txt : ByteArray) (n : Int) : Bool :=
  (!hasKeyB k && !key.toList.isEmpty) || (!hasFieldB k && !fld.toList.isEmpty) || (!hasTextB k && !txt.toList.isEmpty) || (!hasNumberB k && n != 0)

def partsB (k : Int) (key fld txt : ByteArray) : Bool :=
  (!hasKeyB k || isNameB key) && (!hasFieldB k || isNameB fld) && isTextB txt

def cmdFault (k : Int) (key fld txt : ByteArray) (n : Int) : Int :=
  if k < 1 ∨ 22 < k then 3 else if foreignB k key fld txt n = true then 8 else if partsB k key fld txt = false then 1 else if isCountB n = false then 2 else 0

set_option maxHeartbeats 1000000 in
theorem hasForeignPart_any (k : Int) (key fld txt : ByteArray) (n : Int) (w : World) :
    Calls Tryz.prog 91 #[cmdV k key fld txt n] w fun e w' => e = .returned (.bool (foreignB k key fld txt n)) ∧ Below w.heap.size w w' := by
  go_enter Tryz.func91, Tryz.ntmps91
  go_wp2_with (first
    | (go_at_call 125; refine (hasKey_any _ _).mono ?_; rintro e w' ⟨rfl, rfl⟩)
    | (go_at_call 126; refine (hasField_any _ _).mono ?_; rintro e w' ⟨rfl, rfl⟩)
    | (go_at_call 127; refine (hasText_any _ _).mono ?_; rintro e w' ⟨rfl, rfl⟩)
    | (go_at_call 128; refine (hasNumber_any _ _).mono ?_; rintro e w' ⟨rfl, rfl⟩))
  all_goals (go_ret; exact ⟨ret_bool (by simp_all [foreignB]), (Below.refl _ _).alloc (Nat.le_refl _) _⟩)

set_option maxHeartbeats 1000000 in
theorem partsMayBe_any (k : Int) (key fld txt : ByteArray) (n : Int) (w : World) :
    Calls Tryz.prog 92 #[cmdV k key fld txt n] w fun e w' => e = .returned (.bool (partsB k key fld txt)) ∧ Below w.heap.size w w' := by
  go_enter Tryz.func92, Tryz.ntmps92
  go_wp2_with (first
    | (go_at_call 125; refine (hasKey_any _ _).mono ?_; rintro e w' ⟨rfl, rfl⟩)
    | (go_at_call 126; refine (hasField_any _ _).mono ?_; rintro e w' ⟨rfl, rfl⟩)
    | (go_at_call 85; refine (isName_any _ _).mono ?_; rintro e w' ⟨rfl, rfl⟩)
    | (go_at_call 110; refine (isText_any _ _).mono ?_; rintro e w' ⟨rfl, rfl⟩))
  all_goals (go_ret; exact ⟨ret_bool (by simp_all [partsB]), (Below.refl _ _).alloc (Nat.le_refl _) _⟩)

theorem bcell {W w1 : World} (hb : Below W.heap.size W w1) : (∀ b o, b < W.heap.size → w1.cell? ⟨b, o, none⟩ = W.cell? ⟨b, o, none⟩) ∧ (∀ b o, b < W.heap.size → w1.frozen? ⟨b, o, none⟩ = W.frozen? ⟨b, o, none⟩) :=
  ⟨fun b o h => hb.cell (p := ⟨b, o, none⟩) h, fun b o h => hb.frozen (p := ⟨b, o, none⟩) h⟩

theorem bsize {W w1 : World} (hb : Below W.heap.size W w1) {k : Nat} (h : k < W.heap.size) : k < w1.heap.size := Nat.lt_of_lt_of_le h hb.size
theorem bstep {w w0 w1 : World} (h : Below w.heap.size w w0) (hb : Below w0.heap.size w0 w1) : Below w.heap.size w w1 := h.trans (hb.mono h.size)
theorem balloc (w : World) (o : Obj) : Below w.heap.size w (w.alloc o) := (Below.refl _ _).alloc (Nat.le_refl _) _

set_option maxHeartbeats 1000000 in
theorem checkCommand_any (k : Int) (key fld txt : ByteArray) (n : Int) (w : World) :
    Calls Tryz.prog 54 #[cmdV k key fld txt n] w fun e w' => e = .returned (.int .i64 (cmdFault k key fld txt n)) ∧ Below w.heap.size w w' := by
  go_enter Tryz.func54, Tryz.ntmps54
  go_wp2_with (first
    | (go_at_call 91; refine (hasForeignPart_any _ _ _ _ _ _).mono ?_; rintro e w1 ⟨rfl, hb1⟩; obtain ⟨hc1, hf1⟩ := bcell hb1; have hz1 : w.heap.size < w1.heap.size := bsize hb1 (by simp); have hB1 := bstep (balloc _ _) hb1)
    | (go_at_call 92; refine (partsMayBe_any _ _ _ _ _ _).mono ?_; rintro e w2 ⟨rfl, hb2⟩; obtain ⟨hc2, hf2⟩ := bcell hb2; have hz2 : w.heap.size < w2.heap.size := bsize hb2 (by assumption); have hB2 := bstep hB1 hb2)
    | (go_at_call 93; refine (isCount_any _ _).mono ?_; rintro e w3 ⟨rfl, rfl⟩))
  all_goals
    go_ret
    refine ⟨ret_int ?_, ?_⟩
    · unfold cmdFault
      simp_all
      try omega
    · first | exact hB2 | exact hB1 | exact balloc _ _
end Go.Proofs.YtfnephnecighaaaGreat
