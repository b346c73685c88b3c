/- Commands in raw numbers. -/
import Derived.Test.YtfnephnecighaaaGreatVbJ
import Derived.Test.YtfnephnecighaaaGreatCaJ
import Derived.Deep.RegionWith
import Derived.Laws.IdiomStrings
import Derived.Laws.ResultCell
import Derived.Shelf.Abstract
import Derived.Sort.OwnSorted
import Derived.Sort.Walk0
import Derived.Deep.DeepCutAuto
namespace Go.Proofs.YtfnephnecighaaaGreat
open Go.RowKit
set_option linter.unusedVariables false

def someB (n : Int) : ByteArray := ⟨#[97 + UInt8.ofNat (pickedN n 9)]⟩
def cutB (s : ByteArray) (m : Nat) : ByteArray := s.extract 0 (min s.size m)
theorem size_some (n : Int) : (someB n).size = 1 := rfl
theorem size_cut (s : ByteArray) (m : Nat) : (cutB s m).size ≤ m := by simp [cutB, ByteArray.size_extract]; omega

theorem run_one (b : Nat) (k : Nat) (hk : k < 256) (W : World) (hc : W.cell? ⟨b, 0, none⟩ = some (.int .u8 (k : Int))) :
    (convert 63 9 (.slice (some ⟨b, 0, none⟩) 1 1)).run Tryz.prog W = .ok (.string ⟨#[UInt8.ofNat k]⟩) W := by
  have := run_convert_bytes_back (P := Tryz.prog) W 63 9 5 ⟨b, 0, none⟩ 1 [UInt8.ofNat k] Tryz.underlying63 Tryz.underlying5 Tryz.underlying9
    (fun j hj => by
      obtain rfl : j = 0 := by simpa using hj
      rw [show (⟨b, 0, none⟩ : Addr).add 0 = ⟨b, 0, none⟩ from by simp [Addr.add], hc]
      simp [Nat.mod_eq_of_lt hk])
  simpa using this

set_option maxHeartbeats 1000000 in
theorem some_any (n : Int) (w : World) (h1 : -9223372036854775808 ≤ n) (h2 : n ≤ 9223372036854775807) :
    Calls Tryz.prog 25 #[.int .i64 n] w fun e w' => e = .returned (.string (someB n)) ∧ Below w.heap.size w w' := by
  have p0 := fun W => picked_any n 9 W h1 h2 (by omega) (by omega)
  have l0 := pickedN_lt n (show 0 < 9 by omega)
  have hs : someB n = ⟨#[97 + UInt8.ofNat (pickedN n 9)]⟩ := rfl
  rw [hs]
  clear hs
  generalize pickedN n 9 = k at *
  have P0 : Hid (∀ W, Calls Tryz.prog 21 #[.int .i64 n, .int .i64 9] W fun e w' => e = .returned (.int .i64 (k : Nat)) ∧ W = w') := p0
  clear p0
  have hcv := run_one w.heap.size (97 + k) (by omega) (w.alloc (.cells #[.int .u8 ((97 + k : Nat) : Int)] 5)) (by simp)
  have e1 : ((97 + k : Nat) : Int) = 97 + (k : Int) := by omega
  rw [e1] at hcv
  go_enter Tryz.func25, Tryz.ntmps25
  go_wp2_with fail
  refine (P0.out _).mono ?_
  rintro e w' ⟨rfl, rfl⟩
  go_wp2_with fail
  go_ret
  exact ⟨rfl, balloc _ _⟩

set_option maxHeartbeats 1000000 in
theorem cut_any (s : ByteArray) (m : Nat) (w : World) (hs : s.size ≤ 9223372036854775807) (hm : m ≤ 1048576) :
    Calls Tryz.prog 44 #[.string s, .int .i64 (m : Int)] w fun e w' => e = .returned (.string (cutB s m)) ∧ w = w' := by
  go_enter Tryz.func44, Tryz.ntmps44
  go_wp2_with fail
  go_ret
  refine ⟨?_, rfl⟩
  have e1 : (min (s.size : Int) (m : Int)).toNat = min s.size m := by omega
  show Ending.returned (.string (s.extract 0 (min (s.size : Int) (m : Int)).toNat)) = _
  rw [e1, cutB]

/-- A raw command as a value. -/
abbrev rawV (k key fld n : Int) (txt : ByteArray) : Value := .agg #[.int .i64 k, .int .i64 key, .int .i64 fld, .int .i64 n, .string txt]

def rawText (n : Int) (txt : ByteArray) : ByteArray := if pickedN n 3 = 0 then someB n else cutB txt 6
theorem size_rawText (n : Int) (txt : ByteArray) : (rawText n txt).size ≤ 6 := by
  unfold rawText
  split
  · rw [size_some]; omega
  · exact size_cut _ _

/-- The command that raw numbers say, of the kind kk. -/
def cmdFor (kk : Nat) (key fld n : Int) (txt : ByteArray) : Cmd :=
  { k := kk, key := if kk = 22 then ⟨#[]⟩ else someB key,
    fld := if kk = 4 ∨ kk = 5 ∨ kk = 6 then someB fld else ⟨#[]⟩,
    txt := if kk = 1 ∨ kk = 4 ∨ kk = 7 ∨ kk = 8 ∨ kk = 11 ∨ kk = 12 ∨ kk = 13 ∨ kk = 14 ∨ kk = 15 ∨ kk = 16 then rawText n txt else ⟨#[]⟩,
    n := if kk = 3 then n.tmod 1073741824 else if kk = 20 then (pickedN n 60 : Nat) else if kk = 14 then (pickedN n 12 : Nat) - 6 else 0 }

theorem cmdFor_fault (kk : Nat) (key fld n : Int) (txt : ByteArray) (h1 : 1 ≤ kk) (h2 : kk ≤ 22) : (cmdFor kk key fld n txt).fault = 0 := by
  have ht := size_rawText n txt
  have b1 : -1073741824 ≤ n.tmod 1073741824 ∧ n.tmod 1073741824 ≤ 1073741824 := by have := Int.natAbs_tmod n 1073741824; have := Nat.mod_lt n.natAbs (show 0 < (1073741824 : Int).natAbs by decide); omega
  have b2 := pickedN_lt n (show 0 < 60 by omega)
  have b3 := pickedN_lt n (show 0 < 12 by omega)
  have hk : kk = 1 ∨ kk = 2 ∨ kk = 3 ∨ kk = 4 ∨ kk = 5 ∨ kk = 6 ∨ kk = 7 ∨ kk = 8 ∨ kk = 9 ∨ kk = 10 ∨ kk = 11 ∨ kk = 12 ∨ kk = 13 ∨ kk = 14 ∨ kk = 15 ∨ kk = 16 ∨ kk = 17 ∨ kk = 18 ∨ kk = 19 ∨ kk = 20 ∨ kk = 21 ∨ kk = 22 := by omega
  have se : (⟨#[]⟩ : ByteArray).size = 0 := rfl
  rcases hk with rfl | rfl | rfl | rfl | rfl | rfl | rfl | rfl | rfl | rfl | rfl | rfl | rfl | rfl | rfl | rfl | rfl | rfl | rfl | rfl | rfl | rfl <;>
    simp [cmdFor, Cmd.fault, cmdFault, foreignB, partsB, hasKeyB, hasFieldB, hasTextB, hasNumberB, isNameB, isTextB, isCountB, size_some, se] <;> omega

end Go.Proofs.YtfnephnecighaaaGreat
