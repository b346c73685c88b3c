/- Commands in raw numbers. -/
import Derived.Test.YtndadgjidihfeaaGreatCdJ
import Derived.Test.YtndadgjidihfeaaGreatCaJ
import Derived.Deep.RegionWith
import Derived.Laws.IdiomStrings
import Derived.Laws.ResultCell
import Derived.Shelf.Abstract
import Derived.Sort.OwnSorted
import Derived.Sort.Walk0
import Derived.Deep.DeepCutAuto
namespace Go.Proofs.YtndadgjidihfeaaGreat
open Go.RowKit
set_option linter.unusedVariables false

def someB (n : Int) : ByteArray := ⟨#[97 + UInt8.ofNat (pickedN n 9)]⟩
def cutB (s : ByteArray) (m : Nat) : ByteArray := s.extract 0 (min s.size m)
theorem size_some (n : Int) : (someB n).size = 1 := rfl
theorem size_cut (s : ByteArray) (m : Nat) : (cutB s m).size ≤ m := by simp [cutB, ByteArray.size_extract]; omega

theorem run_one (b : Nat) (k : Nat) (hk : k < 256) (W : World) (hc : W.cell? ⟨b, 0, none⟩ = some (.int .u8 (k : Int))) :
    (convert 60 9 (.slice (some ⟨b, 0, none⟩) 1 1)).run Tryz.prog W = .ok (.string ⟨#[UInt8.ofNat k]⟩) W := by
  have := run_convert_bytes_back (P := Tryz.prog) W 60 9 5 ⟨b, 0, none⟩ 1 [UInt8.ofNat k] Tryz.underlying60 Tryz.underlying5 Tryz.underlying9
    (fun j hj => by
      obtain rfl : j = 0 := by simpa using hj
      rw [show (⟨b, 0, none⟩ : Addr).add 0 = ⟨b, 0, none⟩ from by simp [Addr.add], hc]
      simp [Nat.mod_eq_of_lt hk])
  simpa using this

set_option maxHeartbeats 1000000 in
theorem some_any (n : Int) (w : World) (h1 : -9223372036854775808 ≤ n) (h2 : n ≤ 9223372036854775807) :
    Calls Tryz.prog 47 #[.int .i64 n] w fun e w' => e = .returned (.string (someB n)) ∧ Below w.heap.size w w' := by
  have p0 := fun W => picked_any n 9 W h1 h2 (by omega) (by omega)
  have l0 := pickedN_lt n (show 0 < 9 by omega)
  have hs : someB n = ⟨#[97 + UInt8.ofNat (pickedN n 9)]⟩ := rfl
  rw [hs]
  clear hs
  generalize pickedN n 9 = k at *
  have P0 : Hid (∀ W, Calls Tryz.prog 28 #[.int .i64 n, .int .i64 9] W fun e w' => e = .returned (.int .i64 (k : Nat)) ∧ W = w') := p0
  clear p0
  have hcv := run_one w.heap.size (97 + k) (by omega) (w.alloc (.cells #[.int .u8 ((97 + k : Nat) : Int)] 5)) (by simp)
  have e1 : ((97 + k : Nat) : Int) = 97 + (k : Int) := by omega
  rw [e1] at hcv
  go_enter Tryz.func47, Tryz.ntmps47
  go_wp2_with fail
  refine (P0.out _).mono ?_
  rintro e w' ⟨rfl, rfl⟩
  go_wp2_with fail
  go_ret
  exact ⟨rfl, balloc _ _⟩

set_option maxHeartbeats 1000000 in
theorem cut_any (s : ByteArray) (m : Nat) (w : World) (hs : s.size ≤ 9223372036854775807) (hm : m ≤ 1048576) :
    Calls Tryz.prog 26 #[.string s, .int .i64 (m : Int)] w fun e w' => e = .returned (.string (cutB s m)) ∧ w = w' := by
  go_enter Tryz.func26, Tryz.ntmps26
  go_wp2_with fail
  go_ret
  refine ⟨?_, rfl⟩
  have e1 : (min (s.size : Int) (m : Int)).toNat = min s.size m := by omega
  show Ending.returned (.string (s.extract 0 (min (s.size : Int) (m : Int)).toNat)) = _
  rw [e1, cutB]

/-- A raw command as a value. -/
abbrev rawV (k key fld n : Int) (txt : ByteArray) : Value := .agg #[.int .i64 k, .int .i64 key, .int .i64 fld, .int .i64 n, .string txt]

def rawText (n : Int) (txt : ByteArray) : ByteArray := if pickedN n 3 = 0 then someB n else cutB txt 6
theorem size_rawText (n : Int) (txt : ByteArray) : (rawText n txt).size ≤ 6 := by
  unfold rawText
  split
  · rw [size_some]; omega
  · exact size_cut _ _

/-- The command that raw numbers say, of the kind kk. -/
def cmdFor (kk : Nat) (key fld n : Int) (txt : ByteArray) : Cmd :=
  { k := kk, key := if kk = 22 then ⟨#[]⟩ else someB key,
    fld := if kk = 4 ∨ kk = 5 ∨ kk = 6 then someB fld else ⟨#[]⟩,
    txt := if kk = 1 ∨ kk = 4 ∨ kk = 7 ∨ kk = 8 ∨ kk = 11 ∨ kk = 12 ∨ kk = 13 ∨ kk = 14 ∨ kk = 15 ∨ kk = 16 then rawText n txt else ⟨#[]⟩,
    n := if kk = 3 then n.tmod 1073741824 else if kk = 20 then (pickedN n 60 : Nat) else if kk = 14 then (pickedN n 12 : Nat) - 6 else 0 }

theorem cmdFor_fault (kk : Nat) (key fld n : Int) (txt : ByteArray) (h1 : 1 ≤ kk) (h2 : kk ≤ 22) : (cmdFor kk key fld n txt).fault = 0 := by
  have ht := size_rawText n txt
  have b1 : -1073741824 ≤ n.tmod 1073741824 ∧ n.tmod 1073741824 ≤ 1073741824 := by have := Int.natAbs_tmod n 1073741824; have := Nat.mod_lt n.natAbs (show 0 < (1073741824 : Int).natAbs by decide); omega
  have b2 := pickedN_lt n (show 0 < 60 by omega)
  have b3 := pickedN_lt n (show 0 < 12 by omega)
  have hk : kk = 1 ∨ kk = 2 ∨ kk = 3 ∨ kk = 4 ∨ kk = 5 ∨ kk = 6 ∨ kk = 7 ∨ kk = 8 ∨ kk = 9 ∨ kk = 10 ∨ kk = 11 ∨ kk = 12 ∨ kk = 13 ∨ kk = 14 ∨ kk = 15 ∨ kk = 16 ∨ kk = 17 ∨ kk = 18 ∨ kk = 19 ∨ kk = 20 ∨ kk = 21 ∨ kk = 22 := by omega
  have se : (⟨#[]⟩ : ByteArray).size = 0 := rfl
  rcases hk with rfl | rfl | rfl | rfl | rfl | rfl | rfl | rfl | rfl | rfl | rfl | rfl | rfl | rfl | rfl | rfl | rfl | rfl | rfl | rfl | rfl | rfl <;>
    simp [cmdFor, Cmd.fault, cmdFault, foreignB, partsB, hasKeyB, hasFieldB, hasTextB, hasNumberB, isNameB, isTextB, isCountB, size_some, se] <;> omega

end Go.Proofs.YtndadgjidihfeaaGreat

/- Commands in raw numbers: rostrumkeep.Command. -/
namespace Go.Proofs.YtndadgjidihfeaaGreat
open Go.RowKit
set_option linter.unusedVariables false

/-- What lies in memory behind the first statement: the raw numbers, the result's cells, the command begun. -/
structure Begun (w : World) (b3 : Nat) (k key fld n : Int) (txt : ByteArray) (kk : Int) (wx : World) : Prop where
  hb : Below w.heap.size w wx
  hz : w.heap.size + 2 ≤ b3
  r0 : wx.cell? ⟨w.heap.size, 0, none⟩ = some (.int .i64 k)
  r1 : wx.cell? ⟨w.heap.size, 1, none⟩ = some (.int .i64 key)
  r2 : wx.cell? ⟨w.heap.size, 2, none⟩ = some (.int .i64 fld)
  r3 : wx.cell? ⟨w.heap.size, 3, none⟩ = some (.int .i64 n)
  r4 : wx.cell? ⟨w.heap.size, 4, none⟩ = some (.string txt)
  s0 : wx.cell? ⟨w.heap.size + 1, 0, none⟩ = some (.int .i64 0)
  s1 : wx.cell? ⟨w.heap.size + 1, 1, none⟩ = some (.string ⟨#[]⟩)
  s2 : wx.cell? ⟨w.heap.size + 1, 2, none⟩ = some (.string ⟨#[]⟩)
  s3 : wx.cell? ⟨w.heap.size + 1, 3, none⟩ = some (.string ⟨#[]⟩)
  s4 : wx.cell? ⟨w.heap.size + 1, 4, none⟩ = some (.int .i64 0)
  sf : ∀ o, wx.frozen? ⟨w.heap.size + 1, o, none⟩ = false
  c0 : wx.cell? ⟨b3, 0, none⟩ = some (.int .i64 kk)
  c1 : wx.cell? ⟨b3, 1, none⟩ = some (.string (someB key))
  c2 : wx.cell? ⟨b3, 2, none⟩ = some (.string ⟨#[]⟩)
  c3 : wx.cell? ⟨b3, 3, none⟩ = some (.string ⟨#[]⟩)
  c4 : wx.cell? ⟨b3, 4, none⟩ = some (.int .i64 0)
  cf : ∀ o, wx.frozen? ⟨b3, o, none⟩ = false
  lt : b3 < wx.heap.size

abbrev rawO (k key fld n : Int) (txt : ByteArray) : Obj := .cells #[.int .i64 k, .int .i64 key, .int .i64 fld, .int .i64 n, .string txt] 40
abbrev cmdOb (k : Int) (key fld txt : ByteArray) (n : Int) : Obj := .cells #[.int .i64 k, .string key, .string fld, .string txt, .int .i64 n] 28

theorem cells_at {w : World} {b : Nat} {cs : Array Value} {t : TypeId} (h : w.heap[b]? = some (.cells cs t (0, 0))) : (∀ o, w.cell? ⟨b, o, none⟩ = cs[o]?) ∧ (∀ o, w.frozen? ⟨b, o, none⟩ = false) :=
  ⟨fun o => by unfold World.cell?; rw [h]; simp, fun o => by unfold World.frozen?; rw [h]; simp⟩

theorem begunA {w w1 : World} {k key fld n : Int} {txt : ByteArray} {kk : Int} (hb : Below (((w.alloc (rawO k key fld n txt)).alloc (cmdOb 0 ⟨#[]⟩ ⟨#[]⟩ ⟨#[]⟩ 0)).drew).heap.size (((w.alloc (rawO k key fld n txt)).alloc (cmdOb 0 ⟨#[]⟩ ⟨#[]⟩ ⟨#[]⟩ 0)).drew) w1) :
    Begun w w1.heap.size k key fld n txt kk (w1.alloc (cmdOb kk (someB key) ⟨#[]⟩ ⟨#[]⟩ 0)) := by
  have hx : (((w.alloc (rawO k key fld n txt)).alloc (cmdOb 0 ⟨#[]⟩ ⟨#[]⟩ ⟨#[]⟩ 0)).drew).heap.size = w.heap.size + 2 := by simp [World.drew]
  have hB0 : Below w.heap.size w (((w.alloc (rawO k key fld n txt)).alloc (cmdOb 0 ⟨#[]⟩ ⟨#[]⟩ ⟨#[]⟩ 0)).drew) := ((balloc _ _).alloc (by simp) _).drew
  have hs := hb.size
  rw [hx] at hs
  have n0 : (((w.alloc (rawO k key fld n txt)).alloc (cmdOb 0 ⟨#[]⟩ ⟨#[]⟩ ⟨#[]⟩ 0)).drew).heap[w.heap.size]? = some (rawO k key fld n txt) := by
    show ((w.alloc _).alloc _).heap[_]? = _
    rw [Below.heap_alloc _ _ _ (by simp)]
    show ((_ : Array Obj).push _)[_]? = _
    simp
  have n1 : (((w.alloc (rawO k key fld n txt)).alloc (cmdOb 0 ⟨#[]⟩ ⟨#[]⟩ ⟨#[]⟩ 0)).drew).heap[w.heap.size + 1]? = some (cmdOb 0 ⟨#[]⟩ ⟨#[]⟩ ⟨#[]⟩ 0) := by
    show ((_ : Array Obj).push _)[_]? = _
    rw [Array.getElem?_push, if_pos (by simp)]
  have m0 := (Below.heap_alloc w1 (cmdOb kk (someB key) ⟨#[]⟩ ⟨#[]⟩ 0) w.heap.size (by omega)).trans ((hb.block w.heap.size (by omega)).trans n0)
  have m1 := (Below.heap_alloc w1 (cmdOb kk (someB key) ⟨#[]⟩ ⟨#[]⟩ 0) (w.heap.size + 1) (by omega)).trans ((hb.block (w.heap.size + 1) (by omega)).trans n1)
  have m2 : (w1.alloc (cmdOb kk (someB key) ⟨#[]⟩ ⟨#[]⟩ 0)).heap[w1.heap.size]? = some (cmdOb kk (someB key) ⟨#[]⟩ ⟨#[]⟩ 0) := by
    show ((_ : Array Obj).push _)[_]? = _
    simp
  obtain ⟨a0, a1⟩ := cells_at m0
  obtain ⟨b0, b1⟩ := cells_at m1
  obtain ⟨c0, c1⟩ := cells_at m2
  exact ⟨(bstep hB0 hb).alloc (by omega) _, by omega, a0 0, a0 1, a0 2, a0 3, a0 4, b0 0, b0 1, b0 2, b0 3, b0 4, b1, c0 0, c0 1, c0 2, c0 3, c0 4, c1, by simp⟩

theorem setCell_same {w : World} {g o : Nat} {cs : Array Value} {t : TypeId} (v : Value) (h : w.heap[g]? = some (.cells cs t (0, 0))) : (w.setCell ⟨g, o, none⟩ v).heap[g]? = some (.cells (cs.setIfInBounds o v) t (0, 0)) := by
  rw [setCell_eq_setRow w g o cs t (0, 0) v h]
  exact setRow_heap w g cs _ t _ h
theorem setCell_other {w : World} {a : Addr} {g : Nat} {x : Option Obj} (v : Value) (hne : g ≠ a.block) (h : w.heap[g]? = x) : (w.setCell a v).heap[g]? = x := (Below.heap_setCell w a v g hne).trans h

theorem begunB {w w1 : World} {k key fld n : Int} {txt : ByteArray} {kk : Int} (hb : Below ((((w.alloc (rawO k key fld n txt)).alloc (cmdOb 0 ⟨#[]⟩ ⟨#[]⟩ ⟨#[]⟩ 0)).alloc (cmdOb 0 ⟨#[]⟩ ⟨#[]⟩ ⟨#[]⟩ 0)).drew).heap.size ((((w.alloc (rawO k key fld n txt)).alloc (cmdOb 0 ⟨#[]⟩ ⟨#[]⟩ ⟨#[]⟩ 0)).alloc (cmdOb 0 ⟨#[]⟩ ⟨#[]⟩ ⟨#[]⟩ 0)).drew) w1) :
    Begun w (w.heap.size + 1 + 1) k key fld n txt kk (((((w1.setCell ⟨w.heap.size + 1 + 1, 0, none⟩ (.int .i64 kk)).setCell ⟨w.heap.size + 1 + 1, 1, none⟩ (.string (someB key))).setCell ⟨w.heap.size + 1 + 1, 2, none⟩ (.string ⟨#[]⟩)).setCell ⟨w.heap.size + 1 + 1, 3, none⟩ (.string ⟨#[]⟩)).setCell ⟨w.heap.size + 1 + 1, 4, none⟩ (.int .i64 0)) := by
  have hx : ((((w.alloc (rawO k key fld n txt)).alloc (cmdOb 0 ⟨#[]⟩ ⟨#[]⟩ ⟨#[]⟩ 0)).alloc (cmdOb 0 ⟨#[]⟩ ⟨#[]⟩ ⟨#[]⟩ 0)).drew).heap.size = w.heap.size + 3 := by simp [World.drew]
  have hB0 : Below w.heap.size w ((((w.alloc (rawO k key fld n txt)).alloc (cmdOb 0 ⟨#[]⟩ ⟨#[]⟩ ⟨#[]⟩ 0)).alloc (cmdOb 0 ⟨#[]⟩ ⟨#[]⟩ ⟨#[]⟩ 0)).drew) := (((balloc _ _).alloc (by simp) _).alloc (by simp <;> omega) _).drew
  have hs := hb.size
  rw [hx] at hs
  have n0 : ((((w.alloc (rawO k key fld n txt)).alloc (cmdOb 0 ⟨#[]⟩ ⟨#[]⟩ ⟨#[]⟩ 0)).alloc (cmdOb 0 ⟨#[]⟩ ⟨#[]⟩ ⟨#[]⟩ 0)).drew).heap[w.heap.size]? = some (rawO k key fld n txt) := by
    show (((w.alloc _).alloc _).alloc _).heap[_]? = _
    rw [Below.heap_alloc _ _ _ (by simp <;> omega), Below.heap_alloc _ _ _ (by simp)]
    show ((_ : Array Obj).push _)[_]? = _
    simp
  have n1 : ((((w.alloc (rawO k key fld n txt)).alloc (cmdOb 0 ⟨#[]⟩ ⟨#[]⟩ ⟨#[]⟩ 0)).alloc (cmdOb 0 ⟨#[]⟩ ⟨#[]⟩ ⟨#[]⟩ 0)).drew).heap[w.heap.size + 1]? = some (cmdOb 0 ⟨#[]⟩ ⟨#[]⟩ ⟨#[]⟩ 0) := by
    show (((w.alloc _).alloc _).alloc _).heap[_]? = _
    rw [Below.heap_alloc _ _ _ (by simp)]
    show ((_ : Array Obj).push _)[_]? = _
    rw [Array.getElem?_push, if_pos (by simp)]
  have n2 : ((((w.alloc (rawO k key fld n txt)).alloc (cmdOb 0 ⟨#[]⟩ ⟨#[]⟩ ⟨#[]⟩ 0)).alloc (cmdOb 0 ⟨#[]⟩ ⟨#[]⟩ ⟨#[]⟩ 0)).drew).heap[w.heap.size + 1 + 1]? = some (cmdOb 0 ⟨#[]⟩ ⟨#[]⟩ ⟨#[]⟩ 0) := by
    show ((_ : Array Obj).push _)[_]? = _
    rw [Array.getElem?_push, if_pos (by simp)]
  have m0 := (hb.block w.heap.size (by omega)).trans n0
  have m1 := (hb.block (w.heap.size + 1) (by omega)).trans n1
  have m2 := (hb.block (w.heap.size + 1 + 1) (by omega)).trans n2
  have t0 := setCell_other (.int .i64 0) (a := ⟨w.heap.size + 1 + 1, 4, none⟩) (show w.heap.size ≠ w.heap.size + 1 + 1 by omega) (setCell_other (.string ⟨#[]⟩) (a := ⟨w.heap.size + 1 + 1, 3, none⟩) (show w.heap.size ≠ w.heap.size + 1 + 1 by omega) (setCell_other (.string ⟨#[]⟩) (a := ⟨w.heap.size + 1 + 1, 2, none⟩) (show w.heap.size ≠ w.heap.size + 1 + 1 by omega) (setCell_other (.string (someB key)) (a := ⟨w.heap.size + 1 + 1, 1, none⟩) (show w.heap.size ≠ w.heap.size + 1 + 1 by omega) (setCell_other (.int .i64 kk) (a := ⟨w.heap.size + 1 + 1, 0, none⟩) (show w.heap.size ≠ w.heap.size + 1 + 1 by omega) m0))))
  have t1 := setCell_other (.int .i64 0) (a := ⟨w.heap.size + 1 + 1, 4, none⟩) (show w.heap.size + 1 ≠ w.heap.size + 1 + 1 by omega) (setCell_other (.string ⟨#[]⟩) (a := ⟨w.heap.size + 1 + 1, 3, none⟩) (show w.heap.size + 1 ≠ w.heap.size + 1 + 1 by omega) (setCell_other (.string ⟨#[]⟩) (a := ⟨w.heap.size + 1 + 1, 2, none⟩) (show w.heap.size + 1 ≠ w.heap.size + 1 + 1 by omega) (setCell_other (.string (someB key)) (a := ⟨w.heap.size + 1 + 1, 1, none⟩) (show w.heap.size + 1 ≠ w.heap.size + 1 + 1 by omega) (setCell_other (.int .i64 kk) (a := ⟨w.heap.size + 1 + 1, 0, none⟩) (show w.heap.size + 1 ≠ w.heap.size + 1 + 1 by omega) m1))))
  have t2 := setCell_same (o := 4) (.int .i64 0) (setCell_same (o := 3) (.string ⟨#[]⟩) (setCell_same (o := 2) (.string ⟨#[]⟩) (setCell_same (o := 1) (.string (someB key)) (setCell_same (o := 0) (.int .i64 kk) m2))))
  obtain ⟨a0, a1⟩ := cells_at t0
  obtain ⟨b0, b1⟩ := cells_at t1
  obtain ⟨c0, c1⟩ := cells_at t2
  exact ⟨(((((bstep hB0 hb).setCell (by simp <;> omega) _).setCell (by simp <;> omega) _).setCell (by simp <;> omega) _).setCell (by simp <;> omega) _).setCell (by simp <;> omega) _, by omega, a0 0, a0 1, a0 2, a0 3, a0 4, b0 0, b0 1, b0 2, b0 3, b0 4, b1, c0 0, c0 1, c0 2, c0 3, c0 4, c1, by simp [World.setCell]; omega⟩

theorem Begun.below {w : World} {b3 : Nat} {k key fld n : Int} {txt : ByteArray} {kk : Int} {wx wy : World} (h : Begun w b3 k key fld n txt kk wx) (hb : Below wx.heap.size wx wy) : Begun w b3 k key fld n txt kk wy := by
  have hs := hb.size
  have h1 := h.lt
  have h2 := h.hz
  have A : ∀ b o, b ≤ b3 → wy.cell? ⟨b, o, none⟩ = wx.cell? ⟨b, o, none⟩ := fun b o hbb => hb.cell (p := ⟨b, o, none⟩) (show b < _ by omega)
  have F : ∀ b o, b ≤ b3 → wy.frozen? ⟨b, o, none⟩ = wx.frozen? ⟨b, o, none⟩ := fun b o hbb => hb.frozen (p := ⟨b, o, none⟩) (show b < _ by omega)
  exact ⟨bstep h.hb hb, h2, (A _ _ (by omega)).trans h.r0, (A _ _ (by omega)).trans h.r1, (A _ _ (by omega)).trans h.r2, (A _ _ (by omega)).trans h.r3, (A _ _ (by omega)).trans h.r4,
    (A _ _ (by omega)).trans h.s0, (A _ _ (by omega)).trans h.s1, (A _ _ (by omega)).trans h.s2, (A _ _ (by omega)).trans h.s3, (A _ _ (by omega)).trans h.s4, fun o => (F _ _ (by omega)).trans (h.sf o),
    (A _ _ (by omega)).trans h.c0, (A _ _ (by omega)).trans h.c1, (A _ _ (by omega)).trans h.c2, (A _ _ (by omega)).trans h.c3, (A _ _ (by omega)).trans h.c4, fun o => (F _ _ (by omega)).trans (h.cf o), by omega⟩

set_option maxHeartbeats 16000000 in
set_option maxRecDepth 100000 in
theorem command_any (k key fld n : Int) (txt : ByteArray) (w : World) (bk : -9223372036854775808 ≤ k ∧ k ≤ 9223372036854775807) (bkey : -9223372036854775808 ≤ key ∧ key ≤ 9223372036854775807)
    (bf : -9223372036854775808 ≤ fld ∧ fld ≤ 9223372036854775807) (bn : -9223372036854775808 ≤ n ∧ n ≤ 9223372036854775807) (bt : txt.size ≤ 9223372036854775807) :
    Calls Tryz.prog 24 #[rawV k key fld n txt] w fun e w' => e = .returned (cmdFor (1 + pickedN k 22) key fld n txt).v ∧ Below w.heap.size w w' := by
  have pk := fun W => picked_any k 22 W bk.1 bk.2 (by omega) (by omega)
  have lk := pickedN_lt k (show 0 < 22 by omega)
  generalize pickedN k 22 = p at *
  have PK : Hid (∀ W, Calls Tryz.prog 28 #[.int .i64 k, .int .i64 22] W fun e w' => e = .returned (.int .i64 (p : Nat)) ∧ W = w') := pk
  have p3 := fun W => picked_any n 3 W bn.1 bn.2 (by omega) (by omega)
  have P3 : Hid (∀ W, Calls Tryz.prog 28 #[.int .i64 n, .int .i64 3] W fun e w' => e = .returned (.int .i64 (pickedN n 3 : Nat)) ∧ W = w') := p3
  have p60 := fun W => picked_any n 60 W bn.1 bn.2 (by omega) (by omega)
  have P60 : Hid (∀ W, Calls Tryz.prog 28 #[.int .i64 n, .int .i64 60] W fun e w' => e = .returned (.int .i64 (pickedN n 60 : Nat)) ∧ W = w') := p60
  have p12 := fun W => picked_any n 12 W bn.1 bn.2 (by omega) (by omega)
  have P12 : Hid (∀ W, Calls Tryz.prog 28 #[.int .i64 n, .int .i64 12] W fun e w' => e = .returned (.int .i64 (pickedN n 12 : Nat)) ∧ W = w') := p12
  have SK := fun W => some_any key W bkey.1 bkey.2
  have SF := fun W => some_any fld W bf.1 bf.2
  have SN := fun W => some_any n W bn.1 bn.2
  have CT := fun W => cut_any txt 6 W bt (by omega)
  have HK : Hid (∀ W, Calls Tryz.prog 47 #[.int .i64 key] W fun e w' => e = .returned (.string (someB key)) ∧ Below W.heap.size W w') := SK
  have HF : Hid (∀ W, Calls Tryz.prog 47 #[.int .i64 fld] W fun e w' => e = .returned (.string (someB fld)) ∧ Below W.heap.size W w') := SF
  have HN : Hid (∀ W, Calls Tryz.prog 47 #[.int .i64 n] W fun e w' => e = .returned (.string (someB n)) ∧ Below W.heap.size W w') := SN
  have HC : Hid (∀ W, Calls Tryz.prog 26 #[.string txt, .int .i64 6] W fun e w' => e = .returned (.string (cutB txt 6)) ∧ W = w') := CT
  clear pk p3 p60 p12 SK SF SN CT bk bkey bf bt
  have hb0 := (balloc w (.cells #[.int .i64 k, .int .i64 key, .int .i64 fld, .int .i64 n, .string txt] 40)).alloc (by simp) (.cells #[.int .i64 0, .string ⟨#[]⟩, .string ⟨#[]⟩, .string ⟨#[]⟩, .int .i64 0] 28)
  have hw1 : IntKind.i64.wrap (1 + (p : Int)) = 1 + (p : Int) := by rw [IntKind.wrap_i64]; omega
  go_enter Tryz.func24, Tryz.ntmps24
  go_upto_region 1 with fail
  go_cut [3] (fun s3 wx => ∃ b3, s3 = .pointer (some ⟨b3, 0, none⟩) ∧ Begun w b3 k key fld n txt (1 + (p : Int)) wx)
  case first =>
    go_region_with (first
      | (go_at_call 28; refine (PK.out _).mono ?_; rintro e w1 ⟨rfl, rfl⟩)
      | (go_at_call 47; refine (HK.out _).mono ?_; rintro e w1 ⟨rfl, hb1⟩; obtain ⟨hc1, hf1⟩ := bcell hb1))
    all_goals (go_wp2_with fail; go_meet)
    all_goals first | exact ⟨_, rfl, begunA hb1⟩ | exact ⟨_, rfl, begunB hb1⟩
  case rest =>
    obtain ⟨b3, rfl, hB⟩ := hcut
    have q1 : ¬ (b3 = w.heap.size) := by have := hB.hz; omega
    have q2 : ¬ (b3 = w.heap.size + 1) := by have := hB.hz; omega
    have q3 : ¬ (w.heap.size = b3) := by omega
    have q4 : ¬ (w.heap.size + 1 = b3) := by omega
    have r3 := hB.r3
    have r4 := hB.r4
    clear hw1 hb0 PK HK
    go_upto_if 19 with (first
      | (go_at_call 26; refine (HC.out _).mono ?_; rintro e w2 ⟨rfl, rfl⟩)
      | (go_at_call 28; refine (P3.out _).mono ?_; rintro e w2 ⟨rfl, rfl⟩))
    go_cut [4] (fun t wy => t = .string (rawText n txt) ∧ Begun w b3 k key fld n txt (1 + (p : Int)) wy)
    case first =>
      by_cases h3 : pickedN n 3 = 0
      · have h3' : (((pickedN n 3 : Nat) : Int) == 0) = true := by simp; omega
        have ht : rawText n txt = someB n := by rw [rawText, if_pos h3]
        have HT : Hid (rawText n txt = someB n) := ht
        clear ht h3
        go_wp2_with (first
          | (go_at_call 47; refine (HN.out _).mono ?_; rintro e w2 ⟨rfl, hb2⟩))
        go_meet
        exact ⟨congrArg Value.string HT.out.symm, hB.below hb2⟩
      · have h3' : (((pickedN n 3 : Nat) : Int) == 0) = false := by simp; omega
        have ht : rawText n txt = cutB txt 6 := by rw [rawText, if_neg h3]
        have HT : Hid (rawText n txt = cutB txt 6) := ht
        clear ht h3
        go_wp2_with fail
        go_meet
        exact ⟨congrArg Value.string HT.out.symm, hB⟩
    case rest =>
      obtain ⟨rfl, hC⟩ := hcut
      clear r3 r4 hB HN HC P3
      have hD := hC
      have bq : -1073741824 ≤ n.tmod 1073741824 ∧ n.tmod 1073741824 ≤ 1073741824 := by have := Int.natAbs_tmod n 1073741824; have := Nat.mod_lt n.natAbs (show 0 < (1073741824 : Int).natAbs by decide); omega
      have hq : IntKind.i64.wrap (n.tmod 1073741824) = n.tmod 1073741824 := by rw [IntKind.wrap_i64]; omega
      have l12 := pickedN_lt n (show 0 < 12 by omega)
      have hq12 : IntKind.i64.wrap ((pickedN n 12 : Nat) - 6 : Int) = (pickedN n 12 : Nat) - 6 := by rw [IntKind.wrap_i64]; omega
      have HC : Hid (Begun w b3 k key fld n txt (1 + (p : Int)) wc) := hC
      clear hC
      obtain ⟨hw, hz, r0, r1, r2, r3, r4, s0, s1, s2, s3, s4, sf, c0, c1, c2, c3, c4, cf, hlt⟩ := hD
      have hp : p = 0 ∨ p = 1 ∨ p = 2 ∨ p = 3 ∨ p = 4 ∨ p = 5 ∨ p = 6 ∨ p = 7 ∨ p = 8 ∨ p = 9 ∨ p = 10 ∨ p = 11 ∨ p = 12 ∨ p = 13 ∨ p = 14 ∨ p = 15 ∨ p = 16 ∨ p = 17 ∨ p = 18 ∨ p = 19 ∨ p = 20 ∨ p = 21 := by omega
      rcases hp with rfl | rfl | rfl | rfl | rfl | rfl | rfl | rfl | rfl | rfl | rfl | rfl | rfl | rfl | rfl | rfl | rfl | rfl | rfl | rfl | rfl | rfl
      · have c0' : wc.cell? ⟨b3, 0, none⟩ = some (.int .i64 1) := c0
        clear c0
        go_wp2_with fail
        refine bodyPost_ret (v := (cmdFor (1 + 0) key fld n txt).v) (by simp [results, Tryz.results24, go_sem, cmdFor, Cmd.v, s0, s1, s2, s3, s4]) rfl ⟨rfl, ?_⟩
        repeat refine Below.setCell ?_ ?_ _
        · exact hw
        all_goals (simp; try omega)
      · have c0' : wc.cell? ⟨b3, 0, none⟩ = some (.int .i64 2) := c0
        clear c0
        go_wp2_with fail
        refine bodyPost_ret (v := (cmdFor (1 + 1) key fld n txt).v) (by simp [results, Tryz.results24, go_sem, cmdFor, Cmd.v, s0, s1, s2, s3, s4]) rfl ⟨rfl, ?_⟩
        repeat refine Below.setCell ?_ ?_ _
        · exact hw
        all_goals (simp; try omega)
      · have c0' : wc.cell? ⟨b3, 0, none⟩ = some (.int .i64 3) := c0
        clear c0
        go_wp2_with fail
        refine bodyPost_ret (v := (cmdFor (1 + 2) key fld n txt).v) (by simp [results, Tryz.results24, go_sem, cmdFor, Cmd.v, s0, s1, s2, s3, s4]) rfl ⟨rfl, ?_⟩
        repeat refine Below.setCell ?_ ?_ _
        · exact hw
        all_goals (simp; try omega)
      · have c0' : wc.cell? ⟨b3, 0, none⟩ = some (.int .i64 4) := c0
        clear c0
        go_wp2_with (go_at_call 47; refine (HF.out _).mono ?_; rintro e w3 ⟨rfl, hb3⟩; clear hw r0 r1 r2 r3 r4 s0 s1 s2 s3 s4 sf c0' c1 c2 c3 c4 cf hlt; obtain ⟨hE, _, r0, r1, r2, r3, r4, s0, s1, s2, s3, s4, sf, c0', c1, c2, c3, c4, cf, hlt⟩ := Begun.below HC.out hb3)
        refine bodyPost_ret (v := (cmdFor (1 + 3) key fld n txt).v) (by simp [results, Tryz.results24, go_sem, cmdFor, Cmd.v, s0, s1, s2, s3, s4]) rfl ⟨rfl, ?_⟩
        repeat refine Below.setCell ?_ ?_ _
        · exact hE
        all_goals (simp; try omega)
      · have c0' : wc.cell? ⟨b3, 0, none⟩ = some (.int .i64 5) := c0
        clear c0
        go_wp2_with (go_at_call 47; refine (HF.out _).mono ?_; rintro e w3 ⟨rfl, hb3⟩; clear hw r0 r1 r2 r3 r4 s0 s1 s2 s3 s4 sf c0' c1 c2 c3 c4 cf hlt; obtain ⟨hE, _, r0, r1, r2, r3, r4, s0, s1, s2, s3, s4, sf, c0', c1, c2, c3, c4, cf, hlt⟩ := Begun.below HC.out hb3)
        refine bodyPost_ret (v := (cmdFor (1 + 4) key fld n txt).v) (by simp [results, Tryz.results24, go_sem, cmdFor, Cmd.v, s0, s1, s2, s3, s4]) rfl ⟨rfl, ?_⟩
        repeat refine Below.setCell ?_ ?_ _
        · exact hE
        all_goals (simp; try omega)
      · have c0' : wc.cell? ⟨b3, 0, none⟩ = some (.int .i64 6) := c0
        clear c0
        go_wp2_with (go_at_call 47; refine (HF.out _).mono ?_; rintro e w3 ⟨rfl, hb3⟩; clear hw r0 r1 r2 r3 r4 s0 s1 s2 s3 s4 sf c0' c1 c2 c3 c4 cf hlt; obtain ⟨hE, _, r0, r1, r2, r3, r4, s0, s1, s2, s3, s4, sf, c0', c1, c2, c3, c4, cf, hlt⟩ := Begun.below HC.out hb3)
        refine bodyPost_ret (v := (cmdFor (1 + 5) key fld n txt).v) (by simp [results, Tryz.results24, go_sem, cmdFor, Cmd.v, s0, s1, s2, s3, s4]) rfl ⟨rfl, ?_⟩
        repeat refine Below.setCell ?_ ?_ _
        · exact hE
        all_goals (simp; try omega)
      · have c0' : wc.cell? ⟨b3, 0, none⟩ = some (.int .i64 7) := c0
        clear c0
        go_wp2_with fail
        refine bodyPost_ret (v := (cmdFor (1 + 6) key fld n txt).v) (by simp [results, Tryz.results24, go_sem, cmdFor, Cmd.v, s0, s1, s2, s3, s4]) rfl ⟨rfl, ?_⟩
        repeat refine Below.setCell ?_ ?_ _
        · exact hw
        all_goals (simp; try omega)
      · have c0' : wc.cell? ⟨b3, 0, none⟩ = some (.int .i64 8) := c0
        clear c0
        go_wp2_with fail
        refine bodyPost_ret (v := (cmdFor (1 + 7) key fld n txt).v) (by simp [results, Tryz.results24, go_sem, cmdFor, Cmd.v, s0, s1, s2, s3, s4]) rfl ⟨rfl, ?_⟩
        repeat refine Below.setCell ?_ ?_ _
        · exact hw
        all_goals (simp; try omega)
      · have c0' : wc.cell? ⟨b3, 0, none⟩ = some (.int .i64 9) := c0
        clear c0
        go_wp2_with fail
        refine bodyPost_ret (v := (cmdFor (1 + 8) key fld n txt).v) (by simp [results, Tryz.results24, go_sem, cmdFor, Cmd.v, s0, s1, s2, s3, s4]) rfl ⟨rfl, ?_⟩
        repeat refine Below.setCell ?_ ?_ _
        · exact hw
        all_goals (simp; try omega)
      · have c0' : wc.cell? ⟨b3, 0, none⟩ = some (.int .i64 10) := c0
        clear c0
        go_wp2_with fail
        refine bodyPost_ret (v := (cmdFor (1 + 9) key fld n txt).v) (by simp [results, Tryz.results24, go_sem, cmdFor, Cmd.v, s0, s1, s2, s3, s4]) rfl ⟨rfl, ?_⟩
        repeat refine Below.setCell ?_ ?_ _
        · exact hw
        all_goals (simp; try omega)
      · have c0' : wc.cell? ⟨b3, 0, none⟩ = some (.int .i64 11) := c0
        clear c0
        go_wp2_with fail
        refine bodyPost_ret (v := (cmdFor (1 + 10) key fld n txt).v) (by simp [results, Tryz.results24, go_sem, cmdFor, Cmd.v, s0, s1, s2, s3, s4]) rfl ⟨rfl, ?_⟩
        repeat refine Below.setCell ?_ ?_ _
        · exact hw
        all_goals (simp; try omega)
      · have c0' : wc.cell? ⟨b3, 0, none⟩ = some (.int .i64 12) := c0
        clear c0
        go_wp2_with fail
        refine bodyPost_ret (v := (cmdFor (1 + 11) key fld n txt).v) (by simp [results, Tryz.results24, go_sem, cmdFor, Cmd.v, s0, s1, s2, s3, s4]) rfl ⟨rfl, ?_⟩
        repeat refine Below.setCell ?_ ?_ _
        · exact hw
        all_goals (simp; try omega)
      · have c0' : wc.cell? ⟨b3, 0, none⟩ = some (.int .i64 13) := c0
        clear c0
        go_wp2_with fail
        refine bodyPost_ret (v := (cmdFor (1 + 12) key fld n txt).v) (by simp [results, Tryz.results24, go_sem, cmdFor, Cmd.v, s0, s1, s2, s3, s4]) rfl ⟨rfl, ?_⟩
        repeat refine Below.setCell ?_ ?_ _
        · exact hw
        all_goals (simp; try omega)
      · have c0' : wc.cell? ⟨b3, 0, none⟩ = some (.int .i64 14) := c0
        clear c0
        go_wp2_with (go_at_call 28; refine (P12.out _).mono ?_; rintro e w3 ⟨rfl, rfl⟩)
        refine bodyPost_ret (v := (cmdFor (1 + 13) key fld n txt).v) (by simp [results, Tryz.results24, go_sem, cmdFor, Cmd.v, s0, s1, s2, s3, s4]) rfl ⟨rfl, ?_⟩
        repeat refine Below.setCell ?_ ?_ _
        · exact hw
        all_goals (simp; try omega)
      · have c0' : wc.cell? ⟨b3, 0, none⟩ = some (.int .i64 15) := c0
        clear c0
        go_wp2_with fail
        refine bodyPost_ret (v := (cmdFor (1 + 14) key fld n txt).v) (by simp [results, Tryz.results24, go_sem, cmdFor, Cmd.v, s0, s1, s2, s3, s4]) rfl ⟨rfl, ?_⟩
        repeat refine Below.setCell ?_ ?_ _
        · exact hw
        all_goals (simp; try omega)
      · have c0' : wc.cell? ⟨b3, 0, none⟩ = some (.int .i64 16) := c0
        clear c0
        go_wp2_with fail
        refine bodyPost_ret (v := (cmdFor (1 + 15) key fld n txt).v) (by simp [results, Tryz.results24, go_sem, cmdFor, Cmd.v, s0, s1, s2, s3, s4]) rfl ⟨rfl, ?_⟩
        repeat refine Below.setCell ?_ ?_ _
        · exact hw
        all_goals (simp; try omega)
      · have c0' : wc.cell? ⟨b3, 0, none⟩ = some (.int .i64 17) := c0
        clear c0
        go_wp2_with fail
        refine bodyPost_ret (v := (cmdFor (1 + 16) key fld n txt).v) (by simp [results, Tryz.results24, go_sem, cmdFor, Cmd.v, s0, s1, s2, s3, s4]) rfl ⟨rfl, ?_⟩
        repeat refine Below.setCell ?_ ?_ _
        · exact hw
        all_goals (simp; try omega)
      · have c0' : wc.cell? ⟨b3, 0, none⟩ = some (.int .i64 18) := c0
        clear c0
        go_wp2_with fail
        refine bodyPost_ret (v := (cmdFor (1 + 17) key fld n txt).v) (by simp [results, Tryz.results24, go_sem, cmdFor, Cmd.v, s0, s1, s2, s3, s4]) rfl ⟨rfl, ?_⟩
        repeat refine Below.setCell ?_ ?_ _
        · exact hw
        all_goals (simp; try omega)
      · have c0' : wc.cell? ⟨b3, 0, none⟩ = some (.int .i64 19) := c0
        clear c0
        go_wp2_with fail
        refine bodyPost_ret (v := (cmdFor (1 + 18) key fld n txt).v) (by simp [results, Tryz.results24, go_sem, cmdFor, Cmd.v, s0, s1, s2, s3, s4]) rfl ⟨rfl, ?_⟩
        repeat refine Below.setCell ?_ ?_ _
        · exact hw
        all_goals (simp; try omega)
      · have c0' : wc.cell? ⟨b3, 0, none⟩ = some (.int .i64 20) := c0
        clear c0
        go_wp2_with (go_at_call 28; refine (P60.out _).mono ?_; rintro e w3 ⟨rfl, rfl⟩)
        refine bodyPost_ret (v := (cmdFor (1 + 19) key fld n txt).v) (by simp [results, Tryz.results24, go_sem, cmdFor, Cmd.v, s0, s1, s2, s3, s4]) rfl ⟨rfl, ?_⟩
        repeat refine Below.setCell ?_ ?_ _
        · exact hw
        all_goals (simp; try omega)
      · have c0' : wc.cell? ⟨b3, 0, none⟩ = some (.int .i64 21) := c0
        clear c0
        go_wp2_with fail
        refine bodyPost_ret (v := (cmdFor (1 + 20) key fld n txt).v) (by simp [results, Tryz.results24, go_sem, cmdFor, Cmd.v, s0, s1, s2, s3, s4]) rfl ⟨rfl, ?_⟩
        repeat refine Below.setCell ?_ ?_ _
        · exact hw
        all_goals (simp; try omega)
      · have c0' : wc.cell? ⟨b3, 0, none⟩ = some (.int .i64 22) := c0
        clear c0
        go_wp2_with fail
        refine bodyPost_ret (v := (cmdFor (1 + 21) key fld n txt).v) (by simp [results, Tryz.results24, go_sem, cmdFor, Cmd.v, s0, s1, s2, s3, s4]) rfl ⟨rfl, ?_⟩
        repeat refine Below.setCell ?_ ?_ _
        · exact hw
        all_goals (simp; try omega)
end Go.Proofs.YtndadgjidihfeaaGreat
