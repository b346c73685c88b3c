/- Sorted texts rise just if all are different. -/
import Derived.Test.YtfnephnecighaaaGreatMp0
import Derived.Test.YtfnephnecighaaaGreatVh
namespace Go.Proofs.YtfnephnecighaaaGreat
open Go.RowKit
set_option linter.unusedVariables false

theorem toList_ofBytes (t : List UInt8) : (ofBytes t).toList = t := by rw [ByteArray.toList_eq]; rfl
theorem ltS_of (a b : List UInt8) : ltS (ofBytes a) (ofBytes b) = true ↔ a < b := by rw [ltS_iff, toList_ofBytes, toList_ofBytes]
theorem data_inj {a b : ByteArray} (h : a.data.toList = b.data.toList) : a = b := bytes_ext (by rw [ByteArray.toList_eq, ByteArray.toList_eq, h])
theorem sorted_rises (l : List ByteArray) : risesB ltS (sortT l) = true ↔ l.Nodup := by
  rw [rises_pair (lt := ltS) (fun a b c h h' => ltS_trans h h')]
  unfold sortT
  rw [List.pairwise_map]
  simp only [ltS_of]
  have hp := List.mergeSort_perm (l.map fun s => s.data.toList) (fun x y => decide (x ≤ y))
  have hn : ((l.map fun s => s.data.toList).mergeSort fun x y => decide (x ≤ y)).Nodup ↔ l.Nodup := by
    rw [hp.nodup_iff]
    constructor
    · intro h; exact List.Pairwise.imp (fun h e => h (by rw [e])) (List.pairwise_map.1 h)
    · intro h; exact List.pairwise_map.2 (h.imp fun h e => h (data_inj e))
  have hs : ((l.map fun s => s.data.toList).mergeSort fun x y => decide (x ≤ y)).Pairwise (fun x y => x ≤ y) := by
    have := List.pairwise_mergeSort (le := fun (x y : List UInt8) => decide (x ≤ y)) (fun a b c h h' => by simp at *; exact List.le_trans h h') (fun a b => by simp; exact List.le_total a b) (l.map fun s => s.data.toList)
    exact this.imp fun h => by simpa using h
  rw [← hn]
  constructor
  · intro h; exact h.imp fun h e => by subst e; exact List.lt_irrefl (_ : List UInt8) h
  · intro h
    exact (hs.and h).imp fun {a b} h => by
      rcases Decidable.em (a < b) with h3 | h3
      · exact h3
      · exact absurd (List.le_antisymm h.1 (List.not_lt.1 h3)) h.2
end Go.Proofs.YtfnephnecighaaaGreat
