/- Rows that are made: so many zero bytes, and the text that they are. -/
import Derived.Test.YtahnfhofafjjmaaCb
import Derived.Deep.OwnRows
import Derived.Laws.IdiomStrings
namespace Go.Proofs.Ytahnfhofafjjmaa
open Go.RowKit
set_option linter.unusedVariables false

theorem info_u8 : (Try.prog.info? 5).map (fun i => (i.zero, i.size, i.bytes)) = some (some (.int .u8 0), 1, 1) := by kernel_rfl

/-- So many zero bytes. -/
def zeros (k : Nat) : ByteArray := ⟨(List.replicate k (0 : UInt8)).toArray⟩
theorem size_zeros (k : Nat) : (zeros k).size = k := by simp [zeros, ByteArray.size]

theorem run_zeros (k : Nat) (W : World) (b cap : Nat) (hc : ∀ j, j < k → W.cell? ⟨b, j, none⟩ = some (.int .u8 0)) :
    (convert 36 9 (.slice (some ⟨b, 0, none⟩) k cap)).run Try.prog W = .ok (.string (zeros k)) W := by
  have := run_convert_bytes_back (P := Try.prog) W 36 9 5 ⟨b, 0, none⟩ cap (List.replicate k (0 : UInt8)) Try.underlying36 Try.underlying5 Try.underlying9
    (fun j hj => by
      have hj' : j < k := by simpa using hj
      have e : (⟨b, 0, none⟩ : Addr).add j = ⟨b, j, none⟩ := by by_cases h0 : j = 0 <;> simp [Addr.add, h0]
      rw [e, hc j hj']
      simp)
  simpa [zeros] using this

theorem made_text (w : World) (k j : Nat) (e : TypeId) (h : j < k) : (w.alloc (.cells (madeCells #[Value.string ⟨#[]⟩] k) e)).cell? ⟨w.heap.size, j, none⟩ = some (.string ⟨#[]⟩) := by
  rw [World.cell?_alloc_mark]
  simp [madeCells, h, Nat.mod_one]
theorem made_cell (w : World) (k j : Nat) (e : TypeId) (h : j < k) : (w.alloc (.cells (madeCells #[Value.int .u8 0] k) e)).cell? ⟨w.heap.size, j, none⟩ = some (.int .u8 0) := by
  rw [World.cell?_alloc_mark]
  simp [madeCells, h, Nat.mod_one]

end Go.Proofs.Ytahnfhofafjjmaa
