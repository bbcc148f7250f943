/- The bytes of a string as a row of the call's own, and back. -/
import Derived.Test.YtdafepfjjmdkeaaDoorSeqTurn
import Derived.Lib.ConvBytes
import Derived.Lib.OwnBridge
namespace Go.Proofs.YtdafepfjjmdkeaaDoor
open Go.RowKit
set_option linter.unusedVariables false
set_option maxRecDepth 100000
theorem bytes_row (w : World) (t : TypeId) (z : ByteArray) : (∀ j, j < z.size → (Lib.bytesWorld w t z).cell? ⟨w.heap.size, j, none⟩ = some (.int .u8 (zb z j : Nat)) ∧ (Lib.bytesWorld w t z).frozen? ⟨w.heap.size, j, none⟩ = false) := fun j hj => by
  refine ⟨by rw [Lib.bytesWorld_cell w t z j hj]; rfl, ?_⟩
  unfold World.frozen?
  rw [show (⟨w.heap.size, j, none⟩ : Addr).block = w.heap.size from rfl, Lib.bytesWorld_at_new]
  have hl : z.size ≤ (Lib.bytesCells w t z).size := by unfold Lib.bytesCells; rw [Array.size_append, Array.size_map]; show z.size ≤ z.size + _; omega
  simp
  omega
theorem below_bytesW (w : World) (e : TypeId) (s : ByteArray) : Below w.heap.size w (Lib.bytesWorld w e s) :=
  ⟨rfl, rfl, rfl, by rw [Lib.bytesWorld_size]; omega, fun k hk => Lib.bytesWorld_at_old w e s k hk⟩
theorem str_cells {W : World} {g n cap : Nat} {f : Nat → Nat} (hc : ∀ i, i < n → W.cell? ⟨g, i, none⟩ = some (.int .u8 (f i : Nat))) : (convert 31 9 (.slice (some ⟨g, 0, none⟩) n cap)).run Tryd.prog W = .ok (.string (strF n f)) W := by
  have := run_convert_bytes_arg (P := Tryd.prog) W 31 5 (by kernel_rfl) (by kernel_rfl) g 0 n cap ((List.range n).map fun i => ((f i : Nat) : Int)) (by simp) (fun i hi => by
    rw [Nat.zero_add, hc i (by omega)]
    simp [List.getD_eq_getElem?_getD, hi]) 9 (by kernel_rfl)
  rw [this]
  congr 1
  unfold strOfNums strF
  simp [List.map_map, Function.comp_def]
end Go.Proofs.YtdafepfjjmdkeaaDoor
