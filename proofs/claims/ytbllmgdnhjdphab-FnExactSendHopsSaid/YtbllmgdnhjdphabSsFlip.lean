/- ssFlip: a bit of a string changed. -/
import Derived.Test.YtbllmgdnhjdphabFrm0
import Derived.Lib.ConvBytes
import Derived.Lib.OwnBridge
import Derived.StillTailTactics
namespace Go.Proofs.Ytbllmgdnhjdphab
open Go.RowKit
set_option linter.unusedVariables false
set_option maxRecDepth 100000
/-- A string with one bit changed. -/
def flipS (z : ByteArray) (k : Nat) : ByteArray := strF z.size (fun i => if i = k then 97 - zb z i else zb z i)
theorem flipS_size (z : ByteArray) (k : Nat) : (flipS z k).size = z.size := strF_size _ _
theorem zb_flipS {z : ByteArray} {k i : Nat} (hi : i < z.size) : zb (flipS z k) i = if i = k then 97 - zb z i else zb z i := by
  have := zb_lt z i
  exact zb_strF (f := fun i => if i = k then 97 - zb z i else zb z i) hi (by show (if i = k then 97 - zb z i else zb z i) < 256; split <;> omega)
theorem flipS_ok {z : ByteArray} (h : okB z z.size = true) (k : Nat) : okB (flipS z k) (flipS z k).size = true := okB_of_zb _ fun i hi => by
  rw [flipS_size] at hi
  rw [zb_flipS hi]
  rcases okB_zb z h i hi with e | e <;> rw [e] <;> split <;> simp
theorem bytes_row (w : World) (t : TypeId) (z : ByteArray) : (∀ j, j < z.size → (Lib.bytesWorld w t z).cell? ⟨w.heap.size, j, none⟩ = some (.int .u8 (zb z j : Nat)) ∧ (Lib.bytesWorld w t z).frozen? ⟨w.heap.size, j, none⟩ = false) := fun j hj => by
  refine ⟨by rw [Lib.bytesWorld_cell w t z j hj]; rfl, ?_⟩
  unfold World.frozen?
  rw [show (⟨w.heap.size, j, none⟩ : Addr).block = w.heap.size from rfl, Lib.bytesWorld_at_new]
  have hl : z.size ≤ (Lib.bytesCells w t z).size := by unfold Lib.bytesCells; rw [Array.size_append, Array.size_map]; show z.size ≤ z.size + _; omega
  simp
  omega
theorem below_bytesW (w : World) (e : TypeId) (s : ByteArray) : Below w.heap.size w (Lib.bytesWorld w e s) :=
  ⟨rfl, rfl, rfl, by rw [Lib.bytesWorld_size]; omega, fun k hk => Lib.bytesWorld_at_old w e s k hk⟩
theorem str_cells {W : World} {g n cap : Nat} {f : Nat → Nat} (hc : ∀ i, i < n → W.cell? ⟨g, i, none⟩ = some (.int .u8 (f i : Nat))) : (convert 34 9 (.slice (some ⟨g, 0, none⟩) n cap)).run Try.prog W = .ok (.string (strF n f)) W := by
  have := run_convert_bytes_arg (P := Try.prog) W 34 5 (by kernel_rfl) (by kernel_rfl) g 0 n cap ((List.range n).map fun i => ((f i : Nat) : Int)) (by simp) (fun i hi => by
    rw [Nat.zero_add, hc i (by omega)]
    simp [List.getD_eq_getElem?_getD, hi]) 9 (by kernel_rfl)
  rw [this]
  congr 1
  unfold strOfNums strF
  simp [List.map_map, Function.comp_def]
end Go.Proofs.Ytbllmgdnhjdphab
