/- Contracts: turned copies of a sequence of the program, shifted strings of the model, ShiftBits of both sides. -/
import Derived.Test.YtkikhgmglacflaaSeqBase
import Derived.Test.YtkikhgmglacflaaSeqCopy
namespace Go.Proofs.Ytkikhgmglacflaa
open Go.RowKit
set_option linter.unusedVariables false
theorem ret_str {a b : ByteArray} (h : a = b) : Ending.returned (.string a) = .returned (.string b) := by rw [h]
theorem ret_slice {x : Option Addr} {a b : Nat} (h : a = b) : Ending.returned (.slice x a a) = .returned (.slice x b b) := by rw [h]
theorem sizeOf_u8 : ∀ w, (Go.sizeOf 5).run Try.prog w = .ok 1 w := fun _ => by kernel_rfl
theorem make_bytes (n : Nat) (h : n ≤ 9223372036854775807) (hb : 1 * n ≤ 281474976710656) (w : World) :
    (Instr.makeSlice 57 (.int .i64 (n : Int)) (.int .i64 (n : Int))).run Try.prog w = .ok (.slice (some ⟨w.heap.size, 0, none⟩) n n) (w.alloc (.cells (madeCells #[.int .u8 0] n) 5)) :=
  run_make_row' (P := Try.prog) 57 5 (.int .u8 0) 1 (by kernel_rfl) (by kernel_rfl) rfl .i64 .i64 n hb h w
end Go.Proofs.Ytkikhgmglacflaa
