/- Bits of any length with all of them changed, on the model's side. -/
import Derived.Test.YtdafepfjjmdkeaaDoorSeqFun3
import Derived.Test.YtdafepfjjmdkeaaDoorFrm0
namespace Go.Proofs.YtdafepfjjmdkeaaDoor
open Go.RowKit
set_option linter.unusedVariables false
theorem invS_bits {z : ByteArray} (h : okB z z.size = true) : okB (invS z) (invS z).size = true := okB_of_zb _ fun i hi => by
  rw [invS_size] at hi; rw [zb_invS z i hi]; rcases okB_zb z h i hi with e | e <;> rw [e] <;> simp
set_option maxRecDepth 100000 in
theorem l2Invert_big (z : ByteArray) (w : World) (h1 : okB z z.size = true) (h2 : z.size ≤ 900) :
    Calls Tryd.prog 33 #[.string z] w fun e w' => e = .returned (.string (invS z)) ∧ Below w.heap.size w w' := by
  have HM := Lib.hid (fun w => l9Many_any ⟨#[49]⟩ z.size w (by show 1 * z.size ≤ _; omega) (by omega))
  have HA := Lib.hid (fun w => l2Add_big z (many ⟨#[49]⟩ z.size) w h1 (many_one_ok _) (many_one_size _).symm (by omega))
  have HI := Lib.hid (invS_add z h1)
  obtain ⟨y, hy⟩ : ∃ y, many ⟨#[49]⟩ z.size = y := ⟨_, rfl⟩
  rw [hy] at HM HA HI
  clear hy h1
  go_enter Tryd.func33, Tryd.ntmps33
  go_wp2_with fail
  refine (HM.out _).mono ?_
  rintro e w1 ⟨rfl, rfl⟩
  go_wp2_with fail
  refine (HA.out _).mono ?_
  rintro e w1 ⟨rfl, hB⟩
  go_wp2
  go_ret
  exact ⟨ret_str HI.out, hB⟩
end Go.Proofs.YtdafepfjjmdkeaaDoor
