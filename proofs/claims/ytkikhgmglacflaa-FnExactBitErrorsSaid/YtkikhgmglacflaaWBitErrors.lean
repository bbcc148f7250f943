/- The walk of the law FnExactBitErrors. -/
import Derived.Test.YtkikhgmglacflaaSig3
namespace Go.Proofs.Ytkikhgmglacflaa
open Go.RowKit
set_option linter.unusedVariables false
set_option maxHeartbeats 3200000 in
set_option maxRecDepth 100000 in
theorem fnExactBitErrors_walk (z0 : ByteArray) (z1 : ByteArray) (w : World) (h0 : z0.size ≤ maxLen) (h1 : z1.size ≤ maxLen) :
    Calls Try.prog 14 #[.string z0, .string z1] w fun e w' => e = .returned (.bool true) ∧ Below w.heap.size w w' := by
  unfold maxLen at h0
  unfold maxLen at h1
  by_cases hg0 : 1048576 < z0.size
  · skip
    go_enter Try.func14, Try.ntmps14
    go_wp2
    go_ret
    exact ⟨rfl, Below.refl _ _⟩
  · skip
    by_cases hg1 : 1048576 < z1.size
    · skip
      go_enter Try.func14, Try.ntmps14
      go_wp2
      go_ret
      exact ⟨rfl, Below.refl _ _⟩
    · skip
      have hp := (fun  w  => sErrs_any z0 z1 w (by omega) (by omega))
      have hq := (fun  w  => iErrs_any z0 z1 w (by omega) (by omega))
      obtain ⟨X0, hX0⟩ : ∃ X, errAns z0 z1 = X := ⟨_, rfl⟩
      rw [hX0] at hp hq
      clear hX0
      have HP := Lib.hid hp
      have HQ := Lib.hid hq
      clear hp hq
      have bc : Below w.heap.size w w := Below.refl _ _
      go_enter Try.func14, Try.ntmps14
      have bc0 : Hid (w.heap.size ≤ w.heap.size) := Lib.hid (Nat.le_refl _)
      go_wp2_with fail
      refine (HP.out  _ ).mono ?_
      rintro e w1 ⟨rfl, hb2⟩
      have b3 := below_then bc (Nat.le_refl _) hb2
      clear bc
      have bc := b3
      clear b3
      have bc1 : Hid (w.heap.size ≤ _) := Lib.hid bc.size
      clear bc0
      have bc0 := bc1
      clear bc1
      clear hb2
      go_wp2_with fail
      refine (HQ.out  _ ).mono ?_
      rintro e w4 ⟨rfl, hb5⟩
      have b6 := below_then bc (Nat.le_refl _) hb5
      clear bc
      have bc := b6
      clear b6
      have bc1 : Hid (w.heap.size ≤ _) := Lib.hid bc.size
      clear bc0
      have bc0 := bc1
      clear bc1
      clear hb5
      go_wp2
      go_ret
      exact ⟨rfl, bc⟩
end Go.Proofs.Ytkikhgmglacflaa

