/- strings.Clone, strings.HasPrefix at this program. -/
import Derived.Test.YtdmpbcbbbjceiaaDoorFrm0
import Derived.Lib.UnsafeStr
import Derived.Lib.Walk
import Derived.Lib.Strings
namespace Go.Proofs.YtdmpbcbbbjceiaaDoor
open Go.RowKit
set_option linter.unusedVariables false
set_option maxRecDepth 100000
/-- Whether a string begins with another one. -/
def preB (s p : ByteArray) : Bool := decide (p.size ≤ s.size) && (s.extract 0 p.size).toList == p.toList
theorem preB_iff (s p : ByteArray) : preB s p = true ↔ p.size ≤ s.size ∧ s.extract 0 p.size = p := by
  unfold preB
  rw [Bool.and_eq_true, decide_eq_true_eq]
  constructor
  · rintro ⟨h1, h2⟩
    refine ⟨h1, ?_⟩
    apply Classical.byContradiction
    intro hne
    rw [str_ne hne] at h2
    cases h2
  · rintro ⟨h1, h2⟩
    exact ⟨h1, by rw [h2]; exact beq_self_eq_true _⟩
theorem slPrefix_any (s p : ByteArray) (w : World) :
    Calls Tryd.prog 31 #[.string s, .string p] w fun e w' => e = .returned (.bool (preB s p)) ∧ w = w' := by
  by_cases h : p.size ≤ s.size
  · have HX : Hid (((s.extract 0 p.size).toList == p.toList) = preB s p) := Lib.hid (by unfold preB; rw [decide_eq_true h, Bool.true_and])
    have i1 : (p.size : Int) ≤ (s.size : Int) := by omega
    clear h
    go_enter Tryd.func31, Tryd.ntmps31
    go_wp2
    go_ret
    exact ⟨ret_bool HX.out, rfl⟩
  · have HX : Hid (false = preB s p) := Lib.hid (by unfold preB; rw [decide_eq_false h]; rfl)
    have i1 : ¬ (p.size : Int) ≤ (s.size : Int) := by omega
    clear h
    go_enter Tryd.func31, Tryd.ntmps31
    go_wp2
    go_ret
    exact ⟨ret_bool HX.out, rfl⟩
theorem prefix_any (s p : ByteArray) (w : World) :
    Calls Tryd.prog 22 #[.string s, .string p] w fun e w' => e = .returned (.bool (preB s p)) ∧ w = w' := by
  have HC := Lib.hid (fun w => slPrefix_any s p w)
  go_enter Tryd.func22, Tryd.ntmps22
  go_wp2_with fail
  refine (HC.out _).mono ?_
  rintro e w1 ⟨rfl, rfl⟩
  go_wp2
  go_ret
  exact ⟨rfl, rfl⟩
end Go.Proofs.YtdmpbcbbbjceiaaDoor
