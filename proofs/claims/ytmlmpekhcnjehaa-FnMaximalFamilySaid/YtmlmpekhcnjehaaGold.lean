/- Contracts of GoldBound, of both sides. -/
import Derived.Test.YtmlmpekhcnjehaaRegBase
namespace Go.Proofs.Ytmlmpekhcnjehaa
open Go.RowKit
set_option linter.unusedVariables false
/-- The greatest correlation of Gold codes. -/
def goldA (S : Int) : Int := if 2 ≤ S ∧ S ≤ 8 then 1 + (tw ((S.toNat + 2) / 2) : Nat) else -1
theorem goldA_no {S : Int} (h : ¬ (2 ≤ S ∧ S ≤ 8)) : -1 = goldA S := by unfold goldA; rw [if_neg h]
set_option maxRecDepth 100000 in
theorem iGold_any (S : Int) (w : World) : Calls Try.prog 30 #[.int .i64 S] w fun e w' => e = .returned (.int .i64 (goldA S)) ∧ Below w.heap.size w w' := by
  by_cases h : 2 ≤ S ∧ S ≤ 8
  · have h7 : S = 2 ∨ S = 3 ∨ S = 4 ∨ S = 5 ∨ S = 6 ∨ S = 7 ∨ S = 8 := by omega
    clear h
    rcases h7 with rfl | rfl | rfl | rfl | rfl | rfl | rfl
    all_goals
      go_enter Try.func30, Try.ntmps30
      go_wp2_with (first | (go_at_call 28; refine (sizeValid_yes _ _ (by omega) (by omega)).mono ?_; rintro e w' ⟨rfl, rfl⟩))
      go_ret
      exact ⟨rfl, Below.refl _ _⟩
  · have HG := Lib.hid (goldA_no h)
    go_enter Try.func30, Try.ntmps30
    go_wp2_with (first | (go_at_call 28; refine (sizeValid_no _ _ h).mono ?_; rintro e w' ⟨rfl, rfl⟩))
    go_ret
    exact ⟨ret_int HG.out, Below.refl _ _⟩
set_option maxRecDepth 100000 in
theorem sGold_any (S : Int) (w : World) : Calls Try.prog 48 #[.int .i64 S] w fun e w' => e = .returned (.int .i64 (goldA S)) ∧ Below w.heap.size w w' := by
  by_cases h : 2 ≤ S ∧ S ≤ 8
  · have h7 : S = 2 ∨ S = 3 ∨ S = 4 ∨ S = 5 ∨ S = 6 ∨ S = 7 ∨ S = 8 := by omega
    clear h
    have t2 : ∀ w, Calls Try.prog 58 #[.int .i64 2] w fun e w' => e = .returned (.int .i64 4) ∧ w = w' := fun w => l1Two_any 2 w (by omega)
    have t3 : ∀ w, Calls Try.prog 58 #[.int .i64 3] w fun e w' => e = .returned (.int .i64 8) ∧ w = w' := fun w => l1Two_any 3 w (by omega)
    have t4 : ∀ w, Calls Try.prog 58 #[.int .i64 4] w fun e w' => e = .returned (.int .i64 16) ∧ w = w' := fun w => l1Two_any 4 w (by omega)
    have t5 : ∀ w, Calls Try.prog 58 #[.int .i64 5] w fun e w' => e = .returned (.int .i64 32) ∧ w = w' := fun w => l1Two_any 5 w (by omega)
    rcases h7 with rfl | rfl | rfl | rfl | rfl | rfl | rfl
    all_goals
      go_enter Try.func48, Try.ntmps48
      go_wp2_with (first | (go_at_call 64; refine (l1In_yes _ _ _ _ (by omega) (by omega)).mono ?_; rintro e w' ⟨rfl, rfl⟩) | (go_at_call 58; refine (t2 _).mono ?_; rintro e w' ⟨rfl, rfl⟩) | (go_at_call 58; refine (t3 _).mono ?_; rintro e w' ⟨rfl, rfl⟩) | (go_at_call 58; refine (t4 _).mono ?_; rintro e w' ⟨rfl, rfl⟩) | (go_at_call 58; refine (t5 _).mono ?_; rintro e w' ⟨rfl, rfl⟩))
      go_ret
      exact ⟨rfl, Below.refl _ _⟩
  · have HG := Lib.hid (goldA_no h)
    go_enter Try.func48, Try.ntmps48
    go_wp2_with (first | (go_at_call 64; refine (l1In_no _ _ _ _ h).mono ?_; rintro e w' ⟨rfl, rfl⟩))
    go_ret
    exact ⟨ret_int HG.out, Below.refl _ _⟩
end Go.Proofs.Ytmlmpekhcnjehaa
