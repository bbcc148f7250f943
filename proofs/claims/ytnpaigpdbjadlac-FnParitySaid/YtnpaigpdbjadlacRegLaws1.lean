/- The walks of the laws of validity and parity. -/
import Derived.Test.YtnpaigpdbjadlacRegBase
namespace Go.Proofs.Ytnpaigpdbjadlac
open Go.RowKit
theorem fnExactRegisterValid_walk (S T X : Int) (w : World) (_ : (Lit.int .i64 S).wf = true) (_ : (Lit.int .i64 T).wf = true) (_ : (Lit.int .i64 X).wf = true) :
    Calls Try.prog 3 #[.agg #[.int .i64 S, .int .i64 T, .int .i64 X]] w fun e w' => e = .returned (.bool true) ∧ Below w.heap.size w w' := by
  have r0 := RegAt.new w 23 S T X
  have b0 : Below w.heap.size w (w.alloc (.cells #[.int .i64 S, .int .i64 T, .int .i64 X] 23)) := (Below.refl _ _).alloc (Nat.le_refl _) _
  go_enter Try.func3, Try.ntmps3
  go_wp2_with fail
  refine (toRegister_any S T X _).mono ?_
  rintro e w1 ⟨rfl, hb1⟩
  have r1 := r0.below hb1 (by simp)
  have b1 := below_then b0 (Nat.le_refl _) hb1
  go_wp2_with fail
  refine (sRegisterValid_any S T X _).mono ?_
  rintro e w2 ⟨rfl, hb2⟩
  have r2 := r1.below hb2 r1.2.2.2
  have b2 := below_then b1 (Nat.le_refl _) hb2
  obtain ⟨c0, c1, c2, cl⟩ := id r2
  go_wp2_with fail
  clear c0 c1 c2 cl
  refine (toRegister_any S T X _).mono ?_
  rintro e w3 ⟨rfl, hb3⟩
  have b3 := below_then b2 (Nat.le_refl _) hb3
  go_wp2_with fail
  refine (iRegisterValid_any S T X _).mono ?_
  rintro e w4 ⟨rfl, hb4⟩
  have b4 := below_then b3 (Nat.le_refl _) hb4
  go_wp2
  go_ret
  exact ⟨rfl, b4⟩
theorem sParity_neg (n : Int) (w : World) (h : n < 0) :
    Calls Try.prog 11 #[.int .i64 n] w fun e w' => e = .returned (.int .i64 (-1)) ∧ w = w' := by
  go_enter Try.func11, Try.ntmps11
  go_wp2
  go_ret
  exact ⟨rfl, rfl⟩
theorem sParity_any (n : Nat) (w : World) (h : n ≤ 9223372036854775807) :
    Calls Try.prog 11 #[.int .i64 n] w fun e w' => e = .returned (.int .i64 (par n : Nat)) ∧ w = w' := by
  have hn : ¬ ((n : Int) < 0) := by omega
  go_enter Try.func11, Try.ntmps11
  go_wp2_with (first | (go_at_call 25; refine (l1Parity_any _ _ h).mono ?_; rintro e w' ⟨rfl, rfl⟩))
  go_ret
  exact ⟨rfl, rfl⟩
theorem fnExactParity_walk (a : Int) (w : World) (wf : (Lit.int .i64 a).wf = true) :
    Calls Try.prog 4 #[.int .i64 a] w fun e w' => e = .returned (.bool true) ∧ Below w.heap.size w w' := by
  by_cases h : a < 0
  · go_enter Try.func4, Try.ntmps4
    go_wp2_with fail
    refine (sParity_neg a _ h).mono ?_
    rintro e w1 ⟨rfl, rfl⟩
    go_wp2_with fail
    refine (parity_neg a _ h).mono ?_
    rintro e w1 ⟨rfl, rfl⟩
    go_wp2
    go_ret
    exact ⟨rfl, Below.refl _ _⟩
  · obtain ⟨n, rfl⟩ : ∃ n : Nat, a = n := ⟨a.toNat, by omega⟩
    have hn : n ≤ 9223372036854775807 := by
      have := wf
      simp [Lit.wf] at this
      omega
    go_enter Try.func4, Try.ntmps4
    go_wp2_with fail
    refine (sParity_any n _ hn).mono ?_
    rintro e w1 ⟨rfl, rfl⟩
    go_wp2_with fail
    refine (parity_any n _ hn).mono ?_
    rintro e w1 ⟨rfl, rfl⟩
    go_wp2
    go_ret
    exact ⟨rfl, Below.refl _ _⟩
end Go.Proofs.Ytnpaigpdbjadlac
