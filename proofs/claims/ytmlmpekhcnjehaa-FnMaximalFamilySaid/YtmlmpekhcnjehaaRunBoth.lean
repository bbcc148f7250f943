/- RunRegister of both sides, and the walk of its exact law. -/
import Derived.Test.YtmlmpekhcnjehaaRunReg
import Derived.Test.YtmlmpekhcnjehaaSeqFun
namespace Go.Proofs.Ytmlmpekhcnjehaa
open Go.RowKit
set_option linter.unusedVariables false
def runAns (S T X N : Int) : ByteArray × Bool := if regB S T X = true ∧ 0 ≤ N ∧ N ≤ 600 then (runS S.toNat T.toNat X.toNat N.toNat, true) else noS
theorem runAns_yes {s t x n : Nat} (h : RegN s t x) (hn : n ≤ 600) : runAns s t x n = (runS s t x n, true) := by
  unfold runAns; rw [if_pos ⟨h.valid, by omega, by omega⟩]; rfl
theorem runAns_no {S T X N : Int} (h : ¬ (regB S T X = true ∧ 0 ≤ N ∧ N ≤ 600)) : runAns S T X N = noS := by unfold runAns; rw [if_neg h]
set_option maxRecDepth 100000 in
theorem iRun_any (S T X N : Int) (w : World) :
    Calls Try.prog 33 #[.agg #[.int .i64 S, .int .i64 T, .int .i64 X], .int .i64 N] w fun e w' => e = .returned (.tuple #[.string (runAns S T X N).1, .bool (runAns S T X N).2]) ∧ Below w.heap.size w w' := by
  cases hv : regB S T X with
  | true =>
    obtain ⟨s, t, x, rfl, rfl, rfl, hR⟩ := RegN.of hv
    by_cases hN : 0 ≤ N ∧ N ≤ 600
    · obtain ⟨n, rfl⟩ : ∃ n : Nat, N = n := ⟨N.toNat, by omega⟩
      rw [runAns_yes hR (by omega)]
      exact iRun_yes s t x n w hR (by omega)
    · rw [runAns_no (fun h => hN h.2)]
      have b0 : Below w.heap.size w (w.alloc (.cells #[.int .i64 s, .int .i64 t, .int .i64 x] 57)) := (Below.refl _ _).alloc (Nat.le_refl _) _
      by_cases h0 : N < 0
      · go_enter Try.func33, Try.ntmps33
        go_wp2_with fail
        refine (run_valid s t x _ hR).mono ?_
        rintro e w1 ⟨rfl, hb⟩
        have b1 := below_then b0 (Nat.le_refl _) hb
        clear b0 hb
        go_wp2
        go_ret2
        exact ⟨rfl, b1⟩
      · have h6 : 600 < N := by omega
        go_enter Try.func33, Try.ntmps33
        go_wp2_with fail
        refine (run_valid s t x _ hR).mono ?_
        rintro e w1 ⟨rfl, hb⟩
        have b1 := below_then b0 (Nat.le_refl _) hb
        clear b0 hb
        go_wp2
        go_ret2
        exact ⟨rfl, b1⟩
  | false =>
    rw [runAns_no (by rw [hv]; simp)]
    have b0 : Below w.heap.size w (w.alloc (.cells #[.int .i64 S, .int .i64 T, .int .i64 X] 57)) := (Below.refl _ _).alloc (Nat.le_refl _) _
    go_enter Try.func33, Try.ntmps33
    go_wp2_with fail
    refine (run_invalid S T X _ hv).mono ?_
    rintro e w1 ⟨rfl, hb⟩
    have b1 := below_then b0 (Nat.le_refl _) hb
    clear b0 hb
    go_wp2
    go_ret2
    exact ⟨rfl, b1⟩
end Go.Proofs.Ytmlmpekhcnjehaa
