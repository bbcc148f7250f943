/- What the functions answer about the codes of one order. -/
import Derived.Test.YtgfehabpoebaoaaSsWal
import Derived.Test.YtgfehabpoebaoaaWalMath
namespace Go.Proofs.Ytgfehabpoebaoaa
open Go.RowKit
set_option linter.unusedVariables false
set_option maxRecDepth 100000
theorem wal_code (O K : Nat) (hO : O ≤ 6) (hK : K < tw O) (w : World) :
    Calls Try.prog 30 #[.int .i64 (O : Int), .int .i64 (K : Int)] w fun e w' => e = .returned (.string (walshB (tw O) K)) ∧ Below w.heap.size w w' := by
  refine (ssWal_any (O : Int) (K : Int) w).mono fun e w' h => ?_
  rw [walshAns_yes hO hK] at h
  exact h
theorem wal_all (O I : Nat) (hO : O ≤ 6) (hI : I < tw O) : ∃ (N : Nat) (G : Nat → ByteArray), 1 ≤ N ∧ N ≤ 64 ∧ (2 : Int) ^ O = (N : Int) ∧ I < N ∧ walshAns O I = (G I, true) ∧ (G I).size = N ∧ (∀ k, k < N → I ^^^ k < N) ∧
    (∀ k, k < N → ∀ w, Calls Try.prog 30 #[.int .i64 (O : Int), .int .i64 (k : Int)] w fun e w' => e = .returned (.string (G k)) ∧ Below w.heap.size w w') ∧
    (∀ k, k < N → ∀ w, Calls Try.prog 26 #[.string (G I), .string (G k), .int .i64 0] w fun e w' => e = .returned (.tuple #[.int .i64 (if I = k then (N : Int) else 0), .bool true]) ∧ Below w.heap.size w w') ∧
    (∀ k, k < N → ∀ w, Calls Try.prog 31 #[.string (G I), .string (G k)] w fun e w' => e = .returned (.tuple #[.string (G (I ^^^ k)), .bool true]) ∧ Below w.heap.size w w') ∧
    (∀ w, Calls Try.prog 22 #[.string (G I)] w fun e w' => e = .returned (.tuple #[.int .i64 (I : Int), .bool true]) ∧ Below w.heap.size w w') := by
  have hp : ∀ k, k < tw O → pairB (walshB (tw O) I) (walshB (tw O) k) = true := fun k _ => (pairB_iff _ _).2 ⟨walshB_sq I hO, walshB_sq k hO, by rw [walshB_size, walshB_size]⟩
  have h6 : tw O ≤ 64 := tw_6 O hO
  refine ⟨tw O, walshB (tw O), tw_pos O, h6, int_tw O, hI, walshAns_yes hO hI, walshB_size _ _, fun k hk => Nat.xor_lt_two_pow hI hk, fun k hk w => ?_, fun k hk w => ?_, fun k hk w => ?_, fun w => ?_⟩
  · refine (ssWal_any (O : Int) (k : Int) w).mono fun e w' h => ?_
    rw [walshAns_yes hO hk] at h
    exact h
  · refine (iCross_yes _ _ 0 w (hp k hk)).mono fun e w' h => ?_
    have e0 : modN 0 (walshB (tw O) k).size = 0 := by unfold modN; simp
    rw [e0, cross_wal hO hI hk] at h
    exact h
  · refine (iAdd_yes _ _ w (hp k hk)).mono fun e w' h => ?_
    rw [add_wal] at h
    exact h
  · refine (iIdx_any _ w (by rw [walshB_size]; omega)).mono fun e w' h => ?_
    rw [idx_wal hO hI] at h
    exact h
end Go.Proofs.Ytgfehabpoebaoaa
