/- ssInts of two lists with the same numbers, whoever made them. -/
import Derived.Test.YtmeooebklohdfaaIntsBig
import Derived.BigQuiet
namespace Go.Proofs.Ytmeooebklohdfaa
open Go.RowKit
set_option linter.unusedVariables false
set_option maxRecDepth 100000
theorem ssInts_sameR (v u : Value) (n : Nat) (f : Nat → Int) (w : World) (hv : IntsR w v n f) (hu : IntsR w u n f) (hn : n ≤ 1000000) :
    Calls Try.prog 16 #[v, u] w fun e w' => e = .returned (.bool true) ∧ ∃ m, w' = w.drewN m := by
  obtain ⟨a, cap, rfl, ha⟩ := hv
  obtain ⟨b, cap', rfl, hb⟩ := hu
  have HA := Lib.hid ha
  have HB := Lib.hid hb
  clear ha hb
  go_enter Try.func16, Try.ntmps16
  go_wp2
  go_loopw [5] (fun i wr => ∃ k m : Nat, k ≤ n ∧ i = .int .i64 k ∧ wr = w.drewN m) (fun i _ => n - (intOf i).toNat)
  case atStart => exact ⟨0, 0, by omega, rfl, rfl⟩
  case round =>
    obtain ⟨k, m, hk, rfl, rfl⟩ := hrel
    by_cases hlt : k < n
    · obtain ⟨x1, rfl, -, h1⟩ := HA.out k hlt
      obtain ⟨x2, rfl, -, h2⟩ := HB.out k hlt
      have c1 : (w.drewN m).cell? (x1.add k) = some (.int .i64 (f k)) := h1
      have c2 : (w.drewN m).cell? (x2.add k) = some (.int .i64 (f k)) := h2
      clear h1 h2
      have i0 : (0 : Int) ≤ (k : Int) := by omega
      have i1 : (k : Int) < (n : Int) := by omega
      obtain ⟨X, hX⟩ : ∃ X, f k = X := ⟨_, rfl⟩
      rw [hX] at c1 c2
      clear hX
      obtain ⟨W, hW⟩ : ∃ W, w.drewN m = W := ⟨_, rfl⟩
      rw [hW] at c1 c2 ⊢
      have HW := Lib.hid hW
      clear hW
      go_wp2_with fail
      go_quiet (fail)
      clear c1 c2
      go_wp2
      go_roundw
      case rel => exact ⟨k + 1, m + nq, by omega, by go_num, by rw [← HW.out, World.drewN_drewN]⟩
      case measure => simp [intOf]; omega
    · obtain rfl : k = n := by omega
      go_wp2
      go_ret
      exact ⟨rfl, m, rfl⟩
end Go.Proofs.Ytmeooebklohdfaa
