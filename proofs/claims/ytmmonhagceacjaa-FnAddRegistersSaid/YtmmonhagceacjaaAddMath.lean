/- Plain mathematics: bits of the sum of two registers. -/
import Derived.Test.YtmmonhagceacjaaShortMath
import Derived.Test.YtmmonhagceacjaaRegAdd
namespace Go.Proofs.Ytmmonhagceacjaa
open Go.RowKit
theorem addB_two {p q : Nat} (hp : p < 2) (hq : q < 2) : addB (48 + p) (48 + q) = 48 + (p + q) % 2 := by
  have h1 : p = 0 ∨ p = 1 := by omega
  have h2 : q = 0 ∨ q = 1 := by omega
  rcases h1 with rfl | rfl <;> rcases h2 with rfl | rfl <;> decide
theorem addS_run {s t x y : Nat} (h : RegN s t x) (k : RegN s t y) (n : Nat) : addS (runS s t x n) (runS s t y n) = runS s t (x ^^^ y) n := by
  refine ba_ext (by rw [addS_size, runS_size, runS_size]) fun i hi => ?_
  rw [addS_size, runS_size] at hi
  rw [zb_addS _ _ _ (by rw [runS_size]; exact hi), zb_run hi, zb_run hi, zb_run hi, steps_xor h k, xor_low, addB_two (Nat.mod_lt _ (by omega)) (Nat.mod_lt _ (by omega))]
theorem addRAns_same {s t x y : Nat} (h : RegN s t x) (k : RegN s t y) : addRAns s t x s t y = ⟨s, t, (x ^^^ y : Nat), true⟩ := by
  rw [addRAns_yes h k, if_pos ⟨rfl, rfl⟩]
theorem addRAns_cases (S T X S' T' X' : Int) : addRAns S T X S' T' X' = noReg ∨ ∃ s t x y : Nat, S = s ∧ T = t ∧ X = x ∧ S' = s ∧ T' = t ∧ X' = y ∧ RegN s t x ∧ RegN s t y := by
  cases h : regB S T X with
  | false => left; simp [addRAns, h]
  | true =>
    cases h' : regB S' T' X' with
    | false => left; simp [addRAns, h']
    | true =>
      obtain ⟨s, t, x, rfl, rfl, rfl, hr⟩ := RegN.of h
      obtain ⟨s', t', x', rfl, rfl, rfl, hr'⟩ := RegN.of h'
      rw [addRAns_yes hr hr']
      by_cases e : s = s' ∧ t = t'
      · obtain ⟨rfl, rfl⟩ := e
        exact .inr ⟨s, t, x, x', rfl, rfl, rfl, rfl, rfl, rfl, hr, hr'⟩
      · left; rw [if_neg e]
theorem xor_back (x y : Nat) : x ^^^ y ^^^ y = x := by rw [Nat.xor_assoc, Nat.xor_self, Nat.xor_zero]
end Go.Proofs.Ytmmonhagceacjaa
