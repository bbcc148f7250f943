/- All frames, one behind the other. -/
import Derived.Test.YtdafepfjjmdkeaaDoorFndMath
namespace Go.Proofs.YtdafepfjjmdkeaaDoor
open Go.RowKit
set_option linter.unusedVariables false
/-- Where the frame that begins at an index ends. -/
def endF (z : ByteArray) (a : Nat) : Nat := a + 23 + nAt z a
/-- Where frame i is looked for. -/
def atF (z : ByteArray) : Nat → Nat
  | 0 => 0
  | i + 1 => endF z (nx z (atF z i))
/-- The payload of frame i. -/
def alF (z : ByteArray) (i : Nat) : ByteArray := parP z (nx z (atF z i))
/-- There are as many frames. -/
def AllIs (z : ByteArray) (N : Nat) : Prop := N ≤ z.size ∧ (∀ i, i < N → nx z (atF z i) < z.size) ∧ z.size ≤ nx z (atF z N)
theorem endF_le {z : ByteArray} {a : Nat} (h : nx z a < z.size) : a + 23 ≤ endF z (nx z a) ∧ endF z (nx z a) ≤ z.size := by
  have h1 := nx_le z a
  have h2 := (hitB_iff z (nx z a)).1 (nx_yes h)
  unfold endF; omega
theorem atF_le {z : ByteArray} : ∀ i, (∀ j, j < i → nx z (atF z j) < z.size) → 23 * i ≤ atF z i ∧ atF z i ≤ z.size
  | 0, _ => ⟨by simp, by simp [atF]⟩
  | i + 1, h => by
    have h1 := atF_le i fun j hj => h j (by omega)
    have h2 := endF_le (h i (by omega))
    simp only [atF]
    omega
theorem all_ex (z : ByteArray) : ∃ N, AllIs z N := by
  by_cases hex : ∃ N, z.size ≤ nx z (atF z N)
  · obtain ⟨N, hN, hmin⟩ : ∃ N, z.size ≤ nx z (atF z N) ∧ ∀ i, i < N → ¬ z.size ≤ nx z (atF z i) := by
      obtain ⟨M, hM⟩ := hex
      induction M using Nat.strongRecOn with
      | _ M ih =>
        by_cases hl : ∃ i, i < M ∧ z.size ≤ nx z (atF z i)
        · obtain ⟨i, h1, h2⟩ := hl; exact ih i h1 h2
        · exact ⟨M, hM, fun i hi h => hl ⟨i, hi, h⟩⟩
    have hlt : ∀ i, i < N → nx z (atF z i) < z.size := fun i hi => by have := hmin i hi; omega
    have := atF_le N hlt
    exact ⟨N, by omega, hlt, hN⟩
  · have hlt : ∀ i, nx z (atF z i) < z.size := fun i => by
      rcases Nat.lt_or_ge (nx z (atF z i)) z.size with h | h
      · exact h
      · exact absurd ⟨i, h⟩ hex
    have := atF_le (z.size + 1) fun j _ => hlt j
    omega
/-- How many frames a function answers. -/
def AllN (z : ByteArray) (N : Nat) : Prop := (bitsB z = true → AllIs z N) ∧ (bitsB z = false → N = 0)
theorem allN_ex (z : ByteArray) : ∃ N, AllN z N := by
  by_cases h : bitsB z = true
  · obtain ⟨N, hN⟩ := all_ex z
    exact ⟨N, fun _ => hN, fun h2 => absurd h (by rw [h2]; simp)⟩
  · exact ⟨0, fun h2 => absurd h2 h, fun _ => rfl⟩
end Go.Proofs.YtdafepfjjmdkeaaDoor
