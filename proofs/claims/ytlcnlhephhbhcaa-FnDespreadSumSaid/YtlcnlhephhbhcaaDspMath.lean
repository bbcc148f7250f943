/- Correlations of sums of signals, and with the inverted code. -/
import Derived.Test.YtlcnlhephhbhcaaSsUser
import Derived.Test.YtlcnlhephhbhcaaSeqAlg
import Derived.Test.YtlcnlhephhbhcaaSig15
namespace Go.Proofs.Ytlcnlhephhbhcaa
open Go.RowKit
set_option linter.unusedVariables false
theorem sumI_zeros {f : Nat → Int} : ∀ n, (∀ i, i < n → f i = 0) → sumI f n = 0
  | 0, _ => rfl
  | n + 1, h => by rw [sumI, sumI_zeros n (fun i hi => h i (by omega)), h n (by omega)]; rfl
theorem co_smp (n : Nat) (f : Nat → Int) (q : ByteArray) (at_ : Nat) : coF n f q at_ = sumI (fun i => smp n f (at_ + i) * chF q i) q.size := by
  unfold coF coR
  obtain ⟨R, hR⟩ : ∃ R, q.size = min q.size (n - at_) + R := ⟨q.size - min q.size (n - at_), by omega⟩
  rw [show sumI (fun i => smp n f (at_ + i) * chF q i) q.size = sumI (fun i => smp n f (at_ + i) * chF q i) (min q.size (n - at_) + R) by rw [← hR]]
  rw [sumI_split]
  rw [sumI_zeros (f := fun i => smp n f (at_ + (min q.size (n - at_) + i)) * chF q (min q.size (n - at_) + i)) R (fun i hi => by unfold smp; rw [if_neg (by omega), Int.zero_mul]), Int.add_zero]
  exact sumI_congr _ fun i hi => by unfold smp; rw [if_pos (by omega)]
theorem ag_smp (n : Nat) (f : Nat → Int) (m : Nat) (g : Nat → Int) (j : Nat) : smp (max n m) (agF n f m g) j = smp n f j + smp m g j := by
  show (if j < max n m then smp n f j + smp m g j else 0) = _
  by_cases h : j < max n m
  · rw [if_pos h]
  · rw [if_neg h]
    have e3 : smp n f j = 0 := by unfold smp; rw [if_neg (by omega)]
    have e4 : smp m g j = 0 := by unfold smp; rw [if_neg (by omega)]
    omega
theorem co_add (n : Nat) (f : Nat → Int) (m : Nat) (g : Nat → Int) (q : ByteArray) (d i : Nat) : coL (max n m) (agF n f m g) q d i = coL n f q d i + coL m g q d i := by
  unfold coL
  rw [co_smp, co_smp, co_smp, ← sumI_add]
  exact sumI_congr _ fun k hk => by rw [ag_smp, Int.add_mul]
theorem co_inv (n : Nat) (f : Nat → Int) (q : ByteArray) (hq : okB q q.size = true) (d i : Nat) : coL n f (invS q) d i = - coL n f q d i := by
  unfold coL
  rw [co_smp, co_smp, ← sumI_neg, invS_size]
  exact sumI_congr _ fun k hk => by rw [chF_inv q hq k hk, Int.mul_neg]
end Go.Proofs.Ytlcnlhephhbhcaa
