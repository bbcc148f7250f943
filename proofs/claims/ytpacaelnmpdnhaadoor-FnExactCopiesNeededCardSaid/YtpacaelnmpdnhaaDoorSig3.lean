/- SignsOf, EnergyOf and BitErrors: contracts of both sides. -/
import Derived.Test.YtpacaelnmpdnhaaDoorSig2
namespace Go.Proofs.YtpacaelnmpdnhaaDoor
open Go.RowKit
set_option linter.unusedVariables false
set_option maxRecDepth 100000
def sgAns (n : Nat) (f : Nat → Int) : ByteArray × Bool := if sigB n f && decide (n ≤ 600) then (sgS n f, true) else noS
theorem sq_bd {y : Int} (h1 : -1000000 ≤ y) (h2 : y ≤ 1000000) : 0 ≤ y * y ∧ y * y ≤ 1000000000000 := by
  rcases Int.le_total 0 y with h | h
  · exact ⟨Int.mul_nonneg h h, by have := Int.mul_le_mul h2 h2 h (by omega); omega⟩
  · have h3 : 0 ≤ -y := by omega
    have h4 : -y ≤ 1000000 := by omega
    have e : -y * -y = y * y := Int.neg_mul_neg y y
    exact ⟨by rw [← e]; exact Int.mul_nonneg h3 h3, by rw [← e]; have := Int.mul_le_mul h4 h4 h3 (by omega); omega⟩
/-- The sum of the squares. -/
def enF (f : Nat → Int) : Nat → Int := sumI (fun i => f i * f i)
theorem enF_succ (f : Nat → Int) (k : Nat) : enF f (k + 1) = enF f k + f k * f k := rfl
theorem enF_bd {n : Nat} {f : Nat → Int} (h : allM n f = true) : ∀ k, k ≤ n → 0 ≤ enF f k ∧ enF f k ≤ 1000000000000 * (k : Int)
  | 0, _ => by simp [enF, sumI]
  | k + 1, hk => by
    have ih := enF_bd h k (by omega)
    have hz := allM_at h (show k < n by omega)
    have := sq_bd hz.1 hz.2
    rw [enF_succ]; omega
def enAns (n : Nat) (f : Nat → Int) : Int := if sigB n f then enF f n else -1
/-- In how many places two strings differ. -/
def errN (a b : ByteArray) : Nat → Nat
  | 0 => 0
  | k + 1 => errN a b k + if zb a k = zb b k then 0 else 1
theorem errN_le (a b : ByteArray) : ∀ k, errN a b k ≤ k
  | 0 => Nat.le_refl _
  | k + 1 => by have := errN_le a b k; simp only [errN]; split <;> omega
def errAns (a b : ByteArray) : Int := if bitsB a && (bitsB b && decide (a.size = b.size)) then (errN a b a.size : Int) else -1
end Go.Proofs.YtpacaelnmpdnhaaDoor
