/- MoveHops and LoadOf of both sides. -/
import Derived.Test.YtpacaelnmpdnhaaDoorHop1
namespace Go.Proofs.YtpacaelnmpdnhaaDoor
open Go.RowKit
set_option linter.unusedVariables false
set_option maxRecDepth 100000
def mvD (d : Int) : Bool := decide (-16 ≤ d) && decide (d ≤ 16)
def mvB (n : Nat) (z : Nat → Int) (C d : Int) : Bool := hopB n z C && mvD d
def mvN (n : Nat) (z : Nat → Int) (C d : Int) : Nat := if mvB n z C d then n else 0
def mvF (z : Nat → Int) (C d : Int) (i : Nat) : Int := ((modN (z i + d) C.toNat : Nat) : Int)
theorem mvD_iff (d : Int) : mvD d = true ↔ -16 ≤ d ∧ d ≤ 16 := by unfold mvD; simp only [Bool.and_eq_true, decide_eq_true_eq]
theorem mv_no {n : Nat} {z : Nat → Int} {C d : Int} (h : mvB n z C d = false) : mvN n z C d = 0 := by unfold mvN; rw [h]; rfl
theorem mvN_le6 (n : Nat) (z : Nat → Int) (C d : Int) : mvN n z C d ≤ 1000000 := by
  unfold mvN mvB
  split
  · rename_i h
    rw [Bool.and_eq_true] at h
    have := (hopB_iff _ _ _).1 h.1
    omega
  · omega
/-- How many of the first k hops are the channel y. -/
def ldC (z : Nat → Int) (y : Int) : Nat → Nat
  | 0 => 0
  | k + 1 => ldC z y k + (if z k = y then 1 else 0)
theorem ldC_le (z : Nat → Int) (y : Int) : ∀ k, ldC z y k ≤ k
  | 0 => Nat.le_refl _
  | k + 1 => by have := ldC_le z y k; simp only [ldC]; split <;> omega
def ldN (n : Nat) (z : Nat → Int) (C : Int) : Nat := if hopB n z C then C.toNat else 0
def ldF (n : Nat) (z : Nat → Int) (j : Nat) : Int := (ldC z (j : Int) n : Nat)
theorem ldN_le6 (n : Nat) (z : Nat → Int) (C : Int) : ldN n z C ≤ 1000000 := by
  unfold ldN
  split
  · rename_i h
    have := (hopB_iff _ _ _).1 h
    omega
  · omega
end Go.Proofs.YtpacaelnmpdnhaaDoor
