/- The contract of ssHas, which the laws of sets ask. -/
import Derived.Test.YtpacaelnmpdnhaaDoorMrgD
namespace Go.Proofs.YtpacaelnmpdnhaaDoor
open Go.RowKit
set_option linter.unusedVariables false
set_option maxRecDepth 100000
theorem ssHas_any (v : Value) (m : Nat) (j : Nat → Int) (y : Int) (w : World) (h : IntsR w v m j) (hm : m ≤ 1048576) :
    Calls Tryd.prog 24 #[v, .int .i64 y] w fun e w' => e = .returned (.bool (isJ m j y)) ∧ w = w' := by
  obtain ⟨a, cap, rfl, hc⟩ := h
  have HC := Lib.hid hc
  have HNO := Lib.hid (fun (h : ∀ i, i < m → ¬ j i = y) => (isJ_no h).symm)
  have HYES := Lib.hid (fun i (hi : i < m) (e : j i = y) => (isJ_yes hi e).symm)
  clear hc
  go_enter Tryd.func24, Tryd.ntmps24
  go_wp2
  go_loop [5] (fun t => ∃ k : Nat, k ≤ m ∧ t = .int .i64 k ∧ Hid (∀ l, l < k → ¬ j l = y)) (fun t => m - (intOf t).toNat)
  case atStart => exact ⟨0, Nat.zero_le _, rfl, Lib.hid (fun l hl => absurd hl (Nat.not_lt_zero _))⟩
  case round =>
    obtain ⟨k, hk, rfl, rA⟩ := hrel
    by_cases hkl : k < m
    · obtain ⟨x2, rfl, hx2, c1⟩ := HC.out k hkl
      have k0 : (0 : Int) ≤ (k : Int) := by omega
      have k1 : (k : Int) < (m : Int) := by omega
      by_cases he : j k = y
      · have HE := Lib.hid (HYES.out k hkl he)
        rw [he] at c1
        clear he rA hx2
        go_wp2
        go_ret
        exact ⟨ret_bool HE.out, rfl⟩
      · have e2 : ∀ l, l < k + 1 → ¬ j l = y := fun l hl => by
          rcases Nat.lt_or_ge l k with h | h
          · exact rA.out l h
          · rw [show l = k by omega]; exact he
        have nA := Lib.hid e2
        obtain ⟨X, hX⟩ : ∃ X, j k = X := ⟨_, rfl⟩
        rw [hX] at c1 he
        have e3 : (X == y) = false := by simp; exact he
        clear hX rA hx2 e2
        go_wp2
        go_round
        case rel => exact ⟨k + 1, by omega, by go_num, nA⟩
        case measure => simp [intOf]; omega
    · obtain rfl : k = m := by omega
      have HE := Lib.hid (HNO.out rA.out)
      clear rA
      go_wp2
      go_ret
      exact ⟨ret_bool HE.out, rfl⟩
end Go.Proofs.YtpacaelnmpdnhaaDoor
