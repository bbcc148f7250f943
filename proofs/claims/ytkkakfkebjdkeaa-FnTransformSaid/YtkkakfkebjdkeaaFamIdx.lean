/- Words compared; the orders of Walsh codes; WalshIndex of both sides and the walk of its exact law. -/
import Derived.Test.YtkkakfkebjdkeaaFam4
import Derived.Test.YtkkakfkebjdkeaaFirstN
import Derived.Stop.BytesEq
import Derived.Deep.RegionHeld3
namespace Go.Proofs.Ytkkakfkebjdkeaa
open Go.RowKit
set_option linter.unusedVariables false
def isT (n : Nat) : Bool := n == 1 || n == 2 || n == 4 || n == 8 || n == 16 || n == 32 || n == 64
theorem isT_tw {n : Nat} (h : isT n = true) : ∃ o, o ≤ 6 ∧ tw o = n := by
  unfold isT at h
  simp only [Bool.or_eq_true, beq_iff_eq] at h
  rcases h with (((((rfl | rfl) | rfl) | rfl) | rfl) | rfl) | rfl
  · exact ⟨0, by omega, rfl⟩
  · exact ⟨1, by omega, rfl⟩
  · exact ⟨2, by omega, rfl⟩
  · exact ⟨3, by omega, rfl⟩
  · exact ⟨4, by omega, rfl⟩
  · exact ⟨5, by omega, rfl⟩
  · exact ⟨6, by omega, rfl⟩
theorem tw_isT : ∀ o, o ≤ 6 → isT (tw o) = true := by
  intro o h
  have : o = 0 ∨ o = 1 ∨ o = 2 ∨ o = 3 ∨ o = 4 ∨ o = 5 ∨ o = 6 := by omega
  rcases this with rfl | rfl | rfl | rfl | rfl | rfl | rfl <;> rfl
theorem tw_lt {k o : Nat} (h : k < o) : tw k < tw o := Nat.pow_lt_pow_right (by decide) h
set_option maxRecDepth 100000 in
theorem l3Order_yes (o : Nat) (w : World) (h : o ≤ 6) :
    Calls Try.prog 70 #[.int .i64 ((tw o : Nat) : Int)] w fun e w' => e = .returned (.int .i64 o) ∧ w = w' := by
  have HL := Lib.hid (fun k (hk : k < o) => tw_lt hk)
  have HT := Lib.hid (fun k w (hk : k ≤ o) => l1Two_any k w (by omega))
  obtain ⟨T, hTT⟩ : ∃ T, tw o = T := ⟨_, rfl⟩
  rw [hTT] at HL ⊢
  have HO := Lib.hid hTT
  clear hTT
  go_enter Try.func70, Try.ntmps70
  go_wp2
  go_loop [3] (fun i => ∃ k : Nat, k ≤ o ∧ i = .int .i64 k) (fun i => o + 1 - (intOf i).toNat)
  case atStart => exact ⟨0, by omega, rfl⟩
  case round =>
    obtain ⟨k, hk, rfl⟩ := hrel
    have h6 : (k : Int) ≤ 6 := by omega
    have hT := fun w => HT.out k w hk
    by_cases hlt : k < o
    · have hl := HL.out k hlt
      obtain ⟨U, hU⟩ : ∃ U, tw k = U := ⟨_, rfl⟩
      rw [hU] at hT hl
      have hne : ((U : Int) == (T : Int)) = false := by rw [beq_eq_false_iff_ne]; omega
      clear hU hl
      go_wp2_with fail
      refine (hT _).mono ?_
      rintro e w' ⟨rfl, rfl⟩
      go_wp2
      go_round
      case rel => exact ⟨k + 1, by omega, by go_num⟩
      case measure => simp [intOf]; omega
    · obtain rfl : k = o := by omega
      rw [HO.out] at hT
      go_wp2_with fail
      refine (hT _).mono ?_
      rintro e w' ⟨rfl, rfl⟩
      go_wp2
      go_ret
      exact ⟨rfl, rfl⟩
set_option maxRecDepth 100000 in
theorem l3Order_no (n : Nat) (w : World) (hn : n ≤ 9223372036854775807) (h : isT n = false) :
    Calls Try.prog 70 #[.int .i64 (n : Int)] w fun e w' => e = .returned (.int .i64 (-1)) ∧ w = w' := by
  have HN := Lib.hid (fun k (hk : k ≤ 6) => show ¬ tw k = n from fun e => by rw [← e, tw_isT k hk] at h; cases h)
  have HT := Lib.hid (fun k w (hk : k ≤ 6) => l1Two_any k w (by omega))
  clear h
  go_enter Try.func70, Try.ntmps70
  go_wp2
  go_loop [3] (fun i => ∃ k : Nat, k ≤ 7 ∧ i = .int .i64 k) (fun i => 7 - (intOf i).toNat)
  case atStart => exact ⟨0, by omega, rfl⟩
  case round =>
    obtain ⟨k, hk, rfl⟩ := hrel
    by_cases hlt : k ≤ 6
    · have h6 : (k : Int) ≤ 6 := by omega
      have hT := fun w => HT.out k w hlt
      have hl := HN.out k hlt
      obtain ⟨U, hU⟩ : ∃ U, tw k = U := ⟨_, rfl⟩
      rw [hU] at hT hl
      have hne : ((U : Int) == (n : Int)) = false := by rw [beq_eq_false_iff_ne]; omega
      clear hU hl
      go_wp2_with fail
      refine (hT _).mono ?_
      rintro e w' ⟨rfl, rfl⟩
      go_wp2
      go_round
      case rel => exact ⟨k + 1, by omega, by go_num⟩
      case measure => simp [intOf]; omega
    · obtain rfl : k = 7 := by omega
      go_wp2
      go_ret
      exact ⟨rfl, rfl⟩
theorem and_pred : ∀ n, n ≤ 64 → 0 < n → ((((n &&& (n - 1) : Nat) : Int) == 0) = isT n) := by decide
set_option maxRecDepth 100000 in
theorem wordLen_any (n : Nat) (w : World) (hn : n ≤ 9223372036854775807) :
    Calls Try.prog 109 #[.int .i64 (n : Int)] w fun e w' => e = .returned (.bool (isT n)) ∧ w = w' := by
  by_cases h0 : 0 < n
  · by_cases h6 : n ≤ 64
    · have hx := and64 n (n - 1) (by omega) (by omega)
      rw [show ((n - 1 : Nat) : Int) = (n : Int) - 1 by omega] at hx
      have hp := and_pred n h6 h0
      obtain ⟨X, hX⟩ : ∃ X, n &&& (n - 1) = X := ⟨_, rfl⟩
      rw [hX] at hx hp
      obtain ⟨b, hb⟩ : ∃ b, isT n = b := ⟨_, rfl⟩
      rw [hb] at hp ⊢
      have i0 : (0 : Int) < (n : Int) := by omega
      have i1 : (n : Int) ≤ 64 := by omega
      clear hX hb
      cases b
      all_goals
        go_enter Try.func109, Try.ntmps109
        go_wp2
        go_ret
        exact ⟨rfl, rfl⟩
    · have i0 : (0 : Int) < (n : Int) := by omega
      have i1 : ¬ ((n : Int) ≤ 64) := by omega
      rw [show isT n = false by unfold isT; simp only [Bool.or_eq_false_iff, beq_eq_false_iff_ne]; omega]
      go_enter Try.func109, Try.ntmps109
      go_wp2
      go_ret
      exact ⟨rfl, rfl⟩
  · obtain rfl : n = 0 := by omega
    go_enter Try.func109, Try.ntmps109
    go_wp2
    go_ret
    exact ⟨rfl, rfl⟩
theorem zb_walsh (n i v : Nat) (h : v < n) : zb (walshB n i) v = 48 + walF i v := zb_strF h (by have := walF_lt i v; omega)
theorem walsh_ok (z : ByteArray) (i : Nat) (h : walshB z.size i = z) : okB z z.size = true := okB_of_zb _ fun v hv => by
  have := zb_walsh z.size i v hv
  rw [h] at this
  have := walF_lt i v
  omega
def idxP (z : ByteArray) (i : Nat) : Bool := decide (walshB z.size i = z)
/-- The index of a Walsh code. -/
def idxAns (z : ByteArray) : Int × Bool := if isT z.size = true ∧ firstN (idxP z) z.size < z.size then ((firstN (idxP z) z.size : Nat), true) else noI
theorem idx_no {z : ByteArray} (h : isT z.size = false) : idxAns z = noI := by unfold idxAns; rw [if_neg (by rw [h]; simp)]
theorem idx_none {z : ByteArray} (h : firstN (idxP z) z.size = z.size) : idxAns z = noI := by unfold idxAns; rw [if_neg (by omega)]
theorem idx_hit {z : ByteArray} {k : Nat} (hT : isT z.size = true) (hk : k < z.size) (h : firstN (idxP z) k = k) (hp : idxP z k = true) : idxAns z = ((k : Int), true) := by
  have := firstN_hit h hp z.size hk
  unfold idxAns
  rw [this, if_pos ⟨hT, hk⟩]
theorem isT_bd {n : Nat} (h : isT n = true) : 1 ≤ n ∧ n ≤ 64 := by
  obtain ⟨o, ho, rfl⟩ := isT_tw h
  exact ⟨tw_pos o, tw_6 o ho⟩
end Go.Proofs.Ytkkakfkebjdkeaa
