/- ReverseTaps of both sides, and the walk of its exact law. -/
import Derived.Test.YtmlmpekhcnjehaaRegBase
namespace Go.Proofs.Ytmlmpekhcnjehaa
open Go.RowKit
set_option maxRecDepth 100000
/-- The reversed taps, as far as n rounds have come. -/
def revN (s t : Nat) : Nat → Nat
  | 0 => 1
  | n + 1 => revN s t n + t / tw (n + 1) % 2 * tw (s - (n + 1))
theorem revN_le (s t : Nat) (hs : s ≤ 8) : ∀ n, revN s t n ≤ 1 + 256 * n
  | 0 => by simp [revN]
  | n + 1 => by
    have h1 := revN_le s t hs n
    have h2 := tw_le (s - (n + 1)) (by omega)
    have h3 : t / tw (n + 1) % 2 * tw (s - (n + 1)) ≤ 1 * tw (s - (n + 1)) := Nat.mul_le_mul_right _ (by omega)
    simp only [revN]; omega
theorem revN_form (s t : Nat) : ∀ n, n + 1 ≤ s → ∃ m, revN s t n = 1 + m * tw (s - n)
  | 0, _ => ⟨0, by simp [revN]⟩
  | n + 1, h => by
    obtain ⟨m, hm⟩ := revN_form s t n (by omega)
    have h1 := tw_half (s - n) (by omega)
    rw [show s - n - 1 = s - (n + 1) by omega] at h1
    obtain ⟨B, hB⟩ : ∃ B, t / tw (n + 1) % 2 = B := ⟨_, rfl⟩
    refine ⟨2 * m + B, ?_⟩
    simp only [revN]
    rw [hB, hm, h1, Nat.add_mul, ← Nat.mul_assoc, Nat.mul_comm m 2]
    omega
theorem rev_or (s t n : Nat) (h : n + 1 < s) : revN s t n ||| t / tw (n + 1) % 2 * tw (s - (n + 1)) = revN s t (n + 1) := by
  obtain ⟨m, hm⟩ := revN_form s t n (by omega)
  obtain ⟨B, hB⟩ : ∃ B, t / tw (n + 1) % 2 = B := ⟨_, rfl⟩
  have hB2 : B < 2 := by rw [← hB]; omega
  obtain ⟨j, hj⟩ : ∃ j, s - (n + 1) = j + 1 := ⟨s - (n + 1) - 1, by omega⟩
  have h1 : tw (s - n) = 2 * tw (j + 1) := by rw [← tw_succ]; congr 1; omega
  have h2 := tw_succ j
  have h3 := tw_pos j
  simp only [revN]
  rw [hB, hj, hm, h1]
  have a1 : B * tw (j + 1) % 2 = 0 := by
    rw [h2]
    have : B = 0 ∨ B = 1 := by omega
    rcases this with rfl | rfl <;> omega
  have a2 : B * tw (j + 1) + 1 < tw (j + 1 + 1) := by
    rw [tw_succ (j + 1)]
    have : B = 0 ∨ B = 1 := by omega
    rcases this with rfl | rfl <;> omega
  have a3 : m * (2 * tw (j + 1)) % 2 = 0 := by rw [Nat.mul_left_comm]; exact Nat.mul_mod_right 2 _
  have a4 : m * (2 * tw (j + 1)) % 2 ^ (j + 1 + 1) = 0 := by
    rw [show 2 * tw (j + 1) = 2 ^ (j + 1 + 1) by rw [← tw_succ]; rfl]
    exact Nat.mul_mod_left m _
  have b1 := nat_join 1 (m * (2 * tw (j + 1))) 1 (by simpa using a3) (by omega)
  have b2 := nat_join 1 (B * tw (j + 1)) 1 (by simpa using a1) (by omega)
  have b3 := nat_join (j + 1 + 1) (m * (2 * tw (j + 1))) (B * tw (j + 1) + 1) a4 (by simpa [tw] using a2)
  rw [Nat.add_comm 1, ← b1, Nat.or_assoc, Nat.or_comm 1, b2, b3, b1]
  omega
theorem rev_value (s t n : Nat) (hs : s ≤ 8) (ht : t < 256) (h : n + 1 < s) :
    bits .or .i64 ((revN s t n : Nat) : Int) (wrap64 (bits .and .i64 ((t : Int) / 2 ^ (n + 1)) 1 * 2 ^ (s - (n + 1)))) = ((revN s t (n + 1) : Nat) : Int) := by
  have h1 := revN_le s t hs n
  have h2 := tw_le (s - (n + 1)) (by omega)
  have h3 := Nat.div_le_self t (tw (n + 1))
  have e1 : (t : Int) / 2 ^ (n + 1) = ((t / tw (n + 1) : Nat) : Int) := by rw [int_tw]; exact (Int.natCast_ediv _ _).symm
  rw [e1, and64_one _ (by omega), int_tw, ← Int.natCast_mul]
  have h4 : t / tw (n + 1) % 2 * tw (s - (n + 1)) ≤ 1 * tw (s - (n + 1)) := Nat.mul_le_mul_right _ (by omega)
  rw [IntWalk.wrap64_in _ (by omega), or64 _ _ (by omega) (by omega), rev_or s t n h]
theorem iReverse_yes (s t : Nat) (w : World) (hv : tapsB s t = true) (ho : t % 2 = 1) :
    Calls Try.prog 21 #[.int .i64 s, .int .i64 t] w fun e w' => e = .returned (.int .i64 (revN s t (s - 1) : Nat)) ∧ w = w' := by
  obtain ⟨h1, h2, h3, h4⟩ := (tapsB_iff s t).1 hv
  simp only [Int.toNat_natCast] at h4
  have htw := tw_le s (by omega)
  have ht : t < 256 := by omega
  go_enter Try.func21, Try.ntmps21
  go_wp2_with (first | (go_at_call 36; refine (tapsValid_yes _ _ _ hv).mono ?_; rintro e w' ⟨rfl, rfl⟩) | (go_at_call 43; refine (firstTapped_yes _ _ ht ho).mono ?_; rintro e w' ⟨rfl, rfl⟩))
  go_loop [5, 6] (fun r i => ∃ n : Nat, n + 1 ≤ s ∧ i = .int .i64 ((n : Int) + 1) ∧ r = .int .i64 (revN s t n : Nat)) (fun _ i => s - (intOf i).toNat)
  case atStart => exact ⟨0, by omega, rfl, rfl⟩
  case round =>
    obtain ⟨n, hn, rfl, rfl⟩ := hrel
    by_cases hlt : n + 1 < s
    · have hv2 := rev_value s t n (by omega) ht hlt
      have HV := Lib.hid hv2
      clear hv2
      have e1 : ((s : Int) - ((n : Int) + 1)).toNat = s - (n + 1) := by omega
      have e2 : ((n : Int) + 1).toNat = n + 1 := by omega
      go_wp2
      go_round
      case rel => exact ⟨n + 1, by omega, by go_num, by rw [← HV.out]⟩
      case measure => simp [intOf]; omega
    · obtain rfl : s = n + 1 := by omega
      go_wp2
      go_ret
      exact ⟨rfl, rfl⟩
theorem iReverse_even (s t : Nat) (w : World) (hv : tapsB s t = true) (ho : ¬ t % 2 = 1) :
    Calls Try.prog 21 #[.int .i64 s, .int .i64 t] w fun e w' => e = .returned (.int .i64 (-1)) ∧ w = w' := by
  obtain ⟨h1, h2, h3, h4⟩ := (tapsB_iff s t).1 hv
  simp only [Int.toNat_natCast] at h4
  have htw := tw_le s (by omega)
  have ht : t < 256 := by omega
  go_enter Try.func21, Try.ntmps21
  go_wp2_with (first | (go_at_call 36; refine (tapsValid_yes _ _ _ hv).mono ?_; rintro e w' ⟨rfl, rfl⟩) | (go_at_call 43; refine (firstTapped_no _ _ ht ho).mono ?_; rintro e w' ⟨rfl, rfl⟩))
  go_ret
  exact ⟨rfl, rfl⟩
theorem iReverse_no (S T : Int) (w : World) (hv : tapsB S T = false) :
    Calls Try.prog 21 #[.int .i64 S, .int .i64 T] w fun e w' => e = .returned (.int .i64 (-1)) ∧ w = w' := by
  go_enter Try.func21, Try.ntmps21
  go_wp2_with (first | (go_at_call 36; refine (tapsValid_no _ _ _ hv).mono ?_; rintro e w' ⟨rfl, rfl⟩))
  go_ret
  exact ⟨rfl, rfl⟩
end Go.Proofs.Ytmlmpekhcnjehaa
