/- ReverseTaps of both sides, and the walk of its exact law. -/
import Derived.Test.YtbkppjelljljcaaRegBase
namespace Go.Proofs.Ytbkppjelljljcaa
open Go.RowKit
set_option maxRecDepth 100000
/-- The reversed taps, as far as n rounds have come. -/
def revN (s t : Nat) : Nat → Nat
  | 0 => 1
  | n + 1 => revN s t n + t / tw (n + 1) % 2 * tw (s - (n + 1))
theorem revN_le (s t : Nat) (hs : s ≤ 8) : ∀ n, revN s t n ≤ 1 + 256 * n
  | 0 => by simp [revN]
  | n + 1 => by
    have h1 := revN_le s t hs n
    have h2 := tw_le (s - (n + 1)) (by omega)
    have h3 : t / tw (n + 1) % 2 * tw (s - (n + 1)) ≤ 1 * tw (s - (n + 1)) := Nat.mul_le_mul_right _ (by omega)
    simp only [revN]; omega
theorem revN_form (s t : Nat) : ∀ n, n + 1 ≤ s → ∃ m, revN s t n = 1 + m * tw (s - n)
  | 0, _ => ⟨0, by simp [revN]⟩
  | n + 1, h => by
    obtain ⟨m, hm⟩ := revN_form s t n (by omega)
    have h1 := tw_half (s - n) (by omega)
    rw [show s - n - 1 = s - (n + 1) by omega] at h1
    obtain ⟨B, hB⟩ : ∃ B, t / tw (n + 1) % 2 = B := ⟨_, rfl⟩
    refine ⟨2 * m + B, ?_⟩
    simp only [revN]
    rw [hB, hm, h1, Nat.add_mul, ← Nat.mul_assoc, Nat.mul_comm m 2]
    omega
theorem rev_or (s t n : Nat) (h : n + 1 < s) : revN s t n ||| t / tw (n + 1) % 2 * tw (s - (n + 1)) = revN s t (n + 1) := by
  obtain ⟨m, hm⟩ := revN_form s t n (by omega)
  obtain ⟨B, hB⟩ : ∃ B, t / tw (n + 1) % 2 = B := ⟨_, rfl⟩
  have hB2 : B < 2 := by rw [← hB]; omega
  obtain ⟨j, hj⟩ : ∃ j, s - (n + 1) = j + 1 := ⟨s - (n + 1) - 1, by omega⟩
  have h1 : tw (s - n) = 2 * tw (j + 1) := by rw [← tw_succ]; congr 1; omega
  have h2 := tw_succ j
  have h3 := tw_pos j
  simp only [revN]
  rw [hB, hj, hm, h1]
  have a1 : B * tw (j + 1) % 2 = 0 := by
    rw [h2]
    have : B = 0 ∨ B = 1 := by omega
    rcases this with rfl | rfl <;> omega
  have a2 : B * tw (j + 1) + 1 < tw (j + 1 + 1) := by
    rw [tw_succ (j + 1)]
    have : B = 0 ∨ B = 1 := by omega
    rcases this with rfl | rfl <;> omega
  have a3 : m * (2 * tw (j + 1)) % 2 = 0 := by rw [Nat.mul_left_comm]; exact Nat.mul_mod_right 2 _
  have a4 : m * (2 * tw (j + 1)) % 2 ^ (j + 1 + 1) = 0 := by
    rw [show 2 * tw (j + 1) = 2 ^ (j + 1 + 1) by rw [← tw_succ]; rfl]
    exact Nat.mul_mod_left m _
  have b1 := nat_join 1 (m * (2 * tw (j + 1))) 1 (by simpa using a3) (by omega)
  have b2 := nat_join 1 (B * tw (j + 1)) 1 (by simpa using a1) (by omega)
  have b3 := nat_join (j + 1 + 1) (m * (2 * tw (j + 1))) (B * tw (j + 1) + 1) a4 (by simpa [tw] using a2)
  rw [Nat.add_comm 1, ← b1, Nat.or_assoc, Nat.or_comm 1, b2, b3, b1]
  omega
theorem rev_value (s t n : Nat) (hs : s ≤ 8) (ht : t < 256) (h : n + 1 < s) :
    bits .or .i64 ((revN s t n : Nat) : Int) (wrap64 (bits .and .i64 ((t : Int) / 2 ^ (n + 1)) 1 * 2 ^ (s - (n + 1)))) = ((revN s t (n + 1) : Nat) : Int) := by
  have h1 := revN_le s t hs n
  have h2 := tw_le (s - (n + 1)) (by omega)
  have h3 := Nat.div_le_self t (tw (n + 1))
  have e1 : (t : Int) / 2 ^ (n + 1) = ((t / tw (n + 1) : Nat) : Int) := by rw [int_tw]; exact (Int.natCast_ediv _ _).symm
  rw [e1, and64_one _ (by omega), int_tw, ← Int.natCast_mul]
  have h4 : t / tw (n + 1) % 2 * tw (s - (n + 1)) ≤ 1 * tw (s - (n + 1)) := Nat.mul_le_mul_right _ (by omega)
  rw [IntWalk.wrap64_in _ (by omega), or64 _ _ (by omega) (by omega), rev_or s t n h]
theorem iReverse_yes (s t : Nat) (w : World) (hv : tapsB s t = true) (ho : t % 2 = 1) :
    Calls Try.prog 18 #[.int .i64 s, .int .i64 t] w fun e w' => e = .returned (.int .i64 (revN s t (s - 1) : Nat)) ∧ w = w' := by
  obtain ⟨h1, h2, h3, h4⟩ := (tapsB_iff s t).1 hv
  simp only [Int.toNat_natCast] at h4
  have htw := tw_le s (by omega)
  have ht : t < 256 := by omega
  go_enter Try.func18, Try.ntmps18
  go_wp2_with (first | (go_at_call 40; refine (tapsValid_yes _ _ _ hv).mono ?_; rintro e w' ⟨rfl, rfl⟩) | (go_at_call 41; refine (firstTapped_yes _ _ ht ho).mono ?_; rintro e w' ⟨rfl, rfl⟩))
  go_loop [5, 6] (fun r i => ∃ n : Nat, n + 1 ≤ s ∧ i = .int .i64 ((n : Int) + 1) ∧ r = .int .i64 (revN s t n : Nat)) (fun _ i => s - (intOf i).toNat)
  case atStart => exact ⟨0, by omega, rfl, rfl⟩
  case round =>
    obtain ⟨n, hn, rfl, rfl⟩ := hrel
    by_cases hlt : n + 1 < s
    · have hv2 := rev_value s t n (by omega) ht hlt
      have HV := Lib.hid hv2
      clear hv2
      have e1 : ((s : Int) - ((n : Int) + 1)).toNat = s - (n + 1) := by omega
      have e2 : ((n : Int) + 1).toNat = n + 1 := by omega
      go_wp2
      go_round
      case rel => exact ⟨n + 1, by omega, by go_num, by rw [← HV.out]⟩
      case measure => simp [intOf]; omega
    · obtain rfl : s = n + 1 := by omega
      go_wp2
      go_ret
      exact ⟨rfl, rfl⟩
theorem iReverse_even (s t : Nat) (w : World) (hv : tapsB s t = true) (ho : ¬ t % 2 = 1) :
    Calls Try.prog 18 #[.int .i64 s, .int .i64 t] w fun e w' => e = .returned (.int .i64 (-1)) ∧ w = w' := by
  obtain ⟨h1, h2, h3, h4⟩ := (tapsB_iff s t).1 hv
  simp only [Int.toNat_natCast] at h4
  have htw := tw_le s (by omega)
  have ht : t < 256 := by omega
  go_enter Try.func18, Try.ntmps18
  go_wp2_with (first | (go_at_call 40; refine (tapsValid_yes _ _ _ hv).mono ?_; rintro e w' ⟨rfl, rfl⟩) | (go_at_call 41; refine (firstTapped_no _ _ ht ho).mono ?_; rintro e w' ⟨rfl, rfl⟩))
  go_ret
  exact ⟨rfl, rfl⟩
theorem iReverse_no (S T : Int) (w : World) (hv : tapsB S T = false) :
    Calls Try.prog 18 #[.int .i64 S, .int .i64 T] w fun e w' => e = .returned (.int .i64 (-1)) ∧ w = w' := by
  go_enter Try.func18, Try.ntmps18
  go_wp2_with (first | (go_at_call 40; refine (tapsValid_no _ _ _ hv).mono ?_; rintro e w' ⟨rfl, rfl⟩))
  go_ret
  exact ⟨rfl, rfl⟩
theorem srev_value (s t n : Nat) (hs : s ≤ 8) (ht : t < 256) (h : n + 1 < s) : ∃ i j D B P R' : Nat, i = n + 1 ∧ j = s - (n + 1) ∧ R' = revN s t (n + 1) ∧ i ≤ 8 ∧ j ≤ 8 ∧
    IntKind.i64.wrap ((s : Int) - (i : Int)) = j ∧ IntKind.i64.wrap ((t : Int) / ((tw i : Nat) : Int)) = D ∧ (D : Int) % 2 = B ∧ IntKind.i64.wrap ((B : Int) * ((tw j : Nat) : Int)) = P ∧ IntKind.i64.wrap (((revN s t n : Nat) : Int) + (P : Int)) = R' := by
  have h1 := revN_le s t hs n
  have h2 := tw_le (s - (n + 1)) (by omega)
  have h3 := Nat.div_le_self t (tw (n + 1))
  have h4 : t / tw (n + 1) % 2 * tw (s - (n + 1)) ≤ 1 * tw (s - (n + 1)) := Nat.mul_le_mul_right _ (by omega)
  refine ⟨n + 1, s - (n + 1), t / tw (n + 1), t / tw (n + 1) % 2, t / tw (n + 1) % 2 * tw (s - (n + 1)), revN s t (n + 1), rfl, rfl, rfl, by omega, by omega, ?_, ?_, ?_, ?_, ?_⟩
  · rw [show (s : Int) - ((n + 1 : Nat) : Int) = ((s - (n + 1) : Nat) : Int) by omega]; exact IntWalk.i64_in _ (by omega)
  · rw [← Int.natCast_ediv]
    obtain ⟨D, hD⟩ : ∃ D, t / tw (n + 1) = D := ⟨_, rfl⟩
    rw [hD] at h3 ⊢
    exact IntWalk.i64_in _ (by omega)
  · exact (Int.natCast_emod _ 2).symm
  · rw [← Int.natCast_mul]
    exact IntWalk.i64_in _ (by omega)
  · rw [← Int.natCast_add]
    simp only [revN]
    exact IntWalk.i64_in _ (by omega)
theorem sReverse_yes (s t : Nat) (w : World) (hv : tapsB s t = true) (ho : t % 2 = 1) :
    Calls Try.prog 19 #[.int .i64 s, .int .i64 t] w fun e w' => e = .returned (.int .i64 (revN s t (s - 1) : Nat)) ∧ Below w.heap.size w w' := by
  obtain ⟨h1, h2, h3, h4⟩ := (tapsB_iff s t).1 hv
  simp only [Int.toNat_natCast] at h4
  have htw := tw_le s (by omega)
  have ht : t < 256 := by omega
  have h0 : ((t : Int) % 2 == 0) = false := by simp; omega
  go_enter Try.func19, Try.ntmps19
  go_wp2_with (first | (go_at_call 42; refine (l1Taps_yes _ _ _ hv).mono ?_; rintro e w' ⟨rfl, rfl⟩))
  go_loopw [5, 6] (fun r i wr => ∃ n : Nat, n + 1 ≤ s ∧ i = .int .i64 ((n + 1 : Nat) : Int) ∧ r = .int .i64 (revN s t n : Nat) ∧ Below w.heap.size w wr) (fun _ i _ => s - (intOf i).toNat)
  case atStart => exact ⟨0, by omega, rfl, rfl, Below.refl _ _⟩
  case round =>
    obtain ⟨n, hn, rfl, rfl, rb⟩ := hrel
    by_cases hlt : n + 1 < s
    · obtain ⟨i, j, D, B, P, R', hi, hj, hR, hi8, hj8, a1, a2, a3, a4, a5⟩ := srev_value s t n (by omega) ht hlt
      rw [← hi]
      have hlt' : (i : Int) < (s : Int) := by omega
      have HI := Lib.hid hi
      have HR := Lib.hid hR
      have HN := Lib.hid hn
      have p1 : (0 : Int) ≤ (t : Int) := by omega
      have p2 : (1 : Int) ≤ ((tw i : Nat) : Int) := by have := tw_pos i; omega
      have p3 : (0 : Int) ≤ (D : Int) := by omega
      clear hi hj hR hn hlt
      go_wp2_with fail
      go_quiet ((first | (go_at_call 34; exact quiet_same (l1Two_any i _ hi8)) | (go_at_call 34; exact quiet_same (l1Two_any j _ hj8))))
      clear a1 a2 a3 a4 a5
      go_wp2
      go_roundw
      case rel => exact ⟨n + 1, by have := HI.out; omega, by rw [HI.out]; go_num, by rw [HR.out], below_drewN rb _⟩
      case measure => have := HI.out; simp [intOf]; omega
    · obtain rfl : s = n + 1 := by omega
      go_wp2
      go_ret
      exact ⟨rfl, rb⟩
theorem sReverse_even (s t : Nat) (w : World) (hv : tapsB s t = true) (ho : ¬ t % 2 = 1) :
    Calls Try.prog 19 #[.int .i64 s, .int .i64 t] w fun e w' => e = .returned (.int .i64 (-1)) ∧ w = w' := by
  have h0 : ((t : Int) % 2 == 0) = true := by simp; omega
  go_enter Try.func19, Try.ntmps19
  go_wp2_with (first | (go_at_call 42; refine (l1Taps_yes _ _ _ hv).mono ?_; rintro e w' ⟨rfl, rfl⟩))
  go_ret
  exact ⟨rfl, rfl⟩
theorem sReverse_no (S T : Int) (w : World) (hv : tapsB S T = false) :
    Calls Try.prog 19 #[.int .i64 S, .int .i64 T] w fun e w' => e = .returned (.int .i64 (-1)) ∧ w = w' := by
  go_enter Try.func19, Try.ntmps19
  go_wp2_with (first | (go_at_call 42; refine (l1Taps_no _ _ _ hv).mono ?_; rintro e w' ⟨rfl, rfl⟩))
  go_ret
  exact ⟨rfl, rfl⟩
/-- What both sides answer. -/
def revTAns (S T : Int) : Int := if tapsB S T && decide (T.toNat % 2 = 1) then (revN S.toNat T.toNat (S.toNat - 1) : Nat) else -1
theorem iReverse_any (S T : Int) (w : World) :
    Calls Try.prog 18 #[.int .i64 S, .int .i64 T] w fun e w' => e = .returned (.int .i64 (revTAns S T)) ∧ Below w.heap.size w w' := by
  cases h : tapsB S T with
  | false =>
    rw [show revTAns S T = -1 by simp [revTAns, h]]
    exact (iReverse_no S T w h).mono fun e w' ⟨he, hw⟩ => ⟨he, hw ▸ Below.refl _ _⟩
  | true =>
    obtain ⟨h1, h2, h3, h4⟩ := (tapsB_iff S T).1 h
    obtain ⟨s, rfl⟩ : ∃ s : Nat, S = s := ⟨S.toNat, by omega⟩
    obtain ⟨t, rfl⟩ : ∃ t : Nat, T = t := ⟨T.toNat, by omega⟩
    by_cases ho : t % 2 = 1
    · rw [show revTAns s t = (revN s t (s - 1) : Nat) by simp [revTAns, h, ho]]
      exact (iReverse_yes s t w h ho).mono fun e w' ⟨he, hw⟩ => ⟨he, hw ▸ Below.refl _ _⟩
    · rw [show revTAns s t = -1 by simp [revTAns, ho]]
      exact (iReverse_even s t w h ho).mono fun e w' ⟨he, hw⟩ => ⟨he, hw ▸ Below.refl _ _⟩
theorem sReverse_any (S T : Int) (w : World) :
    Calls Try.prog 19 #[.int .i64 S, .int .i64 T] w fun e w' => e = .returned (.int .i64 (revTAns S T)) ∧ Below w.heap.size w w' := by
  cases h : tapsB S T with
  | false =>
    rw [show revTAns S T = -1 by simp [revTAns, h]]
    exact (sReverse_no S T w h).mono fun e w' ⟨he, hw⟩ => ⟨he, hw ▸ Below.refl _ _⟩
  | true =>
    obtain ⟨h1, h2, h3, h4⟩ := (tapsB_iff S T).1 h
    obtain ⟨s, rfl⟩ : ∃ s : Nat, S = s := ⟨S.toNat, by omega⟩
    obtain ⟨t, rfl⟩ : ∃ t : Nat, T = t := ⟨T.toNat, by omega⟩
    by_cases ho : t % 2 = 1
    · rw [show revTAns s t = (revN s t (s - 1) : Nat) by simp [revTAns, h, ho]]
      exact sReverse_yes s t w h ho
    · rw [show revTAns s t = -1 by simp [revTAns, ho]]
      exact (sReverse_even s t w h ho).mono fun e w' ⟨he, hw⟩ => ⟨he, hw ▸ Below.refl _ _⟩
end Go.Proofs.Ytbkppjelljljcaa
