/- Contracts of the small functions on registers: parity, powers of two, validity. -/
import Derived.Test.YtnpaigpdbjadlacProg
import Derived.Test.YtnpaigpdbjadlacRegMath
import Derived.WalkKit
import Derived.WalkSpells
import Derived.Handy
import Derived.Outline
import Derived.Lib.Hide
import Derived.Deep.QuietTactic
import Derived.BigQuiet
namespace Go.Proofs.Ytnpaigpdbjadlac
open Go.RowKit

theorem quiet_same {P : Program} {f : FuncId} {args : Array Value} {w : World} {n : Nat} {v : Value}
    (h : Calls P f args (w.drewN n) fun e w' => e = .returned v ∧ w.drewN n = w') : Calls P f args (w.drewN n) fun e w'' => e = .returned v ∧ ∃ m, w'' = w.drewN m :=
  h.mono fun _ _ ⟨he, hm⟩ => ⟨he, n, hm.symm⟩
theorem below_drewN {B : Nat} {a w : World} (h : Below B a w) (n : Nat) : Below B a (w.drewN n) := ⟨h.os, h.tape, h.output, h.size, h.block⟩
theorem ret_int {k : IntKind} {a b : Int} (h : a = b) : Ending.returned (.int k a) = .returned (.int k b) := by rw [h]

set_option maxHeartbeats 400000 in
theorem l1Parity_any (n : Nat) (w : World) (h : n ≤ 9223372036854775807) :
    Calls Try.prog 25 #[.int .i64 n] w fun e w' => e = .returned (.int .i64 (par n : Nat)) ∧ w = w' := by
  go_enter Try.func25, Try.ntmps25
  go_wp2
  go_loop [3, 0] (fun out m' => ∃ m s : Nat, m ≤ 9223372036854775807 ∧ s < 2 ∧ m' = .int .i64 m ∧ out = .int .i64 s ∧ (s + par m) % 2 = par n) (fun _ m' => (intOf m').toNat)
  case atStart => exact ⟨n, 0, h, by omega, rfl, rfl, by have := par_lt n; omega⟩
  case round =>
    obtain ⟨m, s, hm, hs, rfl, rfl, hp⟩ := hrel
    have HP := Lib.hid hp
    clear hp
    by_cases hz : 0 < m
    · have hx := xor64_bit s (m % 2) hs (by omega)
      rw [show ((m % 2 : Nat) : Int) = (m : Int) % 2 by omega] at hx
      have HX := Lib.hid hx
      clear hx
      go_wp2
      go_round
      case rel =>
        refine ⟨m / 2, (s + m % 2) % 2, by omega, by omega, by go_num, ?_, ?_⟩
        · rw [HX.out]
        · have := HP.out
          rw [par_half m (by omega)] at this
          omega
      case measure => simp [intOf]; omega
    · obtain rfl : m = 0 := by omega
      go_wp2
      go_ret
      exact ⟨ret_int (by have := HP.out; rw [par_zero] at this; omega), rfl⟩
set_option maxHeartbeats 400000 in
theorem parity_any (n : Nat) (w : World) (h : n ≤ 9223372036854775807) :
    Calls Try.prog 12 #[.int .i64 n] w fun e w' => e = .returned (.int .i64 (par n : Nat)) ∧ w = w' := by
  have hn : ¬ ((n : Int) < 0) := by omega
  go_enter Try.func12, Try.ntmps12
  go_wp2
  go_loop [3, 0] (fun out m' => ∃ m s : Nat, m ≤ 9223372036854775807 ∧ s < 2 ∧ m' = .int .i64 m ∧ out = .int .i64 s ∧ (s + par m) % 2 = par n) (fun _ m' => (intOf m').toNat)
  case atStart => exact ⟨n, 0, h, by omega, rfl, rfl, by have := par_lt n; omega⟩
  case round =>
    obtain ⟨m, s, hm, hs, rfl, rfl, hp⟩ := hrel
    have HP := Lib.hid hp
    clear hp
    by_cases hz : 0 < m
    · have hx := xor64_bit s (m % 2) hs (by omega)
      rw [← and64_one m (by omega)] at hx
      have HX := Lib.hid hx
      clear hx
      go_wp2
      go_round
      case rel =>
        refine ⟨m / 2, (s + m % 2) % 2, by omega, by omega, by go_num, ?_, ?_⟩
        · rw [HX.out]
        · have := HP.out
          rw [par_half m (by omega)] at this
          omega
      case measure => simp [intOf]; omega
    · obtain rfl : m = 0 := by omega
      go_wp2
      go_ret
      exact ⟨ret_int (by have := HP.out; rw [par_zero] at this; omega), rfl⟩
theorem parity_neg (n : Int) (w : World) (h : n < 0) :
    Calls Try.prog 12 #[.int .i64 n] w fun e w' => e = .returned (.int .i64 (-1)) ∧ w = w' := by
  go_enter Try.func12, Try.ntmps12
  go_wp2
  go_ret
  exact ⟨rfl, rfl⟩
theorem ret_bool {a b : Bool} (h : a = b) : Ending.returned (.bool a) = .returned (.bool b) := by rw [h]
theorem l1Two_any (s : Nat) (w : World) (h : s ≤ 8) :
    Calls Try.prog 23 #[.int .i64 s] w fun e w' => e = .returned (.int .i64 (tw s : Nat)) ∧ w = w' := by
  go_enter Try.func23, Try.ntmps23
  go_wp2
  go_ret
  exact ⟨ret_int (wrap_tw s h), rfl⟩
theorem l1In_any (n lo hi : Int) (w : World) :
    Calls Try.prog 22 #[.int .i64 n, .int .i64 lo, .int .i64 hi] w fun e w' => e = .returned (.bool (decide (lo ≤ n) && decide (n ≤ hi))) ∧ w = w' := by
  by_cases h1 : lo ≤ n
  · go_enter Try.func22, Try.ntmps22
    go_wp2
    go_ret
    exact ⟨ret_bool (by simp [h1]), rfl⟩
  · go_enter Try.func22, Try.ntmps22
    go_wp2
    go_ret
    exact ⟨ret_bool (by rw [decide_eq_false (by omega : ¬ lo ≤ n)]; rfl), rfl⟩
theorem sizeValid_any (S : Int) (w : World) :
    Calls Try.prog 34 #[.int .i64 S] w fun e w' => e = .returned (.bool (decide (2 ≤ S) && decide (S ≤ 8))) ∧ w = w' := by
  by_cases h1 : 2 ≤ S
  · go_enter Try.func34, Try.ntmps34
    go_wp2
    go_ret
    exact ⟨ret_bool (by simp [h1]), rfl⟩
  · go_enter Try.func34, Try.ntmps34
    go_wp2
    go_ret
    exact ⟨ret_bool (by rw [decide_eq_false (by omega : ¬ 2 ≤ S)]; rfl), rfl⟩
theorem in_yes {n lo hi : Int} (h1 : lo ≤ n) (h2 : n ≤ hi) : (decide (lo ≤ n) && decide (n ≤ hi)) = true := by simp [h1, h2]
theorem in_no {n lo hi : Int} (h : ¬ (lo ≤ n ∧ n ≤ hi)) : (decide (lo ≤ n) && decide (n ≤ hi)) = false := by
  by_cases h1 : lo ≤ n
  · have h2 : ¬ n ≤ hi := fun h2 => h ⟨h1, h2⟩
    simp only [h1, h2, decide_true, decide_false, Bool.and_false]
  · simp only [h1, decide_false, Bool.false_and]
theorem l1In_yes (n lo hi : Int) (w : World) (h1 : lo ≤ n) (h2 : n ≤ hi) :
    Calls Try.prog 22 #[.int .i64 n, .int .i64 lo, .int .i64 hi] w fun e w' => e = .returned (.bool true) ∧ w = w' := by
  rw [← in_yes h1 h2]; exact l1In_any n lo hi w
theorem l1In_no (n lo hi : Int) (w : World) (h : ¬ (lo ≤ n ∧ n ≤ hi)) :
    Calls Try.prog 22 #[.int .i64 n, .int .i64 lo, .int .i64 hi] w fun e w' => e = .returned (.bool false) ∧ w = w' := by
  rw [← in_no h]; exact l1In_any n lo hi w
theorem sizeValid_yes (S : Int) (w : World) (h1 : 2 ≤ S) (h2 : S ≤ 8) :
    Calls Try.prog 34 #[.int .i64 S] w fun e w' => e = .returned (.bool true) ∧ w = w' := by
  rw [← in_yes h1 h2]; exact sizeValid_any S w
theorem sizeValid_no (S : Int) (w : World) (h : ¬ (2 ≤ S ∧ S ≤ 8)) :
    Calls Try.prog 34 #[.int .i64 S] w fun e w' => e = .returned (.bool false) ∧ w = w' := by
  rw [← in_no h]; exact sizeValid_any S w
theorem taps_out {S T : Int} (h : ¬ (2 ≤ S ∧ S ≤ 8)) : false = tapsB S T := by
  cases hb : tapsB S T with
  | false => rfl
  | true => obtain ⟨h1, h2, _⟩ := (tapsB_iff S T).1 hb; exact absurd ⟨h1, h2⟩ h
theorem taps_in {s : Nat} {T : Int} (h1 : 2 ≤ s) (h2 : s ≤ 8) : (decide (1 ≤ T) && decide (T < tw s)) = tapsB s T := by
  rw [Bool.eq_iff_iff, tapsB_iff]; simp; omega
theorem l1Taps_any (S T : Int) (w : World) :
    Calls Try.prog 21 #[.int .i64 S, .int .i64 T] w fun e w' => e = .returned (.bool (tapsB S T)) ∧ w = w' := by
  by_cases h1 : 2 ≤ S ∧ S ≤ 8
  · obtain ⟨h2, h3⟩ := h1
    obtain ⟨s, rfl⟩ : ∃ s : Nat, S = s := ⟨S.toNat, by omega⟩
    have hb := tw_le s (by omega)
    have hp := tw_pos s
    go_enter Try.func21, Try.ntmps21
    go_wp2_with (first | (go_at_call 22; refine (l1In_any _ _ _ _).mono ?_; rintro e w' ⟨rfl, rfl⟩) | (go_at_call 23; refine (l1Two_any _ _ (by omega)).mono ?_; rintro e w' ⟨rfl, rfl⟩))
    go_ret
    exact ⟨ret_bool (by rw [← taps_in (by omega) (by omega), Bool.eq_iff_iff]; simp; omega), rfl⟩
  · go_enter Try.func21, Try.ntmps21
    go_wp2_with (first | (go_at_call 22; refine (l1In_no _ _ _ _ h1).mono ?_; rintro e w' ⟨rfl, rfl⟩))
    go_ret
    exact ⟨ret_bool (taps_out h1), rfl⟩
theorem tapsValid_any (S T : Int) (w : World) :
    Calls Try.prog 24 #[.int .i64 S, .int .i64 T] w fun e w' => e = .returned (.bool (tapsB S T)) ∧ w = w' := by
  by_cases h1 : 2 ≤ S ∧ S ≤ 8
  · obtain ⟨h2, h3⟩ := h1
    obtain ⟨s, rfl⟩ : ∃ s : Nat, S = s := ⟨S.toNat, by omega⟩
    have hb := tw_le s (by omega)
    have hp := tw_pos s
    have e2 := wrap_tw s (by omega)
    by_cases h4 : 0 < T
    · go_enter Try.func24, Try.ntmps24
      go_wp2_with (first | (go_at_call 34; refine (sizeValid_yes _ _ (by omega) (by omega)).mono ?_; rintro e w' ⟨rfl, rfl⟩))
      go_ret
      exact ⟨ret_bool (by rw [← taps_in (by omega) (by omega)]; simp; omega), rfl⟩
    · go_enter Try.func24, Try.ntmps24
      go_wp2_with (first | (go_at_call 34; refine (sizeValid_yes _ _ (by omega) (by omega)).mono ?_; rintro e w' ⟨rfl, rfl⟩))
      go_ret
      exact ⟨ret_bool (by rw [← taps_in (by omega) (by omega)]; simp; omega), rfl⟩
  · go_enter Try.func24, Try.ntmps24
    go_wp2_with (first | (go_at_call 34; refine (sizeValid_no _ _ h1).mono ?_; rintro e w' ⟨rfl, rfl⟩))
    go_ret
    exact ⟨ret_bool (taps_out h1), rfl⟩
theorem tapsValid_yes (S T : Int) (w : World) (h : tapsB S T = true) :
    Calls Try.prog 24 #[.int .i64 S, .int .i64 T] w fun e w' => e = .returned (.bool true) ∧ w = w' := by
  rw [← h]; exact tapsValid_any S T w
theorem tapsValid_no (S T : Int) (w : World) (h : tapsB S T = false) :
    Calls Try.prog 24 #[.int .i64 S, .int .i64 T] w fun e w' => e = .returned (.bool false) ∧ w = w' := by
  rw [← h]; exact tapsValid_any S T w
theorem l1Taps_yes (S T : Int) (w : World) (h : tapsB S T = true) :
    Calls Try.prog 21 #[.int .i64 S, .int .i64 T] w fun e w' => e = .returned (.bool true) ∧ w = w' := by
  rw [← h]; exact l1Taps_any S T w
theorem l1Taps_no (S T : Int) (w : World) (h : tapsB S T = false) :
    Calls Try.prog 21 #[.int .i64 S, .int .i64 T] w fun e w' => e = .returned (.bool false) ∧ w = w' := by
  rw [← h]; exact l1Taps_any S T w
theorem regB_no {S T X : Int} (h : tapsB S T = false) : false = regB S T X := by unfold regB; rw [h]; rfl
theorem regB_in {s : Nat} {T X : Int} (h : tapsB s T = true) : (decide (0 ≤ X) && decide (X < tw s)) = regB s T X := by unfold regB; rw [h]; simp
theorem sRegisterValid_any (S T X : Int) (w : World) :
    Calls Try.prog 8 #[.agg #[.int .i64 S, .int .i64 T, .int .i64 X]] w fun e w' => e = .returned (.bool (regB S T X)) ∧ Below w.heap.size w w' := by
  cases ht : tapsB S T with
  | true =>
    obtain ⟨h1, h2, h3, h4⟩ := (tapsB_iff S T).1 ht
    obtain ⟨s, rfl⟩ : ∃ s : Nat, S = s := ⟨S.toNat, by omega⟩
    have hb := tw_le s (by omega)
    have hp := tw_pos s
    go_enter Try.func8, Try.ntmps8
    go_wp2_with fail
    go_quiet ((first
      | (go_at_call 21; exact quiet_same (l1Taps_yes _ _ _ ht))
      | (go_at_call 22; exact quiet_same (l1In_any _ _ _ _))
      | (go_at_call 23; exact quiet_same (l1Two_any s _ (by omega)))))
    go_wp2
    go_ret
    exact ⟨ret_bool (by rw [← regB_in ht, Bool.eq_iff_iff]; simp; omega), below_drewN ((Below.refl _ _).alloc (Nat.le_refl _) _) _⟩
  | false =>
    go_enter Try.func8, Try.ntmps8
    go_wp2_with fail
    go_quiet ((first
      | (go_at_call 21; exact quiet_same (l1Taps_no _ _ _ ht))))
    go_wp2
    go_ret
    exact ⟨ret_bool (regB_no ht), below_drewN ((Below.refl _ _).alloc (Nat.le_refl _) _) _⟩
theorem iRegisterValid_any (S T X : Int) (w : World) :
    Calls Try.prog 10 #[.agg #[.int .i64 S, .int .i64 T, .int .i64 X]] w fun e w' => e = .returned (.bool (regB S T X)) ∧ Below w.heap.size w w' := by
  cases ht : tapsB S T with
  | true =>
    obtain ⟨h1, h2, h3, h4⟩ := (tapsB_iff S T).1 ht
    obtain ⟨s, rfl⟩ : ∃ s : Nat, S = s := ⟨S.toNat, by omega⟩
    have hb := tw_le s (by omega)
    have hp := tw_pos s
    have hw := wrap_tw s (by omega)
    by_cases h0 : 0 ≤ X
    · go_enter Try.func10, Try.ntmps10
      go_wp2_with fail
      go_quiet ((first
        | (go_at_call 24; exact quiet_same (tapsValid_yes _ _ _ ht))))
      go_wp2
      go_ret
      exact ⟨ret_bool (by rw [← regB_in ht, Bool.eq_iff_iff]; simp; omega), below_drewN ((Below.refl _ _).alloc (Nat.le_refl _) _) _⟩
    · have hd : decide (0 ≤ X) = false := by simpa using h0
      go_enter Try.func10, Try.ntmps10
      go_wp2_with fail
      go_quiet ((first
        | (go_at_call 24; exact quiet_same (tapsValid_yes _ _ _ ht))))
      go_wp2
      go_ret
      exact ⟨ret_bool (by rw [← regB_in ht, Bool.eq_iff_iff]; simp; omega), below_drewN ((Below.refl _ _).alloc (Nat.le_refl _) _) _⟩
  | false =>
    go_enter Try.func10, Try.ntmps10
    go_wp2_with fail
    go_quiet ((first
      | (go_at_call 24; exact quiet_same (tapsValid_no _ _ _ ht))))
    go_wp2
    go_ret
    exact ⟨ret_bool (regB_no ht), below_drewN ((Below.refl _ _).alloc (Nat.le_refl _) _) _⟩
end Go.Proofs.Ytnpaigpdbjadlac
