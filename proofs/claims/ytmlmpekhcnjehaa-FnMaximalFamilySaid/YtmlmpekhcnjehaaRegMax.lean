/- IsMaximal of both sides, and the walk of its exact law. -/
import Derived.Test.YtmlmpekhcnjehaaRegLaws6
import Derived.Deep.RegionWith
namespace Go.Proofs.Ytmlmpekhcnjehaa
open Go.RowKit
theorem l1Maximal_of (s t : Nat) (A : Int) (h8 : s ≤ 8) (hs : ∀ w, Calls Try.prog 65 #[.agg #[.int .i64 s, .int .i64 t, .int .i64 1]] w fun e w' => e = .returned (.int .i64 A) ∧ Below w.heap.size w w') (w : World) :
    Calls Try.prog 46 #[.int .i64 s, .int .i64 t] w fun e w' => e = .returned (.bool (decide (A = (tw s : Int) - 1))) ∧ Below w.heap.size w w' := by
  have HS := Lib.hid hs
  have hp := tw_pos s
  have ht := tw_le s h8
  have HT := Lib.hid (fun w => l1Two_any s w h8)
  clear hs
  have b0 : Below w.heap.size w (w.alloc (.cells #[.int .i64 s, .int .i64 t, .int .i64 1] 57)) := (Below.refl _ _).alloc (Nat.le_refl _) _
  by_cases hA : A = (tw s : Int) - 1
  · rw [decide_eq_true hA]
    subst hA
    go_enter Try.func46, Try.ntmps46
    go_wp2_with fail
    refine (HS.out _).mono ?_
    rintro e w1 ⟨rfl, hb1⟩
    have b1 := below_then b0 (Nat.le_refl _) hb1
    clear hb1 b0
    go_wp2_with fail
    refine (HT.out _).mono ?_
    rintro e w2 ⟨rfl, rfl⟩
    go_wp2
    go_ret
    exact ⟨ret_bool (by simp), b1⟩
  · rw [decide_eq_false hA]
    go_enter Try.func46, Try.ntmps46
    go_wp2_with fail
    refine (HS.out _).mono ?_
    rintro e w1 ⟨rfl, hb1⟩
    have b1 := below_then b0 (Nat.le_refl _) hb1
    clear hb1 b0
    go_wp2_with fail
    refine (HT.out _).mono ?_
    rintro e w2 ⟨rfl, rfl⟩
    go_wp2
    go_ret
    exact ⟨ret_bool (by simp [hA]), b1⟩
set_option maxHeartbeats 1600000 in
theorem iMaximal_of (s t : Nat) (A : Int) (h8 : s ≤ 8) (hv : tapsB s t = true) (hs : ∀ w, Calls Try.prog 37 #[.agg #[.int .i64 s, .int .i64 t, .int .i64 1]] w fun e w' => e = .returned (.int .i64 A) ∧ Below w.heap.size w w') (w : World) :
    Calls Try.prog 17 #[.int .i64 s, .int .i64 t] w fun e w' => e = .returned (.bool (decide (A = (tw s : Int) - 1))) ∧ Below w.heap.size w w' := by
  have HS := Lib.hid hs
  have hp := tw_pos s
  have ht := tw_le s h8
  have p2 : (2 : Int) ^ s = (tw s : Nat) := by
    have : s = 0 ∨ s = 1 ∨ s = 2 ∨ s = 3 ∨ s = 4 ∨ s = 5 ∨ s = 6 ∨ s = 7 ∨ s = 8 := by omega
    rcases this with rfl | rfl | rfl | rfl | rfl | rfl | rfl | rfl | rfl <;> simp [tw]
  have p3 : IntKind.i64.wrap ((2 : Int) ^ s) = (tw s : Nat) := by rw [p2]; exact IntWalk.i64_in _ (by omega)
  have HE : Hid (IntKind.i64.wrap (IntKind.i64.wrap ((2 : Int) ^ s) - 1) = (tw s : Int) - 1) := Lib.hid (by rw [p3]; exact IntWalk.i64_in _ (by omega))
  clear p2 p3
  clear hs
  by_cases hA : A = (tw s : Int) - 1
  · rw [decide_eq_true hA]
    subst hA
    go_enter Try.func17, Try.ntmps17
    go_wp2_with fail
    go_region_with ((first
      | (go_at_call 36; refine (tapsValid_yes _ _ _ hv).mono ?_; rintro e w' ⟨rfl, rfl⟩)
      | (go_at_call 37; refine (HS.out _).mono ?_; rintro e w5 ⟨rfl, hb⟩; have b5 : Below w.heap.size w w5 := below_then (Below.refl _ w).drew (Nat.le_refl _) hb)))
    all_goals
      go_wp2
      go_ret
      exact ⟨ret_bool (by rw [HE.out]; simp), b5⟩
  · rw [decide_eq_false hA]
    go_enter Try.func17, Try.ntmps17
    go_wp2_with fail
    go_region_with ((first
      | (go_at_call 36; refine (tapsValid_yes _ _ _ hv).mono ?_; rintro e w' ⟨rfl, rfl⟩)
      | (go_at_call 37; refine (HS.out _).mono ?_; rintro e w5 ⟨rfl, hb⟩; have b5 : Below w.heap.size w w5 := below_then (Below.refl _ w).drew (Nat.le_refl _) hb)))
    all_goals
      go_wp2
      go_ret
      exact ⟨ret_bool (by rw [HE.out]; simp [hA]), b5⟩
theorem bothIsMaximal (S T : Int) : ∃ B : Bool, (B = true → tapsB S T = true) ∧
    (∀ w, Calls Try.prog 34 #[.int .i64 S, .int .i64 T] w fun e w' => e = .returned (.bool B) ∧ Below w.heap.size w w') ∧
    (∀ w, Calls Try.prog 17 #[.int .i64 S, .int .i64 T] w fun e w' => e = .returned (.bool B) ∧ Below w.heap.size w w') := by
  cases hb : tapsB S T with
  | false =>
    refine ⟨false, fun h => (by cases h), fun w => ?_, fun w => ?_⟩
    · go_enter Try.func34, Try.ntmps34
      go_wp2_with (first | (go_at_call 45; refine (l1Taps_no _ _ _ hb).mono ?_; rintro e w' ⟨rfl, rfl⟩))
      go_ret
      exact ⟨rfl, Below.refl _ _⟩
    · go_enter Try.func17, Try.ntmps17
      go_wp2_with fail
      go_quiet ((go_at_call 36; exact quiet_same (tapsValid_no _ _ _ hb)))
      go_wp2
      go_ret
      exact ⟨rfl, below_drewN (Below.refl _ w) _⟩
  | true =>
    obtain ⟨h1, h2, h3, h4⟩ := (tapsB_iff S T).1 hb
    obtain ⟨s, rfl⟩ : ∃ s : Nat, S = s := ⟨S.toNat, by omega⟩
    obtain ⟨t, rfl⟩ : ∃ t : Nat, T = t := ⟨T.toNat, by omega⟩
    obtain ⟨A, hs, hi⟩ := bothPeriodOf s t 1
    refine ⟨decide (A = (tw s : Int) - 1), fun _ => rfl, fun w => ?_, fun w => iMaximal_of s t A (by omega) hb hi w⟩
    have HM := Lib.hid (fun w => l1Maximal_of s t A (by omega) hs w)
    generalize decide (A = (tw s : Int) - 1) = B at HM ⊢
    clear hs hi h1 h2 h3 h4
    go_enter Try.func34, Try.ntmps34
    go_wp2_with (first | (go_at_call 45; refine (l1Taps_yes _ _ _ hb).mono ?_; rintro e w' ⟨rfl, rfl⟩) | (go_at_call 46; refine (HM.out _).mono ?_; rintro e w5 ⟨rfl, hb5⟩))
    go_ret
    exact ⟨rfl, hb5⟩
end Go.Proofs.Ytmlmpekhcnjehaa
