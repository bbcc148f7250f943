/- The draw of BarkerValid. -/
import Derived.Test.YtgfehabpoebaoaaBarkNum
import Derived.Test.YtgfehabpoebaoaaDraw9
import Derived.BigQuiet
namespace Go.Proofs.Ytgfehabpoebaoaa
open Go.RowKit
set_option linter.unusedVariables false
set_option maxRecDepth 100000
set_option maxHeartbeats 3200000 in
theorem drawBV_any (a : Option Addr) (len cap : Nat) (zs : List Int) (w : World) (h : IsBytes w a len cap zs) :
    Calls Try.prog 9 #[.slice a len cap] w fun e w' => ∃ z : ByteArray, e = .returned (.string z) ∧ z.size ≤ 1000 ∧ Below w.heap.size w w' := by
  go_enter Try.func9, Try.ntmps9
  go_wp2_with fail
  refine (open_any a len cap zs _ h).mono ?_
  rintro e w1 ⟨b, ys, rfl, hr, hb, hlb⟩
  clear h
  go_wp2_with fail
  refine (num_any b 0 ys _ w1.heap.size 8 [3, 4, 5, 7, 2, 1, 11, 13] (hr.alloc _) (IntsAt.new w1 _ [3, 4, 5, 7, 2, 1, 11, 13]) rfl hr.1 (by omega) (by omega) (by omega)).mono ?_
  rintro e w2 ⟨y, hy, rfl, r2, h2'⟩
  have h2 := (World.grownBy_alloc w1 (.cells #[.int .i64 3, .int .i64 4, .int .i64 5, .int .i64 7, .int .i64 2, .int .i64 1, .int .i64 11, .int .i64 13] 3) (some b)).trans h2'
  obtain ⟨c, rfl, hc⟩ : ∃ c : Nat, y = (c : Int) ∧ (c = 1 ∨ c = 2 ∨ c = 3 ∨ c = 4 ∨ c = 5 ∨ c = 7 ∨ c = 11 ∨ c = 13) := by
    simp only [List.mem_cons, List.not_mem_nil, or_false] at hy
    exact ⟨y.toNat, by omega, by omega⟩
  obtain ⟨z, hz1, hz2, -, -⟩ := bark_yes c hc
  have hF := fun w => sFirstBark_any (c : Int) w
  rw [hz1] at hF
  have HF := Lib.hid hF
  have hz13 : z.size ≤ 13 := by omega
  have hz0 : 1 ≤ z.size := by omega
  clear hr h2' hy hc hz1 hz2 hF
  go_wp2_with fail
  refine (HF.out _).mono ?_
  rintro e w3 ⟨rfl, b3⟩
  have r3 := r2.below b3
  have h3 := h2.trans (grow b3 (some b))
  clear r2 h2 b3 HF
  go_wp2_with fail
  refine (pick_any b 1 3 ys _ r3 (by omega) (by omega) (by omega)).mono ?_
  rintro e w4 ⟨k3, hk3, rfl, r4, h4'⟩
  have h4 := h3.trans h4'
  clear r3 h3 h4'
  by_cases k0 : k3 = 0
  · subst k0
    clear hk3
    go_wp2_with fail
    refine (l2Open_any b 2 ys _ r4 (by omega)).mono ?_
    rintro e w5 ⟨x, q, rfl, hx, hq, r5, h5⟩
    have b5 := below_grown hb (Nat.le_refl _) (h4.trans h5) hlb
    clear hb h4 h5 r4 r5
    go_wp2
    go_ret
    exact ⟨x, rfl, by omega, b5⟩
  · have t0 : (0 : Int) < (k3 : Int) := by omega
    go_wp2_with fail
    have hm1 : (z.size : Int) + 1 = ((z.size + 1 : Nat) : Int) := by omega
    rw [hm1]
    clear hm1
    refine (pick_any b 2 (z.size + 1) ys _ r4 (by omega) (by omega) (by omega)).mono ?_
    rintro e w5 ⟨k, hk, rfl, r5, h5'⟩
    have h5 := h4.trans h5'
    clear r4 h4 h5'
    by_cases hks : k < z.size
    · have i1 : (k : Int) < (z.size : Int) := by omega
      go_wp2_with fail
      refine (pick_any b 3 4 ys _ r5 (by omega) (by omega) (by omega)).mono ?_
      rintro e w6 ⟨k4, hk4, rfl, r6, h6'⟩
      have b6 := below_grown hb (Nat.le_refl _) (h5.trans h6') hlb
      clear hb h5 r5 h6' r6
      by_cases k40 : k4 = 0
      · subst k40
        have s1 := size_extract z 0 k (by omega)
        have s3 := size_extract z (k + 1) z.size (Nat.le_refl _)
        obtain ⟨J, hJ⟩ : ∃ J, k + 1 = J := ⟨_, rfl⟩
        rw [hJ] at s3
        obtain ⟨A, hA⟩ : ∃ A, z.extract 0 k = A := ⟨_, rfl⟩
        obtain ⟨D, hD⟩ : ∃ A, z.extract J z.size = A := ⟨_, rfl⟩
        rw [hA] at s1
        rw [hD] at s3
        have v1 : IntKind.i64.wrap ((k : Int) + 1) = (J : Int) := by rw [show (k : Int) + 1 = (J : Int) by omega]; exact IntWalk.i64_in _ (by omega)
        have i0 : (0 : Int) ≤ (k : Int) := by omega
        have i1' : (k : Int) ≤ (z.size : Int) := by omega
        have i3 : (J : Int) ≤ (z.size : Int) := by omega
        have i4 : (0 : Int) ≤ (J : Int) := by omega
        have o1 : ByteArray.size ⟨#[49]⟩ = 1 := rfl
        have q1 : A.size + ByteArray.size ⟨#[49]⟩ ≤ 9223372036854775807 := by rw [o1]; omega
        have q2 : (A ++ ⟨#[49]⟩ : ByteArray).size + D.size ≤ 9223372036854775807 := by rw [ByteArray.size_append, o1]; omega
        have q3 := fun w => run_string_add_sum (P := Try.prog) w A ⟨#[49]⟩ q1
        have q4 := fun w => run_string_add_sum (P := Try.prog) w (A ++ ⟨#[49]⟩) D q2
        have HS : Hid (((A ++ ⟨#[49]⟩) ++ D : ByteArray).size ≤ 1000) := Lib.hid (by rw [ByteArray.size_append, ByteArray.size_append, o1]; omega)
        have a1 : (A.size : Int) ≤ 8388608 := by omega
        have a3 : (D.size : Int) ≤ 8388608 := by omega
        have q5 : ¬ (9223372036854775807 < A.size + 1) := by omega
        have q6 : ¬ (9223372036854775807 < A.size + 1 + D.size) := by omega
        clear hJ s1 s3 hk4 o1
        go_wp2_with fail
        go_quiet (fail)
        have b7 := below_drewN b6 nq
        go_wp2
        go_ret
        exact ⟨_, rfl, HS.out, b7⟩
      · have t4 : ((k4 : Int) == 0) = false := by simp; omega
        go_wp2
        go_ret
        exact ⟨z, rfl, by omega, b6⟩
    · have i1 : ¬ (k : Int) < (z.size : Int) := by omega
      have b6 := below_grown hb (Nat.le_refl _) h5 hlb
      clear hb h5 r5
      go_wp2
      go_ret
      exact ⟨z, rfl, by omega, b6⟩
end Go.Proofs.Ytgfehabpoebaoaa
