/- The draw of WalshIndex. -/
import Derived.Test.YtgfehabpoebaoaaDrawWal
import Derived.Test.YtgfehabpoebaoaaBadBig
import Derived.Test.YtgfehabpoebaoaaFam3
import Derived.BigQuiet
namespace Go.Proofs.Ytgfehabpoebaoaa
open Go.RowKit
set_option linter.unusedVariables false
set_option maxRecDepth 100000
theorem walshAns_sz (o i : Int) : (walshAns o i).1.size ≤ 64 := by
  unfold walshAns
  split
  · rename_i h
    rw [walshB_size]
    exact tw_6 _ (by omega)
  · decide
set_option maxHeartbeats 3200000 in
theorem drawWI_any (a : Option Addr) (len cap : Nat) (zs : List Int) (w : World) (h : IsBytes w a len cap zs) :
    Calls Try.prog 32 #[.slice a len cap] w fun e w' => ∃ z : ByteArray, e = .returned (.string z) ∧ z.size ≤ 1000 ∧ Below w.heap.size w w' := by
  go_enter Try.func32, Try.ntmps32
  go_wp2_with fail
  refine (open_any a len cap zs _ h).mono ?_
  rintro e w1 ⟨b, ys, rfl, hr, hb, hlb⟩
  clear h
  have hb1 : b < w1.heap.size := hr.1
  go_wp2_with fail
  refine (l3Index_any b 0 ys _ hr hb1 (by omega)).mono ?_
  rintro e w2 ⟨o, i, rfl, q, hq, r2, h2⟩
  clear hr
  have hF := fun w => sWalsh_any o i w
  have hz64 := walshAns_sz o i
  obtain ⟨A, hA⟩ : ∃ A, walshAns o i = A := ⟨_, rfl⟩
  rw [hA] at hF hz64
  obtain ⟨z, bz⟩ := A
  have HF := Lib.hid hF
  clear hF hA
  go_wp2_with fail
  refine (HF.out _).mono ?_
  rintro e w3 ⟨rfl, b3⟩
  have r3 := r2.below b3
  have h3 := h2.trans (grow b3 (some b))
  clear r2 h2 b3 HF
  have hz64 : z.size ≤ 64 := hz64
  go_wp2_with fail
  refine (pick_any b q 4 ys _ r3 (by omega) (by omega) (by omega)).mono ?_
  rintro e w4 ⟨k4, hk4, rfl, r4, h4'⟩
  have h4 := h3.trans h4'
  clear r3 h3 h4'
  by_cases hc : k4 = 0 ∧ 0 < z.size
  · obtain ⟨rfl, hz0⟩ := hc
    clear hk4
    have z0 : (0 : Int) < (z.size : Int) := by omega
    go_wp2_with fail
    refine (pick_any b (q + 1) z.size ys _ r4 (by omega) (by omega) (by omega)).mono ?_
    rintro e w5 ⟨k, hk, rfl, r5, h5'⟩
    have b6 := below_grown hb (Nat.le_refl _) (h4.trans h5') hlb
    clear r4 h4 h5' r5 hb
    have s1 := size_extract z 0 k (by omega)
    have s3 := size_extract z (k + 1) z.size (Nat.le_refl _)
    obtain ⟨J, hJ⟩ : ∃ J, k + 1 = J := ⟨_, rfl⟩
    rw [hJ] at s3
    obtain ⟨A, hA⟩ : ∃ A, z.extract 0 k = A := ⟨_, rfl⟩
    obtain ⟨D, hD⟩ : ∃ A, z.extract J z.size = A := ⟨_, rfl⟩
    rw [hA] at s1
    rw [hD] at s3
    have v1 : IntKind.i64.wrap ((k : Int) + 1) = (J : Int) := by rw [show (k : Int) + 1 = (J : Int) by omega]; exact IntWalk.i64_in _ (by omega)
    have i0 : (0 : Int) ≤ (k : Int) := by omega
    have i1' : (k : Int) ≤ (z.size : Int) := by omega
    have i3 : (J : Int) ≤ (z.size : Int) := by omega
    have i4 : (0 : Int) ≤ (J : Int) := by omega
    have o1 : ByteArray.size ⟨#[49]⟩ = 1 := rfl
    have q1 : A.size + ByteArray.size ⟨#[49]⟩ ≤ 9223372036854775807 := by rw [o1]; omega
    have q2 : (A ++ ⟨#[49]⟩ : ByteArray).size + D.size ≤ 9223372036854775807 := by rw [ByteArray.size_append, o1]; omega
    have q3 := fun w => run_string_add_sum (P := Try.prog) w A ⟨#[49]⟩ q1
    have q4 := fun w => run_string_add_sum (P := Try.prog) w (A ++ ⟨#[49]⟩) D q2
    have HS : Hid (((A ++ ⟨#[49]⟩) ++ D : ByteArray).size ≤ 1000) := Lib.hid (by rw [ByteArray.size_append, ByteArray.size_append, o1]; omega)
    have a1 : (A.size : Int) ≤ 8388608 := by omega
    have a3 : (D.size : Int) ≤ 8388608 := by omega
    have q5 : ¬ (9223372036854775807 < A.size + 1) := by omega
    have q6 : ¬ (9223372036854775807 < A.size + 1 + D.size) := by omega
    clear hJ s1 s3 o1
    go_wp2_with fail
    go_quiet (fail)
    have b7 := below_drewN b6 nq
    go_wp2
    go_ret
    exact ⟨_, rfl, HS.out, b7⟩
  · have HC := Lib.hid hc
    have hp : ∀ K : Act → World → Prop, (K = K) := fun _ => rfl
    by_cases k0 : k4 = 0
    · subst k0
      have z0 : z.size = 0 := by have := HC.out; omega
      have z1 : ¬ ((0 : Int) < (z.size : Int)) := by omega
      clear hk4 hp hc
      go_wp2_with fail
      refine (l2Bad_big b (q + 1) ys z _ r4 (by omega) (by omega)).mono ?_
      rintro e w5 ⟨y, p, rfl, hy, hp, r5, h5'⟩
      have b6 := below_grown hb (Nat.le_refl _) (h4.trans h5') hlb
      clear r4 h4 h5' r5 hb
      go_wp2
      go_ret
      exact ⟨_, rfl, hy, b6⟩
    · have t4 : ((k4 : Int) == 0) = false := by simp; omega
      clear hk4 hp hc
      go_wp2_with fail
      refine (l2Bad_big b (q + 1) ys z _ r4 (by omega) (by omega)).mono ?_
      rintro e w5 ⟨y, p, rfl, hy, hp, r5, h5'⟩
      have b6 := below_grown hb (Nat.le_refl _) (h4.trans h5') hlb
      clear r4 h4 h5' r5 hb
      go_wp2
      go_ret
      exact ⟨_, rfl, hy, b6⟩
end Go.Proofs.Ytgfehabpoebaoaa
