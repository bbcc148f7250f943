/- The model's changed bit. -/
import Derived.Test.YtdafepfjjmdkeaaDoorSsFlip
import Derived.Test.YtdafepfjjmdkeaaDoorSeqFun3
import Derived.Deep.RegionHeld3
namespace Go.Proofs.YtdafepfjjmdkeaaDoor
open Go.RowKit
set_option linter.unusedVariables false
set_option maxRecDepth 100000
theorem okCut {z : ByteArray} (h : okB z z.size = true) (a b : Nat) (hb : b ≤ z.size) : okB (z.extract a b) (z.extract a b).size = true := okB_of_zb _ fun i hi => by
  rw [size_extract _ _ _ hb] at hi
  rw [zb_extract _ _ _ _ hb (by omega)]
  exact okB_zb z h _ (by omega)
theorem flip_cut {z : ByteArray} {k : Nat} (hk : k < z.size) : (z.extract 0 k ++ invS (z.extract k (k + 1))) ++ z.extract (k + 1) z.size = flipS z k := by
  have s1 := size_extract z 0 k (by omega)
  have s2 := size_extract z k (k + 1) (by omega)
  have s3 := size_extract z (k + 1) z.size (Nat.le_refl _)
  have s4 : (invS (z.extract k (k + 1))).size = 1 := by rw [invS_size, s2]; omega
  refine ba_ext (by rw [ByteArray.size_append, ByteArray.size_append, s1, s3, s4, flipS_size]; omega) fun i hi => ?_
  rw [ByteArray.size_append, ByteArray.size_append, s1, s3, s4] at hi
  rw [zb_flipS (by omega)]
  by_cases h1 : i < k
  · rw [zb_append_left _ _ _ (by rw [ByteArray.size_append, s1, s4]; omega), zb_append_left _ _ _ (by omega), zb_extract _ _ _ _ (by omega) (by omega), if_neg (by omega), Nat.zero_add]
  · by_cases h2 : i = k
    · subst h2
      rw [zb_append_left _ _ _ (by rw [ByteArray.size_append, s1, s4]; omega), zb_append_right _ _ _ (by omega) (by rw [s1, s4]; omega), s1, zb_invS _ _ (by rw [s2]; omega), zb_extract _ _ _ _ (by omega) (by omega), if_pos rfl]
      congr 2; omega
    · rw [zb_append_right _ _ _ (by rw [ByteArray.size_append, s1, s4]; omega) (by rw [ByteArray.size_append, s1, s4, s3]; omega), ByteArray.size_append, s1, s4, zb_extract _ _ _ _ (Nat.le_refl _) (by omega), if_neg h2]
      congr 1; omega
set_option maxHeartbeats 800000 in
theorem l6Flip_any (z : ByteArray) (k : Nat) (w : World) (hk : k < z.size) (ho : okB z z.size = true) (hz : z.size ≤ 1000) :
    Calls Tryd.prog 66 #[.string z, .int .i64 k] w fun e w' => e = .returned (.string (flipS z k)) ∧ Below w.heap.size w w' := by
  have s1 := size_extract z 0 k (by omega)
  have s2 := size_extract z k (k + 1) (by omega)
  have s3 := size_extract z (k + 1) z.size (Nat.le_refl _)
  have HI := Lib.hid (fun w => l2Invert_any (z.extract k (k + 1)) w ((seqB_iff _).2 ⟨okCut ho _ _ (by omega), by rw [s2]; omega, by rw [s2]; omega⟩))
  have s4 : (invS (z.extract k (k + 1))).size = 1 := by rw [invS_size, s2]; omega
  have hf := flip_cut hk
  obtain ⟨J, hJ⟩ : ∃ J, k + 1 = J := ⟨_, rfl⟩
  rw [hJ] at HI hf s3 s4
  obtain ⟨A, hA⟩ : ∃ A, z.extract 0 k = A := ⟨_, rfl⟩
  obtain ⟨B, hB⟩ : ∃ A, z.extract k J = A := ⟨_, rfl⟩
  obtain ⟨D, hD⟩ : ∃ A, z.extract J z.size = A := ⟨_, rfl⟩
  rw [hA, hB, hD] at hf
  rw [hB] at HI s4
  rw [hA] at s1
  rw [hD] at s3
  obtain ⟨I, hI⟩ : ∃ A, invS B = A := ⟨_, rfl⟩
  rw [hI] at HI hf s4
  have HFF := Lib.hid hf
  have v1 : IntKind.i64.wrap ((k : Int) + 1) = (J : Int) := by rw [show (k : Int) + 1 = (J : Int) by omega]; exact IntWalk.i64_in _ (by omega)
  have i0 : (0 : Int) ≤ (k : Int) := by omega
  have i1 : (k : Int) ≤ (z.size : Int) := by omega
  have i2 : (k : Int) ≤ (J : Int) := by omega
  have i3 : (J : Int) ≤ (z.size : Int) := by omega
  have i4 : (0 : Int) ≤ (J : Int) := by omega
  have q1 : A.size + I.size ≤ 9223372036854775807 := by omega
  have q2 : (A ++ I).size + D.size ≤ 9223372036854775807 := by rw [ByteArray.size_append]; omega
  have q3 := fun w => run_string_add_sum (P := Tryd.prog) w A I q1
  have q4 := fun w => run_string_add_sum (P := Tryd.prog) w (A ++ I) D q2
  have a1 : (A.size : Int) ≤ 8388608 := by omega
  have a2 : (I.size : Int) ≤ 8388608 := by omega
  have a3 : (D.size : Int) ≤ 8388608 := by omega
  have q5 : ¬ (9223372036854775807 < A.size + I.size) := by omega
  have q6 : ¬ (9223372036854775807 < A.size + I.size + D.size) := by omega
  have b0 := Below.refl w.heap.size w
  clear hJ hI hf s1 s2 s3 s4 ho hk
  go_enter Tryd.func66, Tryd.ntmps66
  go_wp2_with fail
  go_region_held3 (fun wx => Below w.heap.size w wx) (first | exact c1 | exact b0.drew) (first | (go_at_call 33; refine (HI.out _).mono ?_; rintro e w5 ⟨rfl, hB⟩; have c1 := below_then b0.drew (Nat.le_refl _) hB))
  all_goals
    go_wp2
    go_ret
    exact ⟨ret_str HFF.out, c1⟩
end Go.Proofs.YtdafepfjjmdkeaaDoor
