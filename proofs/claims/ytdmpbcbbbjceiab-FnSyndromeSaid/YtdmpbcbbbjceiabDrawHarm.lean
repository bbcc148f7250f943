/- Some bits of a string changed, as drawn. -/
import Derived.Test.YtdmpbcbbbjceiabDrawBits
import Derived.Test.YtdmpbcbbbjceiabDrawFrm
import Derived.Test.YtdmpbcbbbjceiabSsFlip
import Derived.Deep.RegionHeld3
namespace Go.Proofs.Ytdmpbcbbbjceiab
open Go.RowKit
set_option linter.unusedVariables false
set_option maxRecDepth 100000
theorem okCut {z : ByteArray} (h : okB z z.size = true) (a b : Nat) (hb : b ≤ z.size) : okB (z.extract a b) (z.extract a b).size = true := okB_of_zb _ fun i hi => by
  rw [size_extract _ _ _ hb] at hi
  rw [zb_extract _ _ _ _ hb (by omega)]
  exact okB_zb z h _ (by omega)
theorem flip_cut {z : ByteArray} {k : Nat} (hk : k < z.size) : (z.extract 0 k ++ invS (z.extract k (k + 1))) ++ z.extract (k + 1) z.size = flipS z k := by
  have s1 := size_extract z 0 k (by omega)
  have s2 := size_extract z k (k + 1) (by omega)
  have s3 := size_extract z (k + 1) z.size (Nat.le_refl _)
  have s4 : (invS (z.extract k (k + 1))).size = 1 := by rw [invS_size, s2]; omega
  refine ba_ext (by rw [ByteArray.size_append, ByteArray.size_append, s1, s3, s4, flipS_size]; omega) fun i hi => ?_
  rw [ByteArray.size_append, ByteArray.size_append, s1, s3, s4] at hi
  rw [zb_flipS (by omega)]
  by_cases h1 : i < k
  · rw [zb_append_left _ _ _ (by rw [ByteArray.size_append, s1, s4]; omega), zb_append_left _ _ _ (by omega), zb_extract _ _ _ _ (by omega) (by omega), if_neg (by omega), Nat.zero_add]
  · by_cases h2 : i = k
    · subst h2
      rw [zb_append_left _ _ _ (by rw [ByteArray.size_append, s1, s4]; omega), zb_append_right _ _ _ (by omega) (by rw [s1, s4]; omega), s1, zb_invS _ _ (by rw [s2]; omega), zb_extract _ _ _ _ (by omega) (by omega), if_pos rfl]
      congr 2; omega
    · rw [zb_append_right _ _ _ (by rw [ByteArray.size_append, s1, s4]; omega) (by rw [ByteArray.size_append, s1, s4, s3]; omega), ByteArray.size_append, s1, s4, zb_extract _ _ _ _ (Nat.le_refl _) (by omega), if_neg h2]
      congr 1; omega
set_option maxHeartbeats 800000 in
theorem l6Flip_any (z : ByteArray) (k : Nat) (w : World) (hk : k < z.size) (ho : okB z z.size = true) (hz : z.size ≤ 1000) :
    Calls Try.prog 83 #[.string z, .int .i64 k] w fun e w' => e = .returned (.string (flipS z k)) ∧ Below w.heap.size w w' := by
  have s1 := size_extract z 0 k (by omega)
  have s2 := size_extract z k (k + 1) (by omega)
  have s3 := size_extract z (k + 1) z.size (Nat.le_refl _)
  have HI := Lib.hid (fun w => l2Invert_any (z.extract k (k + 1)) w ((seqB_iff _).2 ⟨okCut ho _ _ (by omega), by rw [s2]; omega, by rw [s2]; omega⟩))
  have s4 : (invS (z.extract k (k + 1))).size = 1 := by rw [invS_size, s2]; omega
  have hf := flip_cut hk
  obtain ⟨J, hJ⟩ : ∃ J, k + 1 = J := ⟨_, rfl⟩
  rw [hJ] at HI hf s3 s4
  obtain ⟨A, hA⟩ : ∃ A, z.extract 0 k = A := ⟨_, rfl⟩
  obtain ⟨B, hB⟩ : ∃ A, z.extract k J = A := ⟨_, rfl⟩
  obtain ⟨D, hD⟩ : ∃ A, z.extract J z.size = A := ⟨_, rfl⟩
  rw [hA, hB, hD] at hf
  rw [hB] at HI s4
  rw [hA] at s1
  rw [hD] at s3
  obtain ⟨I, hI⟩ : ∃ A, invS B = A := ⟨_, rfl⟩
  rw [hI] at HI hf s4
  have HFF := Lib.hid hf
  have v1 : IntKind.i64.wrap ((k : Int) + 1) = (J : Int) := by rw [show (k : Int) + 1 = (J : Int) by omega]; exact IntWalk.i64_in _ (by omega)
  have i0 : (0 : Int) ≤ (k : Int) := by omega
  have i1 : (k : Int) ≤ (z.size : Int) := by omega
  have i2 : (k : Int) ≤ (J : Int) := by omega
  have i3 : (J : Int) ≤ (z.size : Int) := by omega
  have i4 : (0 : Int) ≤ (J : Int) := by omega
  have q1 : A.size + I.size ≤ 9223372036854775807 := by omega
  have q2 : (A ++ I).size + D.size ≤ 9223372036854775807 := by rw [ByteArray.size_append]; omega
  have q3 := fun w => run_string_add_sum (P := Try.prog) w A I q1
  have q4 := fun w => run_string_add_sum (P := Try.prog) w (A ++ I) D q2
  have a1 : (A.size : Int) ≤ 8388608 := by omega
  have a2 : (I.size : Int) ≤ 8388608 := by omega
  have a3 : (D.size : Int) ≤ 8388608 := by omega
  have q5 : ¬ (9223372036854775807 < A.size + I.size) := by omega
  have q6 : ¬ (9223372036854775807 < A.size + I.size + D.size) := by omega
  have b0 := Below.refl w.heap.size w
  clear hJ hI hf s1 s2 s3 s4 ho hk
  go_enter Try.func83, Try.ntmps83
  go_wp2_with fail
  go_region_held3 (fun wx => Below w.heap.size w wx) (first | exact c1 | exact b0.drew) (first | (go_at_call 93; refine (HI.out _).mono ?_; rintro e w5 ⟨rfl, hB⟩; have c1 := below_then b0.drew (Nat.le_refl _) hB))
  all_goals
    go_wp2
    go_ret
    exact ⟨ret_str HFF.out, c1⟩
/-- A string with some bits changed. -/
def HarmPost (N b p : Nat) (zs : List Int) (w : World) (e : Ending) (w' : World) : Prop :=
  ∃ (y : ByteArray) (q : Nat), e = .returned (.string y) ∧ okB y y.size = true ∧ y.size = N ∧ q ≤ p + 10 ∧ RdAt w' b q zs ∧ w.grownBy w' (some b)
theorem mod_val (i n : Nat) : (i : Int).tmod (n : Int) = ((i % n : Nat) : Int) := by
  rw [Int.tmod_eq_emod_of_nonneg (by omega)]; exact (Int.natCast_emod i n).symm
set_option maxHeartbeats 1600000 in
theorem l6Harm_any (b p : Nat) (zs : List Int) (z : ByteArray) (w : World) (hr : RdAt w b p zs) (hp : p ≤ 800000) (ho : okB z z.size = true) (hz : z.size ≤ 700) :
    Calls Try.prog 61 #[.pointer (some ⟨b, 0, none⟩), .string z] w (HarmPost z.size b p zs w) := by
  have hbl := hr.1
  obtain ⟨N, hN⟩ : ∃ N, z.size = N := ⟨_, rfl⟩
  rw [hN] at hz
  rw [hN]
  have HN := Lib.hid hN
  have HO := Lib.hid ho
  clear hN ho
  go_enter Try.func61, Try.ntmps61
  go_wp2_with fail
  refine (num_any b p zs _ w.heap.size 5 [0, 1, 0, 2, 3] (hr.alloc _) (IntsAt.new w _ [0, 1, 0, 2, 3]) rfl hr.1 (by omega) (by omega) (by omega)).mono ?_
  rintro e w1 ⟨v, hv, rfl, hr1, hg1⟩
  obtain ⟨c, rfl, hc3⟩ : ∃ c : Nat, v = c ∧ c ≤ 3 := by
    simp only [List.mem_cons, List.not_mem_nil, or_false] at hv
    exact ⟨v.toNat, by omega, by omega⟩
  have hg := (World.grownBy_alloc w _ (some b)).trans hg1
  clear hr hv hg1
  go_wp2
  go_loopw [1, 5] (fun s n wr => ∃ (j q : Nat) (y : ByteArray), j ≤ 3 ∧ n = .int .i64 j ∧ s = .string y ∧ Hid (okB y y.size = true) ∧ y.size = N ∧ q + 2 * j ≤ p + 10 ∧ RdAt wr b q zs ∧ w.grownBy wr (some b)) (fun _ n _ => (intOf n).toNat)
  case atStart => exact ⟨c, p + 1, z, hc3, rfl, rfl, HO, HN.out, by omega, hr1, hg⟩
  case round =>
    clear hr1 hg
    obtain ⟨j, q, y, hj, rfl, rfl, rO, rN, rq, rR, rg⟩ := hrel
    by_cases h0 : 0 < j
    · have j0 : (0 : Int) < (j : Int) := by omega
      by_cases hN0 : 0 < N
      · have n0 : (0 : Int) < (N : Int) := by omega
        have n1 : ¬ (N : Int) = 0 := by omega
        have n2 : ((N : Int) == 0) = false := beq_eq_false_iff_ne.2 (by omega)
        go_wp2_with fail
        refine (pick_any b q 256 zs _ rR (by omega) (by omega) (by omega)).mono ?_
        rintro e w2 ⟨k1, hk1, rfl, hr2, hg2⟩
        go_wp2_with fail
        refine (pick_any b (q + 1) 256 zs _ hr2 (by omega) (by omega) (by omega)).mono ?_
        rintro e w3 ⟨k2, hk2, rfl, hr3, hg3⟩
        have hgg := rg.trans (hg2.trans hg3)
        obtain ⟨S, hS⟩ : ∃ S, k1 + k2 = S := ⟨_, rfl⟩
        have v1 : (k1 : Int) + (k2 : Int) = (S : Int) := by omega
        have v2 := mod_val S N
        have hl := Nat.mod_lt S hN0
        have HF := Lib.hid (fun w => l6Flip_any y (S % N) w (by rw [rN]; exact hl) rO.out (by omega))
        have HFO := Lib.hid (flipS_ok rO.out (S % N))
        have HFS := Lib.hid (show (flipS y (S % N)).size = N by rw [flipS_size, rN])
        obtain ⟨M, hM⟩ : ∃ M, S % N = M := ⟨_, rfl⟩
        rw [hM] at v2 HF HFO HFS
        obtain ⟨Y, hY⟩ : ∃ Y, flipS y M = Y := ⟨_, rfl⟩
        rw [hY] at HF HFO HFS
        clear hS hM hY hl rR rg hr2 hg2 hg3 rO
        go_wp2_with fail
        refine (HF.out _).mono ?_
        rintro e w4 ⟨rfl, hB⟩
        have hr4 := hr3.below hB
        have hg4 := hgg.trans (grow hB (some b))
        clear hB hr3 hgg v1 v2
        go_wp2
        go_roundw
        case rel => exact ⟨j - 1, q + 1 + 1, Y, by omega, by rw [show ((j - 1 : Nat) : Int) = (j : Int) - 1 by omega], rfl, HFO, HFS.out, by omega, hr4, hg4⟩
        case measure => simp [intOf]; omega
      · have n0 : ¬ (0 : Int) < (N : Int) := by omega
        go_wp2
        go_ret
        exact ⟨y, q, rfl, rO.out, rN, by omega, rR, rg⟩
    · have j0 : ¬ (0 : Int) < (j : Int) := by omega
      go_wp2
      go_ret
      exact ⟨y, q, rfl, rO.out, rN, by omega, rR, rg⟩
end Go.Proofs.Ytdmpbcbbbjceiab
