/- Some bits of a string changed, as drawn. -/
import Derived.Test.YtdafepfjjmdkeaaDoorDrawBits
import Derived.Test.YtdafepfjjmdkeaaDoorDrawFrm
import Derived.Test.YtdafepfjjmdkeaaDoorSsFlip
import Derived.Test.YtdafepfjjmdkeaaDoorFlp
import Derived.Deep.RegionHeld3
namespace Go.Proofs.YtdafepfjjmdkeaaDoor
open Go.RowKit
set_option linter.unusedVariables false
set_option maxRecDepth 100000
/-- A string with some bits changed. -/
def HarmPost (N b p : Nat) (zs : List Int) (w : World) (e : Ending) (w' : World) : Prop :=
  ∃ (y : ByteArray) (q : Nat), e = .returned (.string y) ∧ okB y y.size = true ∧ y.size = N ∧ q ≤ p + 10 ∧ RdAt w' b q zs ∧ w.grownBy w' (some b)
theorem mod_val (i n : Nat) : (i : Int).tmod (n : Int) = ((i % n : Nat) : Int) := by
  rw [Int.tmod_eq_emod_of_nonneg (by omega)]; exact (Int.natCast_emod i n).symm
set_option maxHeartbeats 1600000 in
theorem l6Harm_any (b p : Nat) (zs : List Int) (z : ByteArray) (w : World) (hr : RdAt w b p zs) (hp : p ≤ 800000) (ho : okB z z.size = true) (hz : z.size ≤ 700) :
    Calls Tryd.prog 55 #[.pointer (some ⟨b, 0, none⟩), .string z] w (HarmPost z.size b p zs w) := by
  have hbl := hr.1
  obtain ⟨N, hN⟩ : ∃ N, z.size = N := ⟨_, rfl⟩
  rw [hN] at hz
  rw [hN]
  have HN := Lib.hid hN
  have HO := Lib.hid ho
  clear hN ho
  go_enter Tryd.func55, Tryd.ntmps55
  go_wp2_with fail
  refine (num_any b p zs _ w.heap.size 5 [0, 1, 0, 2, 3] (hr.alloc _) (IntsAt.new w _ [0, 1, 0, 2, 3]) rfl hr.1 (by omega) (by omega) (by omega)).mono ?_
  rintro e w1 ⟨v, hv, rfl, hr1, hg1⟩
  obtain ⟨c, rfl, hc3⟩ : ∃ c : Nat, v = c ∧ c ≤ 3 := by
    simp only [List.mem_cons, List.not_mem_nil, or_false] at hv
    exact ⟨v.toNat, by omega, by omega⟩
  have hg := (World.grownBy_alloc w _ (some b)).trans hg1
  clear hr hv hg1
  go_wp2
  go_loopw [1, 5] (fun s n wr => ∃ (j q : Nat) (y : ByteArray), j ≤ 3 ∧ n = .int .i64 j ∧ s = .string y ∧ Hid (okB y y.size = true) ∧ y.size = N ∧ q + 2 * j ≤ p + 10 ∧ RdAt wr b q zs ∧ w.grownBy wr (some b)) (fun _ n _ => (intOf n).toNat)
  case atStart => exact ⟨c, p + 1, z, hc3, rfl, rfl, HO, HN.out, by omega, hr1, hg⟩
  case round =>
    clear hr1 hg
    obtain ⟨j, q, y, hj, rfl, rfl, rO, rN, rq, rR, rg⟩ := hrel
    by_cases h0 : 0 < j
    · have j0 : (0 : Int) < (j : Int) := by omega
      by_cases hN0 : 0 < N
      · have n0 : (0 : Int) < (N : Int) := by omega
        have n1 : ¬ (N : Int) = 0 := by omega
        have n2 : ((N : Int) == 0) = false := beq_eq_false_iff_ne.2 (by omega)
        go_wp2_with fail
        refine (pick_any b q 256 zs _ rR (by omega) (by omega) (by omega)).mono ?_
        rintro e w2 ⟨k1, hk1, rfl, hr2, hg2⟩
        go_wp2_with fail
        refine (pick_any b (q + 1) 256 zs _ hr2 (by omega) (by omega) (by omega)).mono ?_
        rintro e w3 ⟨k2, hk2, rfl, hr3, hg3⟩
        have hgg := rg.trans (hg2.trans hg3)
        obtain ⟨S, hS⟩ : ∃ S, k1 + k2 = S := ⟨_, rfl⟩
        have v1 : (k1 : Int) + (k2 : Int) = (S : Int) := by omega
        have v2 := mod_val S N
        have hl := Nat.mod_lt S hN0
        have HF := Lib.hid (fun w => l6Flip_any y (S % N) w (by rw [rN]; exact hl) rO.out (by omega))
        have HFO := Lib.hid (flipS_ok rO.out (S % N))
        have HFS := Lib.hid (show (flipS y (S % N)).size = N by rw [flipS_size, rN])
        obtain ⟨M, hM⟩ : ∃ M, S % N = M := ⟨_, rfl⟩
        rw [hM] at v2 HF HFO HFS
        obtain ⟨Y, hY⟩ : ∃ Y, flipS y M = Y := ⟨_, rfl⟩
        rw [hY] at HF HFO HFS
        clear hS hM hY hl rR rg hr2 hg2 hg3 rO
        go_wp2_with fail
        refine (HF.out _).mono ?_
        rintro e w4 ⟨rfl, hB⟩
        have hr4 := hr3.below hB
        have hg4 := hgg.trans (grow hB (some b))
        clear hB hr3 hgg v1 v2
        go_wp2
        go_roundw
        case rel => exact ⟨j - 1, q + 1 + 1, Y, by omega, by rw [show ((j - 1 : Nat) : Int) = (j : Int) - 1 by omega], rfl, HFO, HFS.out, by omega, hr4, hg4⟩
        case measure => simp [intOf]; omega
      · have n0 : ¬ (0 : Int) < (N : Int) := by omega
        go_wp2
        go_ret
        exact ⟨y, q, rfl, rO.out, rN, by omega, rR, rg⟩
    · have j0 : ¬ (0 : Int) < (j : Int) := by omega
      go_wp2
      go_ret
      exact ⟨y, q, rfl, rO.out, rN, by omega, rR, rg⟩
end Go.Proofs.YtdafepfjjmdkeaaDoor
