/- The draws of FindFrame, ParseFrame, AllFrames and FixPolarity. -/
import Derived.Test.YtdafepfjjmdkeaaDoorDrawStm
import Derived.Test.YtdafepfjjmdkeaaDoorFndS
namespace Go.Proofs.YtdafepfjjmdkeaaDoor
open Go.RowKit
set_option linter.unusedVariables false
set_option maxRecDepth 100000
set_option maxHeartbeats 800000 in
theorem drawAllF_any (a : Option Addr) (len cap : Nat) (zs : List Int) (w : World) (h : IsBytes w a len cap zs) :
    Calls Tryd.prog 24 #[.slice a len cap] w (DrawBits w) := by
  go_enter Tryd.func24, Tryd.ntmps24
  go_wp2_with fail
  refine (open_any a len cap zs _ h).mono ?_
  rintro e w1 ⟨b, ys, rfl, hr1, hb1, hlb⟩
  go_wp2_with fail
  refine (l6Stream_any b 0 ys _ hr1 (by omega)).mono ?_
  rintro e w2 ⟨z, q, rfl, ho, hz, hq, hr2, hg2⟩
  have b2 := below_grown hb1 (Nat.le_refl _) hg2 (by omega)
  clear hb1 hr1 hg2
  go_wp2_with fail
  refine (l6Wild_any b q ys z _ hr2 (by omega) (by omega)).mono ?_
  rintro e w3 ⟨y, q3, rfl, hy, hq3, hr3, hg3⟩
  have b3 := below_grown b2 (Nat.le_refl _) hg3 (by omega)
  clear b2 hr2 hg3
  go_wp2
  go_ret
  exact ⟨y, rfl, hy, b3⟩
theorem drawPol_any (a : Option Addr) (len cap : Nat) (zs : List Int) (w : World) (h : IsBytes w a len cap zs) :
    Calls Tryd.prog 27 #[.slice a len cap] w (DrawBits w) := by
  go_enter Tryd.func27, Tryd.ntmps27
  go_wp2_with fail
  refine (drawAllF_any a len cap zs _ h).mono ?_
  rintro e w1 ⟨y, rfl, hy, hb⟩
  go_wp2
  go_ret
  exact ⟨y, rfl, hy, hb⟩
set_option maxHeartbeats 800000 in
theorem drawFind_any (a : Option Addr) (len cap : Nat) (zs : List Int) (w : World) (h : IsBytes w a len cap zs) :
    Calls Tryd.prog 23 #[.slice a len cap] w (DrawBitsInt w) := by
  go_enter Tryd.func23, Tryd.ntmps23
  go_wp2_with fail
  refine (open_any a len cap zs _ h).mono ?_
  rintro e w1 ⟨b, ys, rfl, hr1, hb1, hlb⟩
  go_wp2_with fail
  refine (l6Stream_any b 0 ys _ hr1 (by omega)).mono ?_
  rintro e w2 ⟨z, q, rfl, ho, hz, hq, hr2, hg2⟩
  have b2 := below_grown hb1 (Nat.le_refl _) hg2 (by omega)
  clear hb1 hr1 hg2
  go_wp2_with fail
  refine (l6Wild_any b q ys z _ hr2 (by omega) (by omega)).mono ?_
  rintro e w3 ⟨y, q3, rfl, hy, hq3, hr3, hg3⟩
  have b3 := below_grown b2 (Nat.le_refl _) hg3 (by omega)
  clear b2 hr2 hg3
  go_wp2_with fail
  refine (pick_any b q3 12 ys _ hr3 (by omega) (by omega) (by omega)).mono ?_
  rintro e w4 ⟨k, hk, rfl, hr4, hg4⟩
  have b4 := below_grown b3 (Nat.le_refl _) hg4 (by omega)
  clear b3 hr3 hg4
  by_cases k0 : k = 0
  · subst k0
    go_wp2_with fail
    refine (num_any b (q3 + 1) ys _ w4.heap.size 2 [-1, 9223372036854775807] (hr4.alloc _) (IntsAt.new w4 _ [-1, 9223372036854775807]) rfl hr4.1 (by omega) (by omega) (by omega)).mono ?_
    rintro e w5 ⟨v, hv, rfl, hr5, hg5'⟩
    have hfv : FitsI v := by
      simp only [List.mem_cons, List.not_mem_nil, or_false] at hv
      rcases hv with rfl | rfl <;> (unfold FitsI; decide)
    have b5 := below_grown b4 (Nat.le_refl _) ((World.grownBy_alloc w4 (.cells #[.int .i64 (-1), .int .i64 9223372036854775807] 3) (some b)).trans hg5') (by omega)
    clear hv b4 hg5'
    go_wp2
    go_ret2
    exact ⟨y, v, rfl, hy, hfv, b5⟩
  · have e0 : ((k : Int) == 0) = false := by rw [beq_eq_false_iff_ne]; omega
    clear k0
    go_wp2_with fail
    refine (pick_any b (q3 + 1) 50 ys _ hr4 (by omega) (by omega) (by omega)).mono ?_
    rintro e w5 ⟨v, hv, rfl, hr5, hg5⟩
    have b5 := below_grown b4 (Nat.le_refl _) hg5 (by omega)
    clear b4 hg5
    go_wp2
    go_ret2
    exact ⟨y, _, rfl, hy, by unfold FitsI; omega, b5⟩
set_option maxHeartbeats 1600000 in
theorem drawParse_any (a : Option Addr) (len cap : Nat) (zs : List Int) (w : World) (h : IsBytes w a len cap zs) :
    Calls Tryd.prog 19 #[.slice a len cap] w (DrawBitsInt w) := by
  go_enter Tryd.func19, Tryd.ntmps19
  go_wp2_with fail
  refine (open_any a len cap zs _ h).mono ?_
  rintro e w1 ⟨b, ys, rfl, hr1, hb1, hlb⟩
  go_wp2_with fail
  refine (l6Stream_any b 0 ys _ hr1 (by omega)).mono ?_
  rintro e w2 ⟨z, q, rfl, ho, hz, hq, hr2, hg2⟩
  have b2 := below_grown hb1 (Nat.le_refl _) hg2 (by omega)
  clear hb1 hr1 hg2
  go_wp2_with fail
  refine (pick_any b q 40 ys _ hr2 (by omega) (by omega) (by omega)).mono ?_
  rintro e w3 ⟨k, hk, rfl, hr3, hg3⟩
  have b3 := below_grown b2 (Nat.le_refl _) hg3 (by omega)
  clear b2 hr2 hg3
  go_wp2_with fail
  refine (sFind_any z (k : Int) _ (by omega)).mono ?_
  rintro e w4 ⟨rfl, hb4⟩
  have b4 := below_then b3 (Nat.le_refl _) hb4
  have hr4 := hr3.below hb4
  have hF : -1 ≤ fndV z (k : Int) ∧ fndV z (k : Int) ≤ 170 := by
    unfold fndV; split
    · rename_i h; omega
    · omega
  obtain ⟨V, hV⟩ : ∃ V, fndV z (k : Int) = V := ⟨_, rfl⟩
  rw [hV] at hF ⊢
  clear hV b3 hr3 hb4
  obtain ⟨M, hM, hM1⟩ : ∃ M : Nat, max V 0 = (M : Int) ∧ M ≤ 170 := ⟨(max V 0).toNat, by omega, by omega⟩
  have hMv : (if V < 0 then (0 : Int) else V) = (M : Int) := by split <;> omega
  go_wp2_with fail
  refine (pick_any b (q + 1) 12 ys _ hr4 (by omega) (by omega) (by omega)).mono ?_
  rintro e w5 ⟨k5, hk5, rfl, hr5, hg5⟩
  have b5 := below_grown b4 (Nat.le_refl _) hg5 (by omega)
  clear b4 hr4 hg5 hM hMv
  by_cases k0 : k5 = 0
  · subst k0
    obtain ⟨S1, hS1⟩ : ∃ S1, z.size + 1 = S1 := ⟨_, rfl⟩
    have z1 : (z.size : Int) + 1 = (S1 : Int) := by omega
    go_wp2_with fail
    refine (num_any b (q + 1 + 1) ys _ w5.heap.size 4 [-1, (z.size : Int), (S1 : Int), 9223372036854775807] (hr5.alloc _) (IntsAt.new w5 _ [-1, (z.size : Int), (S1 : Int), 9223372036854775807]) rfl hr5.1 (by omega) (by omega) (by omega)).mono ?_
    rintro e w6 ⟨v, hv, rfl, hr6, hg6'⟩
    have hfv : FitsI v := by
      simp only [List.mem_cons, List.not_mem_nil, or_false] at hv
      unfold FitsI
      omega
    have b6 := below_grown b5 (Nat.le_refl _) ((World.grownBy_alloc w5 _ (some b)).trans hg6') (by omega)
    clear hv b5 hg6' hr5
    go_wp2_with fail
    refine (l6Wild_any b (q + 1 + 1 + 1) ys z _ hr6 (by omega) (by omega)).mono ?_
    rintro e w9 ⟨y, q9, rfl, hy, hq9, hr9, hg9⟩
    have b9 := below_grown b6 (Nat.le_refl _) hg9 (by omega)
    go_wp2
    go_ret2
    exact ⟨y, _, rfl, hy, hfv, b9⟩
  · have e0 : ((k5 : Int) == 0) = false := by rw [beq_eq_false_iff_ne]; omega
    by_cases k1 : k5 = 1
    · subst k1
      obtain ⟨S1, hS1⟩ : ∃ S1, z.size + 1 = S1 := ⟨_, rfl⟩
      have z1 : (z.size : Int) + 1 = (S1 : Int) := by omega
      clear k0
      go_wp2_with fail
      refine (pick_any b (q + 1 + 1) S1 ys _ hr5 (by omega) (by omega) (by omega)).mono ?_
      rintro e w6 ⟨v, hv, rfl, hr6, hg6⟩
      have b6 := below_grown b5 (Nat.le_refl _) hg6 (by omega)
      clear b5 hg6 hr5 z1
      go_wp2_with fail
      refine (l6Wild_any b (q + 1 + 1 + 1) ys z _ hr6 (by omega) (by omega)).mono ?_
      rintro e w9 ⟨y, q9, rfl, hy, hq9, hr9, hg9⟩
      have b9 := below_grown b6 (Nat.le_refl _) hg9 (by omega)
      go_wp2
      go_ret2
      exact ⟨y, _, rfl, hy, by unfold FitsI; omega, b9⟩
    · have e1 : ((k5 : Int) == 1) = false := by rw [beq_eq_false_iff_ne]; omega
      clear k0 k1
      go_wp2_with fail
      refine (l6Wild_any b (q + 1 + 1) ys z _ hr5 (by omega) (by omega)).mono ?_
      rintro e w9 ⟨y, q9, rfl, hy, hq9, hr9, hg9⟩
      have b9 := below_grown b5 (Nat.le_refl _) hg9 (by omega)
      go_wp2
      go_ret2
      exact ⟨y, _, rfl, hy, by unfold FitsI; omega, b9⟩
end Go.Proofs.YtdafepfjjmdkeaaDoor
