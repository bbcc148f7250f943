/- Contracts of the draws of linear hops and of hops of a register. -/
import Derived.Test.YtbllmgdnhjdphabDrawHop2
namespace Go.Proofs.Ytbllmgdnhjdphab
open Go.RowKit
set_option linter.unusedVariables false
set_option maxRecDepth 100000
theorem l7Count_any (b p : Nat) (zs : List Int) (w : World) (hr : RdAt w b p zs) (hp : p ≤ 800000) :
    Calls Try.prog 51 #[.pointer (some ⟨b, 0, none⟩)] w fun e w' => ∃ (K : Int) (q : Nat), e = .returned (.int .i64 K) ∧ FitsI K ∧ q ≤ p + 2 ∧ RdAt w' b q zs ∧ w.grownBy w' (some b) := by
  have hbl := hr.1
  go_enter Try.func51, Try.ntmps51
  go_wp2_with fail
  refine (pick_any b p 16 zs _ hr (by omega) (by omega) (by omega)).mono ?_
  rintro e w1 ⟨k, hk, rfl, hr1, hg1⟩
  clear hr
  by_cases k0 : k = 0
  · subst k0
    clear hk
    go_wp2_with fail
    refine (num_any b (p + 1) zs _ w1.heap.size 4 [-1, 300, 301, 9223372036854775807] (hr1.alloc _) (IntsAt.new w1 _ [-1, 300, 301, 9223372036854775807]) rfl hr1.1 (by omega) (by omega) (by omega)).mono ?_
    rintro e w2 ⟨y, hy, rfl, hr2, hg2⟩
    have hg2' := hg1.trans ((World.grownBy_alloc w1 _ (some b)).trans hg2)
    have hfy : FitsI y := by
      simp only [List.mem_cons, List.not_mem_nil, or_false] at hy
      unfold FitsI; omega
    clear hr1 hg1 hg2 hy
    go_wp2
    go_ret
    exact ⟨y, p + 1 + 1, rfl, hfy, by omega, hr2, hg2'⟩
  · have e0 : ((k : Int) == 0) = false := by simp; omega
    go_wp2_with fail
    clear e0
    refine (pick_any b (p + 1) 20 zs _ hr1 (by omega) (by omega) (by omega)).mono ?_
    rintro e w2 ⟨y, hy, rfl, hr2, hg2⟩
    have hg2' := hg1.trans hg2
    clear hr1 hg1 hg2
    go_wp2
    go_ret
    exact ⟨y, p + 1 + 1, rfl, FitsI.nat y (by omega), by omega, hr2, hg2'⟩
/-- Three numbers were drawn. -/
def DrawInts3 (w : World) (e : Ending) (w' : World) : Prop := ∃ (C U K : Int), e = .returned (.tuple #[.int .i64 C, .int .i64 U, .int .i64 K]) ∧ (-1 ≤ C ∧ C ≤ 301) ∧ FitsI U ∧ FitsI K ∧ Below w.heap.size w w'
theorem linNums_at {v : Int} (h : v ∈ ([5, 7, 3, 11, 13, 4, 6, 2, 1] : List Int)) : ∃ c : Nat, v = c ∧ 1 ≤ c ∧ c ≤ 16 := by
  simp only [List.mem_cons, List.not_mem_nil, or_false] at h
  exact ⟨v.toNat, by omega, by omega, by omega⟩
set_option maxHeartbeats 800000 in
theorem drawLinear_any (a : Option Addr) (len cap : Nat) (zs : List Int) (w : World) (h : IsBytes w a len cap zs) :
    Calls Try.prog 23 #[.slice a len cap] w (DrawInts3 w) := by
  go_enter Try.func23, Try.ntmps23
  go_wp2_with fail
  refine (open_any a len cap zs _ h).mono ?_
  rintro e w1 ⟨b, ys, rfl, hr, hb, hlb⟩
  have hbl := hr.1
  go_wp2_with fail
  refine (num_any b 0 ys _ w1.heap.size 9 [5, 7, 3, 11, 13, 4, 6, 2, 1] (hr.alloc _) (IntsAt.new w1 _ [5, 7, 3, 11, 13, 4, 6, 2, 1]) rfl hbl (by omega) (by omega) (by omega)).mono ?_
  rintro e w2 ⟨v, hv, rfl, hr2, hg2⟩
  obtain ⟨c, rfl, hc1, hc2⟩ := linNums_at hv
  have b2 := below_grown (hb.alloc hb.size (.cells #[.int .i64 5, .int .i64 7, .int .i64 3, .int .i64 11, .int .i64 13, .int .i64 4, .int .i64 6, .int .i64 2, .int .i64 1] 3)) (Nat.le_refl _) hg2 hlb
  clear hv hr hb hg2 hbl
  go_wp2_with fail
  refine (pick_any b (0 + 1) c ys _ hr2 (by omega) (by omega) (by omega)).mono ?_
  rintro e w3 ⟨u, hu, rfl, hr3, hg3⟩
  have b3 := below_grown b2 (Nat.le_refl _) hg3 hlb
  clear hr2 b2 hg3
  go_wp2_with fail
  refine (pick_any b (0 + 1 + 1) 16 ys _ hr3 (by omega) (by omega) (by omega)).mono ?_
  rintro e w4 ⟨k, hk, rfl, hr4, hg4⟩
  have b4 := below_grown b3 (Nat.le_refl _) hg4 hlb
  clear hr3 b3 hg4
  by_cases k0 : k = 0
  · subst k0
    clear hk
    have hb4 := hr4.1
    go_wp2_with fail
    refine (num_any b (0 + 1 + 1 + 1) ys _ w4.heap.size 3 [-1, (c : Int), 9223372036854775807] (hr4.alloc _) (IntsAt.new w4 _ [-1, (c : Int), 9223372036854775807]) rfl hb4 (by omega) (by omega) (by omega)).mono ?_
    rintro e w5 ⟨y, hy, rfl, hr5, hg5⟩
    have hfy : FitsI y := by
      simp only [List.mem_cons, List.not_mem_nil, or_false] at hy
      unfold FitsI; omega
    have b5 := below_grown (b4.alloc b4.size (.cells #[.int .i64 (-1), .int .i64 (c : Int), .int .i64 9223372036854775807] 3)) (Nat.le_refl _) hg5 hlb
    clear hr4 b4 hg5 hy hb4
    go_wp2_with fail
    refine (l7Number_any b (0 + 1 + 1 + 1 + 1) ys c _ hr5 (by omega) (by omega)).mono ?_
    rintro e w6 ⟨C, q6, rfl, C1, C2, hq6, hr6, hg6⟩
    have b6 := below_grown b5 (Nat.le_refl _) hg6 hlb
    clear hr5 b5 hg6
    go_wp2_with fail
    refine (l7Count_any b q6 ys _ hr6 (by omega)).mono ?_
    rintro e w7 ⟨K, q7, rfl, hK, hq7, hr7, hg7⟩
    have b7 := below_grown b6 (Nat.le_refl _) hg7 hlb
    clear hr6 b6 hg7
    go_wp2
    go_ret3
    exact ⟨C, y, K, rfl, ⟨C1, C2⟩, hfy, hK, b7⟩
  · have e0 : ((k : Int) == 0) = false := by simp; omega
    go_wp2_with fail
    clear e0
    refine (l7Number_any b (0 + 1 + 1 + 1) ys c _ hr4 (by omega) (by omega)).mono ?_
    rintro e w6 ⟨C, q6, rfl, C1, C2, hq6, hr6, hg6⟩
    have b6 := below_grown b4 (Nat.le_refl _) hg6 hlb
    clear hr4 b4 hg6
    go_wp2_with fail
    refine (l7Count_any b q6 ys _ hr6 (by omega)).mono ?_
    rintro e w7 ⟨K, q7, rfl, hK, hq7, hr7, hg7⟩
    have b7 := below_grown b6 (Nat.le_refl _) hg7 hlb
    clear hr6 b6 hg7
    go_wp2
    go_ret3
    exact ⟨C, u, K, rfl, ⟨C1, C2⟩, FitsI.nat u (by omega), hK, b7⟩
end Go.Proofs.Ytbllmgdnhjdphab
