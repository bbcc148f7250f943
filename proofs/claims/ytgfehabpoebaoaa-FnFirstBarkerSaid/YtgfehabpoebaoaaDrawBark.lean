/- The draw of FirstBarker. -/
import Derived.Test.YtgfehabpoebaoaaDraw
namespace Go.Proofs.Ytgfehabpoebaoaa
open Go.RowKit
set_option linter.unusedVariables false
set_option maxRecDepth 100000
theorem drawFBark_any (a : Option Addr) (len cap : Nat) (zs : List Int) (w : World) (h : IsBytes w a len cap zs) :
    Calls Try.prog 16 #[.slice a len cap] w fun e w' => ∃ k : Int, e = .returned (.int .i64 k) ∧ -100 ≤ k ∧ k ≤ 100 ∧ Below w.heap.size w w' := by
  go_enter Try.func16, Try.ntmps16
  go_wp2_with fail
  refine (open_any a len cap zs _ h).mono ?_
  rintro e w1 ⟨b, ys, rfl, hr, hb, hlb⟩
  go_wp2_with fail
  refine (pick_any b 0 12 ys _ hr (by omega) (by omega) (by omega)).mono ?_
  rintro e w2 ⟨k, hk, rfl, r2, h2⟩
  by_cases k0 : k = 0
  · subst k0
    go_wp2_with fail
    refine (num_any b 1 ys _ w2.heap.size 4 [0, 14, -1, 12] (r2.alloc _) (IntsAt.new w2 _ [0, 14, -1, 12]) rfl r2.1 (by omega) (by omega) (by omega)).mono ?_
    rintro e w3 ⟨y, hy, rfl, r3, h3'⟩
    have hF : -100 ≤ y ∧ y ≤ 100 := by
      simp only [List.mem_cons, List.not_mem_nil, or_false] at hy
      omega
    have h3 := h2.trans ((World.grownBy_alloc w2 (.cells #[.int .i64 0, .int .i64 14, .int .i64 (-1), .int .i64 12] 3) (some b)).trans h3')
    have b3 := below_grown hb (Nat.le_refl _) h3 hlb
    clear hr r2 h2 h3' h3 hy hb
    go_wp2
    go_ret
    exact ⟨y, rfl, hF.1, hF.2, b3⟩
  · have t0 : ((k : Int) == 0) = false := by simp; omega
    go_wp2_with fail
    refine (pick_any b 1 11 ys _ r2 (by omega) (by omega) (by omega)).mono ?_
    rintro e w3 ⟨y, hy, rfl, r3, h3⟩
    have b3 := below_grown hb (Nat.le_refl _) (h2.trans h3) hlb
    clear hr r2 h2 h3 hb
    go_wp2
    go_ret
    exact ⟨_, rfl, by omega, by omega, b3⟩
end Go.Proofs.Ytgfehabpoebaoaa
