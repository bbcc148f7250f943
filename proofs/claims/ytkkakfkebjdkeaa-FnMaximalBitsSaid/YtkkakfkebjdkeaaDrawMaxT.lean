/- The draw of MaximalTaps. -/
import Derived.Test.YtkkakfkebjdkeaaDraw2
namespace Go.Proofs.Ytkkakfkebjdkeaa
open Go.RowKit
set_option linter.unusedVariables false
set_option maxRecDepth 100000
def IntPost (w : World) (e : Ending) (w' : World) : Prop := ∃ S : Int, e = .returned (.int .i64 S) ∧ FitsI S ∧ Below w.heap.size w w'
set_option maxHeartbeats 1600000 in
theorem drawMaxT_any (a : Option Addr) (len cap : Nat) (zs : List Int) (w : World) (h : IsBytes w a len cap zs) :
    Calls Try.prog 44 #[.slice a len cap] w (IntPost w) := by
  go_enter Try.func44, Try.ntmps44
  go_wp2_with fail
  refine (open_any a len cap zs _ h).mono ?_
  rintro e w1 ⟨b, ys, rfl, hr, hb, hlb⟩
  clear h
  go_wp2_with fail
  refine (pick_any b 0 10 ys _ hr (by omega) (by omega) (by omega)).mono ?_
  rintro e w2 ⟨k, hk, rfl, hr1, hg1⟩
  clear hr
  by_cases k0 : k = 0
  · subst k0
    clear hk
    go_wp2_with fail
    refine (num_any b (0 + 1) ys _ w2.heap.size 4 [1, 9, -1, 9223372036854775807] (hr1.alloc _) (IntsAt.new w2 _ [1, 9, -1, 9223372036854775807]) rfl hr1.1 (by omega) (by omega) (by omega)).mono ?_
    rintro e w3 ⟨v, hv, rfl, hr2, hg2⟩
    have fV : FitsI v := by simp only [List.mem_cons, List.not_mem_nil, or_false] at hv; unfold FitsI; omega
    have b3 := below_grown hb (Nat.le_refl _) ((hg1.trans (World.grownBy_alloc w2 _ (some b))).trans hg2) hlb
    clear hr1 hg1 hr2 hg2 hb hv
    go_wp2
    go_ret
    exact ⟨v, rfl, fV, b3⟩
  · have k1 : ((k : Int) == 0) = false := by rw [beq_eq_false_iff_ne]; omega
    clear hk k0
    go_wp2_with fail
    refine (num_any b (0 + 1) ys _ w2.heap.size 7 [2, 3, 4, 5, 6, 7, 8] (hr1.alloc _) (IntsAt.new w2 _ [2, 3, 4, 5, 6, 7, 8]) rfl hr1.1 (by omega) (by omega) (by omega)).mono ?_
    rintro e w3 ⟨v, hv, rfl, hr2, hg2⟩
    have fV : FitsI v := by simp only [List.mem_cons, List.not_mem_nil, or_false] at hv; unfold FitsI; omega
    have b3 := below_grown hb (Nat.le_refl _) ((hg1.trans (World.grownBy_alloc w2 _ (some b))).trans hg2) hlb
    clear hr1 hg1 hr2 hg2 hb hv
    go_wp2
    go_ret
    exact ⟨v, rfl, fV, b3⟩
end Go.Proofs.Ytkkakfkebjdkeaa
