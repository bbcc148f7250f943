/- The walk of the law FnFirstBarker. -/
import Derived.Test.YtgfehabpoebaoaaDrawBark
import Derived.Test.YtgfehabpoebaoaaBarkNum
namespace Go.Proofs.Ytgfehabpoebaoaa
open Go.RowKit
set_option linter.unusedVariables false
set_option maxHeartbeats 6400000 in
set_option maxRecDepth 100000 in
theorem fnFirstBarker_walk (a0 : Option Addr) (len0 cap0 : Nat) (z0 : List Int) (w : World) (w0 : IsBytes w a0 len0 cap0 z0) :
    Calls Try.prog 4 #[.slice a0 len0 cap0] w fun e w' => e = .returned (.bool true) ∧ Below w.heap.size w w' := by
  by_cases hl0 : 1048576 < len0
  · go_enter Try.func4, Try.ntmps4
    go_wp2
    go_ret
    exact ⟨rfl, Below.refl _ _⟩
  go_enter Try.func4, Try.ntmps4
  go_wp2_with fail
  refine (drawFBark_any a0 len0 cap0 z0 _ w0).mono ?_
  rintro e W1 ⟨k, rfl, k0, k1, bc⟩
  clear w0
  have hi := fun w => iFirstBark_any k w
  have hs := fun w => sFirstBark_any k w
  by_cases hk : 1 ≤ k ∧ k ≤ 13
  · skip
    obtain ⟨c, rfl⟩ : ∃ c : Nat, k = (c : Int) := ⟨k.toNat, by omega⟩
    have hc : (c = 6 ∨ c = 8 ∨ c = 9 ∨ c = 10 ∨ c = 12) ∨ (c = 1 ∨ c = 2 ∨ c = 3 ∨ c = 4 ∨ c = 5 ∨ c = 7 ∨ c = 11 ∨ c = 13) := by omega
    rcases hc with hc | hc
    · skip
      rw [bark_no c hc] at hi hs
      have HI := Lib.hid hi
      have HS := Lib.hid hs
      clear hi hs
      clear hk k0 k1
      rcases hc with rfl | rfl | rfl | rfl | rfl
      all_goals
        go_wp2_with fail
        refine (HI.out _).mono ?_
        rintro e w301 ⟨rfl, hb302⟩
        have b303 := below_then bc (Nat.le_refl _) hb302
        clear bc
        have bc := b303
        clear b303 hb302
        go_wp2_with fail
        refine (HS.out _).mono ?_
        rintro e w304 ⟨rfl, hb305⟩
        have b306 := below_then bc (Nat.le_refl _) hb305
        clear bc
        have bc := b306
        clear b306 hb305
        go_wp2
        go_ret
        exact ⟨rfl, bc⟩
    · skip
      obtain ⟨z, h1, h2, h3, h4⟩ := bark_yes c hc
      rw [h1] at hi hs
      have hb := fun w => iBark_any z w (by omega)
      rw [h3] at hb
      have HI := Lib.hid hi
      have HS := Lib.hid hs
      have HB := Lib.hid hb
      clear hi hs hb
      clear hk k0 k1 h1 h3
      rcases hc with rfl | rfl | rfl | rfl | rfl | rfl | rfl | rfl
      all_goals
        have hz0 : 0 < z.size := by omega
        have hzb : (z[0]).toNat = 48 := by rw [zb_at z 0 hz0, h4]
        clear h4
        go_wp2_with fail
        refine (HI.out _).mono ?_
        rintro e w507 ⟨rfl, hb508⟩
        have b509 := below_then bc (Nat.le_refl _) hb508
        clear bc
        have bc := b509
        clear b509 hb508
        go_wp2_with fail
        refine (HS.out _).mono ?_
        rintro e w510 ⟨rfl, hb511⟩
        have b512 := below_then bc (Nat.le_refl _) hb511
        clear bc
        have bc := b512
        clear b512 hb511
        go_wp2_with fail
        refine (HB.out _).mono ?_
        rintro e w513 ⟨rfl, hb514⟩
        have b515 := below_then bc (Nat.le_refl _) hb514
        clear bc
        have bc := b515
        clear b515 hb514
        go_wp2
        go_ret
        exact ⟨rfl, bc⟩
  · skip
    rw [firstBark_no hk] at hi hs
    have HI := Lib.hid hi
    have HS := Lib.hid hs
    clear hi hs
    have hk2 : k < 1 ∨ (¬ k < 1 ∧ 13 < k) := by omega
    clear hk
    go_wp2_with fail
    refine (HI.out _).mono ?_
    rintro e w616 ⟨rfl, hb617⟩
    have b618 := below_then bc (Nat.le_refl _) hb617
    clear bc
    have bc := b618
    clear b618 hb617
    go_wp2_with fail
    refine (HS.out _).mono ?_
    rintro e w619 ⟨rfl, hb620⟩
    have b621 := below_then bc (Nat.le_refl _) hb620
    clear bc
    have bc := b621
    clear b621 hb620
    rcases hk2 with x1 | ⟨x1, x2⟩
    all_goals
      go_wp2
      go_ret
      exact ⟨rfl, bc⟩
end Go.Proofs.Ytgfehabpoebaoaa
