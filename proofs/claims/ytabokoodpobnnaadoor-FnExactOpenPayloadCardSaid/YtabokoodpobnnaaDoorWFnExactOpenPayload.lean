/- The walk of the law FnExactOpenPayload. -/
import Derived.Test.YtabokoodpobnnaaDoorOpnPay
namespace Go.Proofs.YtabokoodpobnnaaDoor
open Go.RowKit
set_option linter.unusedVariables false
set_option maxHeartbeats 1600000 in
set_option maxRecDepth 100000 in
theorem fnExactOpenPayload_walk (z : ByteArray) (n S T X : Int) (w : World) (hz : z.size ≤ maxLen) (_ : (Lit.int .i64 n).wf = true) (_ : (Lit.int .i64 S).wf = true) (_ : (Lit.int .i64 T).wf = true) (_ : (Lit.int .i64 X).wf = true) (hp : PlacesAt w) (h0 : 0 < w.heap.size) :
    Calls Tryd.prog 4 #[.string z, .int .i64 n, .agg #[.int .i64 S, .int .i64 T, .int .i64 X]] w fun e w' => e = .returned (.bool true) ∧ Below w.heap.size w w' := by
  unfold maxLen at hz
  have r0 := RegAt.new w 23 S T X
  have b0 : Below w.heap.size w (w.alloc (.cells #[.int .i64 S, .int .i64 T, .int .i64 X] 23)) := (Below.refl _ _).alloc (Nat.le_refl _) _
  by_cases hl : 1048576 < z.size
  · go_enter Tryd.func4, Tryd.ntmps4
    go_wp2
    go_ret
    exact ⟨rfl, b0⟩
  · have hs := fun w => sOpn_any z n S T X w (by omega)
    have hi := fun w1 (b1 : Below w.heap.size w w1) => iOpn_any z n S T X w1 (by omega) (PlacesAt.below hp h0 b1) (Nat.lt_of_lt_of_le h0 b1.size)
    obtain ⟨R, hR⟩ : ∃ R, opAns z n S T X = R := ⟨_, rfl⟩
    simp only [hR] at hs hi
    obtain ⟨Z, ok⟩ := R
    clear hR hp h0
    have HS := Lib.hid hs
    have HI := Lib.hid hi
    obtain ⟨c0, c1, c2, cl⟩ := id r0
    clear hs hi
    go_enter Tryd.func4, Tryd.ntmps4
    go_wp2_with fail
    refine (toRegister_any S T X _).mono ?_
    rintro e w1 ⟨rfl, hb1⟩
    have r1 := r0.below hb1 (by simp)
    have b1 := below_then b0 (Nat.le_refl _) hb1
    clear hb1 b0 r0 c0 c1 c2 cl
    go_wp2_with fail
    refine (HS.out _).mono ?_
    rintro e w2 ⟨rfl, hb2⟩
    have r2 := r1.below hb2 r1.2.2.2
    have b2 := below_then b1 (Nat.le_refl _) hb2
    clear hb2 r1 b1
    obtain ⟨c0, c1, c2, cl⟩ := id r2
    go_wp2_with fail
    clear c0 c1 c2 cl
    refine (toRegister_any S T X _).mono ?_
    rintro e w3 ⟨rfl, hb3⟩
    have b3 := below_then b2 (Nat.le_refl _) hb3
    clear hb3 b2 r2
    go_wp2_with fail
    refine (HI.out _ b3).mono ?_
    rintro e w4 ⟨rfl, hb4⟩
    have b4 := below_then b3 (Nat.le_refl _) hb4
    clear hb4 b3 HS HI
    cases ok
    all_goals
      go_wp2
      go_ret
      exact ⟨rfl, b4⟩
end Go.Proofs.YtabokoodpobnnaaDoor
