/- ssMaximal of the small sizes. -/
import Derived.Test.YtagdfohjhokgiaaMaxSmall
import Derived.Test.YtagdfohjhokgiaaSsRun
import Derived.Test.YtagdfohjhokgiaaIntsBig
namespace Go.Proofs.Ytagdfohjhokgiaa
open Go.RowKit
set_option linter.unusedVariables false
set_option maxRecDepth 100000
set_option maxHeartbeats 1600000 in
theorem ssMax_any (s k : Nat) (w : World) (h2 : 2 ≤ s) (h5 : s ≤ 5) (hk : k ≤ 1048576) :
    Calls Try.prog 20 #[.int .i64 s, .int .i64 k] w fun e w' => ∃ t : Nat, e = .returned (.string (runS s t 1 (tw s - 1))) ∧ RegN s t 1 ∧ goodB s t = true ∧ Below w.heap.size w w' := by
  obtain ⟨C, L, hC1, hC2, hL, hT⟩ := iTaps_small s h2 h5
  have HT := Lib.hid hT
  obtain ⟨R, hR⟩ : ∃ R, k % C = R := ⟨_, rfl⟩
  have hRC : R < C := by rw [← hR]; exact Nat.mod_lt _ (by omega)
  have m1 : (k : Int).tmod (C : Int) = (R : Int) := by rw [Int.tmod_eq_emod_of_nonneg (by omega), ← hR, Int.natCast_emod]
  obtain ⟨t, ht, hr, hg⟩ := hL R hRC
  have n0 : ¬ ((C : Int) = 0) := by omega
  have n1 : ((C : Int) == 0) = false := by simp; omega
  have n2 : ¬ C = 0 := by omega
  have i0 : (0 : Int) ≤ (R : Int) := by omega
  have i1 : (R : Int) < (C : Int) := by omega
  have HTT := Lib.hid ht
  have HG := Lib.hid hg
  have HR := Lib.hid hr
  clear hT hL hR ht hg
  have HS := Lib.hid (fun n w h => ssRun_any s t 1 n w hr h)
  clear hr
  go_enter Try.func20, Try.ntmps20
  go_wp2_with fail
  refine (HT.out _).mono ?_
  rintro e w1 ⟨v, rfl, O1, b1⟩
  obtain ⟨va, vc, rfl, -⟩ := O1.form
  obtain ⟨a9, c9, e9, hc9⟩ := O1.ints
  injection e9 with e91 e92 e93
  subst e91 e93
  obtain ⟨x, rfl, -, c0⟩ := hc9 R hRC
  rw [HTT.out] at c0
  clear HT O1 hc9
  have hs : s = 2 ∨ s = 3 ∨ s = 4 ∨ s = 5 := by omega
  clear h2 h5
  rcases hs with rfl | rfl | rfl | rfl
  all_goals
    go_wp2_with fail
    refine (HS.out _ _ (by decide)).mono ?_
    rintro e w2 ⟨rfl, b2⟩
    have b3 := below_then b1 (Nat.le_refl _) b2
    clear c0 b1 b2
    go_wp2
    go_ret
    exact ⟨t, rfl, HR.out, HG.out, b3⟩
end Go.Proofs.Ytagdfohjhokgiaa
