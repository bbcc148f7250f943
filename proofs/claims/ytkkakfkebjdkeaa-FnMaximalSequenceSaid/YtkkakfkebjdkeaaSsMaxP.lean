/- ssMaximal of the sizes 2 to 6; what the functions answer about maximal sequences. -/
import Derived.Test.YtkkakfkebjdkeaaMaxUse
import Derived.Test.YtkkakfkebjdkeaaMaxSeq
import Derived.Test.YtkkakfkebjdkeaaSsRun
import Derived.Test.YtkkakfkebjdkeaaSeqYes
namespace Go.Proofs.Ytkkakfkebjdkeaa
open Go.RowKit
set_option linter.unusedVariables false
set_option maxRecDepth 100000
theorem six_orbit : idx 6 3 1 63 (stepsN 6 3 63 1) = 1 ∧ ∀ m, m < 63 → idx 6 3 1 m (stepsN 6 3 m 1) = 0 := ⟨by decide +kernel, by decide +kernel⟩
theorem max_some (s : Nat) (h2 : 2 ≤ s) (h6 : s ≤ 6) : ∃ t, MaxP s t := by
  have of : ∀ t, RegN s t 1 → idx s t 1 (tw s - 1) (stepsN s t (tw s - 1) 1) = 1 → (∀ m, m < tw s - 1 → idx s t 1 m (stepsN s t m 1) = 0) → MaxP s t := by
    intro t hR h1 hm
    obtain ⟨L, P, e, hi, o⟩ := orb_of (by rw [h1]; omega) hm
    rw [h1] at hi
    obtain rfl : L = 0 := by omega
    rw [Nat.zero_add] at e
    exact ⟨hR, 0, e ▸ o⟩
  by_cases h5 : s ≤ 5
  · obtain ⟨-, a, b⟩ := tapOf_orbit s h2 h5
    exact ⟨tapOf s, of _ (tapOf_reg s h2 h5) a b⟩
  · obtain rfl : s = 6 := by omega
    exact ⟨3, of 3 ⟨by omega, by omega, by omega, by decide, by decide⟩ six_orbit.1 six_orbit.2⟩
set_option maxHeartbeats 1600000 in
theorem ssMaxP_any (s k : Nat) (w : World) (h2 : 2 ≤ s) (h6 : s ≤ 6) (hk : k ≤ 1048576) :
    Calls Try.prog 53 #[.int .i64 s, .int .i64 k] w fun e w' => ∃ t : Nat, e = .returned (.string (runS s t 1 (tw s - 1))) ∧ MaxP s t ∧ Below w.heap.size w w' := by
  obtain ⟨C, L, ⟨hC2, hL, hHas, -⟩, -, hT⟩ := tapsL s h2 (by omega)
  have HT := Lib.hid hT
  have hC1 : 1 ≤ C := by
    obtain ⟨t, ht⟩ := max_some s h2 h6
    obtain ⟨j, hj, -⟩ := hHas t ht
    omega
  obtain ⟨R, hR⟩ : ∃ R, k % C = R := ⟨_, rfl⟩
  have hRC : R < C := by rw [← hR]; exact Nat.mod_lt _ (by omega)
  have m1 : (k : Int).tmod (C : Int) = (R : Int) := by rw [Int.tmod_eq_emod_of_nonneg (by omega), ← hR, Int.natCast_emod]
  obtain ⟨t, ht, hP⟩ := hL R hRC
  have n0 : ¬ ((C : Int) = 0) := by omega
  have n1 : ((C : Int) == 0) = false := by rw [beq_eq_false_iff_ne]; omega
  have n2 : ¬ C = 0 := by omega
  have i0 : (0 : Int) ≤ (R : Int) := by omega
  have i1 : (R : Int) < (C : Int) := by omega
  have HTT := Lib.hid ht
  have HP := Lib.hid hP
  have htw := tw_le s (by omega)
  have htp := tw_pos s
  have HS := Lib.hid (fun w => ssRun_any s t 1 (tw s - 1) w hP.1 (by omega))
  have hs8 : (s : Int) ≤ 6 := by clear m1; omega
  obtain ⟨T, hTw⟩ : ∃ T, tw s = T := ⟨_, rfl⟩
  rw [hTw] at HS htw htp ⊢
  obtain ⟨M, hM⟩ : ∃ M, T - 1 = M := ⟨_, rfl⟩
  have hm1 : (T : Int) - 1 = (M : Int) := by clear m1; omega
  have hw2 : IntKind.i64.wrap (T : Int) = (T : Int) := IntWalk.i64_in _ (by clear m1 hm1; omega)
  rw [hM] at HS ⊢
  have hw := wrap_tw s (by clear m1 hm1 hw2; omega)
  rw [hTw] at hw
  clear hT hL hR ht hP hHas hTw hM
  go_enter Try.func53, Try.ntmps53
  go_wp2_with fail
  refine (HT.out _).mono ?_
  rintro e w1 ⟨v, rfl, O1, b1⟩
  obtain ⟨va, vc, rfl, hva⟩ := O1.form
  obtain ⟨g, rfl, -, -, -⟩ := hva hC1
  have c0 := (O1.at R hRC).1
  rw [HTT.out] at c0
  clear HT O1 hva
  go_wp2_with fail
  refine (HS.out _).mono ?_
  rintro e w2 ⟨rfl, b2⟩
  have b3 := below_then b1 (Nat.le_refl _) b2
  clear c0 b1 b2
  go_wp2
  go_ret
  exact ⟨t, rfl, HP.out, b3⟩
theorem betweenAns_shift {a b : ByteArray} {j : Nat} (hp : pairB a b = true) (h : shift a (j : Int) = b) : ∃ J : Nat, betweenAns a b = ((J : Int), true) := by
  obtain ⟨ha, -, -⟩ := (pairB_iff a b).1 hp
  have h1 := ((seqB_iff a).1 ha).2.1
  have := between_lt a b j (by omega) h
  refine ⟨betweenN a b, ?_⟩
  unfold betweenAns
  rw [hp, decide_eq_true this]; rfl
end Go.Proofs.Ytkkakfkebjdkeaa
