/- The walk of the law FnAperiodic. -/
import Derived.Test.YtohnefgjalimfaaDraw10
import Derived.Test.YtohnefgjalimfaaSeqYes
import Derived.Test.YtohnefgjalimfaaSeqRev3
namespace Go.Proofs.Ytohnefgjalimfaa
open Go.RowKit
set_option linter.unusedVariables false
set_option maxHeartbeats 1600000 in
set_option maxRecDepth 100000 in
theorem fnAperiodic_walk (a0 : Option Addr) (len0 cap0 : Nat) (z0 : List Int) (w : World) (w0 : IsBytes w a0 len0 cap0 z0) :
    Calls Try.prog 13 #[.slice a0 len0 cap0] w fun e w' => e = .returned (.bool true) ∧ Below w.heap.size w w' := by
  by_cases hl0 : 1048576 < len0
  · go_enter Try.func13, Try.ntmps13
    go_wp2
    go_ret
    exact ⟨rfl, Below.refl _ _⟩
  go_enter Try.func13, Try.ntmps13
  go_wp2_with fail
  refine (drawAper_any a0 len0 cap0 z0 _ w0).mono ?_
  rintro e W1 ⟨z, k, rfl, hz, hk, b1⟩
  clear w0
  by_cases hv : seqB z = true ∧ 0 ≤ k ∧ k < z.size
  rotate_left
  · have hI := fun w => iAper_any z k w (by omega)
    have hS := fun w => sAper_any z k w (by omega)
    rw [aperAns_no hv] at hI hS
    have HI := Lib.hid hI
    have HS := Lib.hid hS
    clear hv hz hk hI hS
    go_wp2_with fail
    refine (HI.out _).mono ?_
    rintro e w' ⟨rfl, hB⟩
    have c1 := below_then b1 (Nat.le_refl _) hB
    clear hB b1
    go_wp2_with fail
    refine (HS.out _).mono ?_
    rintro e w' ⟨rfl, hB⟩
    have c2 := below_then c1 (Nat.le_refl _) hB
    clear hB c1
    go_wp2
    go_ret
    exact ⟨rfl, c2⟩
  · obtain ⟨hv, hk0, hk1⟩ := hv
    obtain ⟨q, rfl⟩ : ∃ q : Nat, k = q := ⟨k.toNat, by omega⟩
    have hq : q < z.size := by omega
    have h12 := size_le hv
    have HI := Lib.hid (fun w => iAper_yes z q w hv hq)
    have HS := Lib.hid (fun w => sAper_yes z q w hv hq)
    have hA := fun w => iAuto_any z (q : Int) w (by omega)
    have hmq : modN (q : Int) z.size = q := by rw [modN_of_nat]; exact Nat.mod_eq_of_lt hq
    unfold autoAns at hA
    rw [crossAns_yes _ (pairB_mk hv hv rfl), hmq, cross_aper z q hq] at hA
    have H1 := Lib.hid hA
    have H3 := Lib.hid (fun w => iRev_yes z w hv)
    have H4 := Lib.hid (fun w => iAper_yes (revS z) q w (seqB_revS hv) (by rw [revS_size]; exact hq))
    rw [aper_rev z q hq] at H4
    have hb1 := aper_bd z q
    have hb2 := aper_bd z (z.size - q)
    obtain ⟨x, hx⟩ : ∃ x, revS z = x := ⟨_, rfl⟩
    rw [hx] at H3 H4
    obtain ⟨n, hn⟩ : ∃ n, aperN z q = n := ⟨_, rfl⟩
    rw [hn] at HI HS H1 H4 hb1
    obtain ⟨d1, d2⟩ := hb1
    have d3 : n ≤ (z.size : Int) - (q : Int) := by omega
    have d4 : (q : Int) - (z.size : Int) ≤ n := by omega
    by_cases h0 : 0 < q
    · have H2 := Lib.hid (fun w => iAper_yes z (z.size - q) w hv (by omega))
      rw [show ((z.size - q : Nat) : Int) = (z.size : Int) - (q : Int) by omega] at H2
      rw [if_pos h0] at H1
      obtain ⟨r, hr⟩ : ∃ r, aperN z (z.size - q) = r := ⟨_, rfl⟩
      rw [hr] at H1 H2 hb2
      obtain ⟨e1, e2⟩ := hb2
      have e3 : -255 ≤ r := by omega
      have e4 : r ≤ 255 := by omega
      clear hv hk hx hn hr hmq hA d1 d2 e1 e2
      go_wp2_with fail
      refine (HI.out _).mono ?_
      rintro e w' ⟨rfl, hB⟩
      have c1 := below_then b1 (Nat.le_refl _) hB
      clear hB b1
      go_wp2_with fail
      refine (HS.out _).mono ?_
      rintro e w' ⟨rfl, hB⟩
      have c2 := below_then c1 (Nat.le_refl _) hB
      clear hB c1
      go_wp2_with fail
      refine (H1.out _).mono ?_
      rintro e w' ⟨rfl, hB⟩
      have c3 := below_then c2 (Nat.le_refl _) hB
      clear hB c2
      go_wp2_with fail
      refine (H2.out _).mono ?_
      rintro e w' ⟨rfl, hB⟩
      have c4 := below_then c3 (Nat.le_refl _) hB
      clear hB c3
      go_wp2_with fail
      refine (H3.out _).mono ?_
      rintro e w' ⟨rfl, hB⟩
      have c5 := below_then c4 (Nat.le_refl _) hB
      clear hB c4
      go_wp2_with fail
      refine (H4.out _).mono ?_
      rintro e w' ⟨rfl, hB⟩
      have c6 := below_then c5 (Nat.le_refl _) hB
      clear hB c5
      go_wp2
      go_ret
      exact ⟨rfl, c6⟩
    · rw [if_neg h0, Int.add_zero] at H1
      obtain rfl : q = 0 := by omega
      clear hv hk hx hn hmq hA hb2 d1 d2
      go_wp2_with fail
      refine (HI.out _).mono ?_
      rintro e w' ⟨rfl, hB⟩
      have c1 := below_then b1 (Nat.le_refl _) hB
      clear hB b1
      go_wp2_with fail
      refine (HS.out _).mono ?_
      rintro e w' ⟨rfl, hB⟩
      have c2 := below_then c1 (Nat.le_refl _) hB
      clear hB c1
      go_wp2_with fail
      refine (H1.out _).mono ?_
      rintro e w' ⟨rfl, hB⟩
      have c3 := below_then c2 (Nat.le_refl _) hB
      clear hB c2
      go_wp2_with fail
      refine (H3.out _).mono ?_
      rintro e w' ⟨rfl, hB⟩
      have c4 := below_then c3 (Nat.le_refl _) hB
      clear hB c3
      go_wp2_with fail
      refine (H4.out _).mono ?_
      rintro e w' ⟨rfl, hB⟩
      have c5 := below_then c4 (Nat.le_refl _) hB
      clear hB c4
      have d5 : decide (-(z.size : Int) ≤ n) = true := by rw [decide_eq_true_eq]; omega
      have D5 := Lib.hid d5
      clear d5
      go_wp2
      go_ret
      exact ⟨ret_bool D5.out, c5⟩
end Go.Proofs.Ytohnefgjalimfaa
