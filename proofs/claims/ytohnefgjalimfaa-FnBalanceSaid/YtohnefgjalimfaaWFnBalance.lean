/- The walk of the law FnBalance. -/
import Derived.Test.YtohnefgjalimfaaDraw10
import Derived.Test.YtohnefgjalimfaaSeqYes
namespace Go.Proofs.Ytohnefgjalimfaa
open Go.RowKit
set_option linter.unusedVariables false
set_option maxHeartbeats 1600000 in
set_option maxRecDepth 100000 in
theorem fnBalance_walk (a0 : Option Addr) (len0 cap0 : Nat) (z0 : List Int) (w : World) (w0 : IsBytes w a0 len0 cap0 z0) :
    Calls Try.prog 11 #[.slice a0 len0 cap0] w fun e w' => e = .returned (.bool true) ∧ Below w.heap.size w w' := by
  by_cases hl0 : 1048576 < len0
  · go_enter Try.func11, Try.ntmps11
    go_wp2
    go_ret
    exact ⟨rfl, Below.refl _ _⟩
  go_enter Try.func11, Try.ntmps11
  go_wp2_with fail
  refine (drawCross_any a0 len0 cap0 z0 _ w0).mono ?_
  rintro e W1 ⟨a, b, k, rfl, ha, hb, hk, b1⟩
  clear w0
  cases hv : pairB a b with
  | false =>
    have HI := Lib.hid (fun w => iCross_no a b k w (by omega) (by omega) hv)
    have HS := Lib.hid (fun w => sCross_no a b k w (by omega) (by omega) hv)
    clear hv ha hb hk
    go_wp2_with fail
    refine (HI.out _).mono ?_
    rintro e w' ⟨rfl, hB⟩
    have c1 := below_then b1 (Nat.le_refl _) hB
    clear hB b1
    go_wp2_with fail
    refine (HS.out _).mono ?_
    rintro e w' ⟨rfl, hB⟩
    have c2 := below_then c1 (Nat.le_refl _) hB
    clear hB c1
    go_wp2
    go_ret
    exact ⟨rfl, c2⟩
  | true =>
    obtain ⟨ha1, hb1, hab⟩ := (pairB_iff a b).1 hv
    have h12 := size_le ha1
    have HI := Lib.hid (fun w => iCross_yes' a b k w hv)
    have HS := Lib.hid (fun w => sCross_yes a b k w hv)
    have hcb := crossN_bd a b (modN k b.size)
    have hcp := crossN_par a b (modN k b.size)
    have H1 := Lib.hid (fun w => ssShift_yes b k w hb1)
    have H2 := Lib.hid (fun w => iAdd_yes a (shift b k) w (pairB_mk ha1 (seqB_shift k hb1) (by rw [shift_size]; exact hab)))
    have H3 := Lib.hid (fun w => iBal_yes' (addS a (shift b k)) w (seqB_addS ha1))
    have H4 := Lib.hid (fun w => iBal_yes' a w ha1)
    have H5 := Lib.hid (fun w => sBal_yes a w ha1)
    have hbd := balN_bd (addS a (shift b k))
    rw [addS_size] at hbd
    rw [crossN_bal a b k hab] at HI HS hcb hcp
    obtain ⟨y1, hy1⟩ : ∃ y, shift b k = y := ⟨_, rfl⟩
    rw [hy1] at HI HS hcb hcp hbd H1 H2 H3
    obtain ⟨y2, hy2⟩ : ∃ y, addS a y1 = y := ⟨_, rfl⟩
    rw [hy2] at HI HS hcb hcp hbd H2 H3
    obtain ⟨n, hn⟩ : ∃ n, balN y2 = n := ⟨_, rfl⟩
    rw [hn] at HI HS hcb hcp hbd H3
    obtain ⟨n2, hn2⟩ : ∃ n, balN a = n := ⟨_, rfl⟩
    rw [hn2] at H4 H5
    obtain ⟨d1, d2⟩ := hbd
    have HP := Lib.hid hcp
    clear hy1 hy2 hn hn2 hv ha1 hb1 hab hcb hk hcp
    go_wp2_with fail
    refine (HI.out _).mono ?_
    rintro e w' ⟨rfl, hB⟩
    have c1 := below_then b1 (Nat.le_refl _) hB
    clear hB b1
    go_wp2_with fail
    refine (HS.out _).mono ?_
    rintro e w' ⟨rfl, hB⟩
    have c2 := below_then c1 (Nat.le_refl _) hB
    clear hB c1
    go_wp2_with fail
    refine (H1.out _).mono ?_
    rintro e w' ⟨rfl, hB⟩
    have c3 := below_then c2 (Nat.le_refl _) hB
    clear hB c2
    go_wp2_with fail
    refine (H2.out _).mono ?_
    rintro e w' ⟨rfl, hB⟩
    have c4 := below_then c3 (Nat.le_refl _) hB
    clear hB c3
    go_wp2_with fail
    refine (H3.out _).mono ?_
    rintro e w' ⟨rfl, hB⟩
    have c5 := below_then c4 (Nat.le_refl _) hB
    clear hB c4
    go_wp2_with fail
    refine (H4.out _).mono ?_
    rintro e w' ⟨rfl, hB⟩
    have c6 := below_then c5 (Nat.le_refl _) hB
    clear hB c5
    go_wp2_with fail
    refine (H5.out _).mono ?_
    rintro e w' ⟨rfl, hB⟩
    have c7 := below_then c6 (Nat.le_refl _) hB
    clear hB c6
    have hp := HP.out
    go_wp2
    go_ret
    exact ⟨rfl, c7⟩
end Go.Proofs.Ytohnefgjalimfaa
