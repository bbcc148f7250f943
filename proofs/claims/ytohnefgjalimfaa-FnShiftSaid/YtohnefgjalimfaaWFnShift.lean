/- The walk of the law FnShift. -/
import Derived.Test.YtohnefgjalimfaaDraw10
import Derived.Test.YtohnefgjalimfaaSeqYes
namespace Go.Proofs.Ytohnefgjalimfaa
open Go.RowKit
set_option linter.unusedVariables false
set_option maxHeartbeats 1600000 in
set_option maxRecDepth 100000 in
theorem fnShift_walk (a0 : Option Addr) (len0 cap0 : Nat) (z0 : List Int) (a1 : Option Addr) (len1 cap1 : Nat) (z1 : List Int) (w : World) (w0 : IsBytes w a0 len0 cap0 z0) (w1 : IsBytes w a1 len1 cap1 z1) :
    Calls Try.prog 8 #[.slice a0 len0 cap0, .slice a1 len1 cap1] w fun e w' => e = .returned (.bool true) ∧ Below w.heap.size w w' := by
  by_cases hl0 : 1048576 < len0
  · go_enter Try.func8, Try.ntmps8
    go_wp2
    go_ret
    exact ⟨rfl, Below.refl _ _⟩
  by_cases hl1 : 1048576 < len1
  · go_enter Try.func8, Try.ntmps8
    go_wp2
    go_ret
    exact ⟨rfl, Below.refl _ _⟩
  clear w1
  go_enter Try.func8, Try.ntmps8
  go_wp2_with fail
  refine (drawShift_any a0 len0 cap0 z0 _ w0).mono ?_
  rintro e W1 ⟨z, k, rfl, hz, hk, b1⟩
  clear w0
  cases hv : seqB z with
  | false =>
    have HI := Lib.hid (fun w => iShift_no z k w (by omega) hv)
    have HS := Lib.hid (fun w => sShift_no z k w (by omega) hv)
    have HV := Lib.hid (fun w => iSequenceValid_no z w (by omega) hv)
    clear hv hz hk
    go_wp2_with fail
    refine (HI.out _).mono ?_
    rintro e w' ⟨rfl, hB⟩
    have c1 := below_then b1 (Nat.le_refl _) hB
    clear hB b1
    go_wp2_with fail
    refine (HS.out _).mono ?_
    rintro e w' ⟨rfl, hB⟩
    have c2 := below_then c1 (Nat.le_refl _) hB
    clear hB c1
    go_wp2_with fail
    refine (HV.out _).mono ?_
    rintro e w' ⟨rfl, rfl⟩
    go_wp2_with fail
    refine (HV.out _).mono ?_
    rintro e w' ⟨rfl, rfl⟩
    go_wp2
    go_ret
    exact ⟨rfl, c2⟩
  | true =>
    have h12 := size_le hv
    have HI := Lib.hid (fun w => iShift_yes z k w hv)
    have HS := Lib.hid (fun w => sShift_yes z k w hv)
    have HV := Lib.hid (fun w => iSequenceValid_yes z w hv)
    obtain ⟨n', hn'⟩ : ∃ n', k.tmod z.size = n' := ⟨_, rfl⟩
    have hnb := tmod_bd k z.size (by omega)
    rw [hn'] at hnb
    obtain ⟨hn1, hn2⟩ := hnb
    obtain ⟨m', hm'⟩ : ∃ m' : Nat, len1 % 300 = m' := ⟨_, rfl⟩
    have hmm : (len1 : Int) % 300 = (m' : Int) := by omega
    have hm1 : m' < 300 := by omega
    have HA := Lib.hid (fun w => ssShift_yes (shift z k) (m' : Int) w (seqB_shift k hv))
    have HB := Lib.hid (fun w => ssShift_yes z (n' + (m' : Int)) w hv)
    have HC := Lib.hid (fun w => ssShift_yes (shift z k) (-n') w (seqB_shift k hv))
    have HD := Lib.hid (fun w => ssShift_yes z (z.size : Int) w hv)
    rw [← hn', shift_tmod z k _ (by omega)] at HB
    rw [← hn', shift_back z k (by omega)] at HC
    rw [hn'] at HB HC
    rw [shift_full z (by omega)] at HD
    have hxs := shift_size z k
    obtain ⟨x, hx⟩ : ∃ x, shift z k = x := ⟨_, rfl⟩
    rw [hx] at HI HS HA HB HC hxs
    obtain ⟨y, hy⟩ : ∃ y, shift x (m' : Int) = y := ⟨_, rfl⟩
    rw [hy] at HA HB
    clear hx hy hv hm' hk
    go_wp2_with fail
    refine (HI.out _).mono ?_
    rintro e w' ⟨rfl, hB⟩
    have c1 := below_then b1 (Nat.le_refl _) hB
    clear hB b1
    go_wp2_with fail
    refine (HS.out _).mono ?_
    rintro e w' ⟨rfl, hB⟩
    have c2 := below_then c1 (Nat.le_refl _) hB
    clear hB c1
    go_wp2_with fail
    refine (HV.out _).mono ?_
    rintro e w' ⟨rfl, rfl⟩
    go_wp2_with fail
    refine (HA.out _).mono ?_
    rintro e w' ⟨rfl, hB⟩
    have c4 := below_then c2 (Nat.le_refl _) hB
    clear hB c2
    go_wp2_with fail
    refine (HB.out _).mono ?_
    rintro e w' ⟨rfl, hB⟩
    have c5 := below_then c4 (Nat.le_refl _) hB
    clear hB c4
    go_wp2_with fail
    refine (HC.out _).mono ?_
    rintro e w' ⟨rfl, hB⟩
    have c6 := below_then c5 (Nat.le_refl _) hB
    clear hB c5
    go_wp2_with fail
    refine (HD.out _).mono ?_
    rintro e w' ⟨rfl, hB⟩
    have c7 := below_then c6 (Nat.le_refl _) hB
    clear hB c6
    go_wp2
    go_ret
    exact ⟨rfl, c7⟩
end Go.Proofs.Ytohnefgjalimfaa
