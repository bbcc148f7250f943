/- The walk of the law FnAddBits. -/
import Derived.Test.YtohnefgjalimfaaDraw10
import Derived.Test.YtohnefgjalimfaaSeqYes
namespace Go.Proofs.Ytohnefgjalimfaa
open Go.RowKit
set_option linter.unusedVariables false
set_option maxHeartbeats 1600000 in
set_option maxRecDepth 100000 in
theorem fnAddBits_walk (a0 : Option Addr) (len0 cap0 : Nat) (z0 : List Int) (a1 : Option Addr) (len1 cap1 : Nat) (z1 : List Int) (w : World) (w0 : IsBytes w a0 len0 cap0 z0) (w1 : IsBytes w a1 len1 cap1 z1) :
    Calls Try.prog 9 #[.slice a0 len0 cap0, .slice a1 len1 cap1] w fun e w' => e = .returned (.bool true) ∧ Below w.heap.size w w' := by
  by_cases hl0 : 1048576 < len0
  · go_enter Try.func9, Try.ntmps9
    go_wp2
    go_ret
    exact ⟨rfl, Below.refl _ _⟩
  by_cases hl1 : 1048576 < len1
  · go_enter Try.func9, Try.ntmps9
    go_wp2
    go_ret
    exact ⟨rfl, Below.refl _ _⟩
  clear w1
  go_enter Try.func9, Try.ntmps9
  go_wp2_with fail
  refine (drawAdd_any a0 len0 cap0 z0 _ w0).mono ?_
  rintro e W1 ⟨a, b, rfl, ha, hb, b1⟩
  clear w0
  cases hv : pairB a b with
  | false =>
    have HI := Lib.hid (fun w => iAdd_no a b w (by omega) (by omega) hv)
    have HS := Lib.hid (fun w => sAdd_no a b w (by omega) (by omega) hv)
    clear hv ha hb
    go_wp2_with fail
    refine (HI.out _).mono ?_
    rintro e w' ⟨rfl, hB⟩
    have c1 := below_then b1 (Nat.le_refl _) hB
    clear hB b1
    go_wp2_with fail
    refine (HS.out _).mono ?_
    rintro e w' ⟨rfl, hB⟩
    have c2 := below_then c1 (Nat.le_refl _) hB
    clear hB c1
    go_wp2
    go_ret
    exact ⟨rfl, c2⟩
  | true =>
    obtain ⟨ha1, hb1, hab⟩ := (pairB_iff a b).1 hv
    have oa := ((seqB_iff a).1 ha1).1
    have ob := ((seqB_iff b).1 hb1).1
    have h12 := size_le ha1
    obtain ⟨m', hm'⟩ : ∃ m' : Nat, len1 % 50 = m' := ⟨_, rfl⟩
    have hmm : (len1 : Int) % 50 = (m' : Int) := by omega
    have hm1 : m' < 50 := by omega
    have HI := Lib.hid (fun w => iAdd_yes a b w hv)
    have HS := Lib.hid (fun w => sAdd_yes a b w hv)
    have H1 := Lib.hid (fun w => iAdd_yes (addS a b) b w (pairB_mk (seqB_addS ha1) hb1 (by rw [addS_size]; exact hab)))
    rw [addS_back a b oa ob hab] at H1
    have H2 := Lib.hid (fun w => iAdd_yes b a w (pairB_mk hb1 ha1 hab.symm))
    rw [addS_comm a b hab] at H2
    have H3 := Lib.hid (fun w => ssShift_yes a (m' : Int) w ha1)
    have H4 := Lib.hid (fun w => ssShift_yes b (m' : Int) w hb1)
    have H5 := Lib.hid (fun w => iAdd_yes (shift a (m' : Int)) (shift b (m' : Int)) w (pairB_mk (seqB_shift _ ha1) (seqB_shift _ hb1) (by rw [shift_size, shift_size]; exact hab)))
    rw [addS_shift a b _ hab] at H5
    have H6 := Lib.hid (fun w => iInvert_yes a w ha1)
    have H7 := Lib.hid (fun w => iAdd_yes (invS a) b w (pairB_mk (seqB_invS ha1) hb1 (by rw [invS_size]; exact hab)))
    rw [addS_invS a b oa ob hab] at H7
    have H8 := Lib.hid (fun w => sInvert_yes a w ha1)
    have H9 := Lib.hid (fun w => iInvert_yes (addS a b) w (seqB_addS ha1))
    have H10 := Lib.hid (fun w => ssShift_yes (addS a b) (m' : Int) w (seqB_addS ha1))
    obtain ⟨x, hx⟩ : ∃ x, addS a b = x := ⟨_, rfl⟩
    rw [hx] at HI HS H1 H2 H5 H7 H9 H10
    obtain ⟨y1, hy1⟩ : ∃ y, shift a (m' : Int) = y := ⟨_, rfl⟩
    obtain ⟨y2, hy2⟩ : ∃ y, shift b (m' : Int) = y := ⟨_, rfl⟩
    obtain ⟨y3, hy3⟩ : ∃ y, shift x (m' : Int) = y := ⟨_, rfl⟩
    obtain ⟨y4, hy4⟩ : ∃ y, invS a = y := ⟨_, rfl⟩
    obtain ⟨y5, hy5⟩ : ∃ y, invS x = y := ⟨_, rfl⟩
    rw [hy1] at H3 H5
    rw [hy2] at H4 H5
    rw [hy3] at H5 H10
    rw [hy4] at H6 H7 H8
    rw [hy5] at H7 H9
    clear hx hy1 hy2 hy3 hy4 hy5 hv hm' ha1 hb1 oa ob hab
    go_wp2_with fail
    refine (HI.out _).mono ?_
    rintro e w' ⟨rfl, hB⟩
    have c1 := below_then b1 (Nat.le_refl _) hB
    clear hB b1
    go_wp2_with fail
    refine (HS.out _).mono ?_
    rintro e w' ⟨rfl, hB⟩
    have c2 := below_then c1 (Nat.le_refl _) hB
    clear hB c1
    go_wp2_with fail
    refine (H1.out _).mono ?_
    rintro e w' ⟨rfl, hB⟩
    have c3 := below_then c2 (Nat.le_refl _) hB
    clear hB c2
    go_wp2_with fail
    refine (H2.out _).mono ?_
    rintro e w' ⟨rfl, hB⟩
    have c4 := below_then c3 (Nat.le_refl _) hB
    clear hB c3
    go_wp2_with fail
    refine (H3.out _).mono ?_
    rintro e w' ⟨rfl, hB⟩
    have c5 := below_then c4 (Nat.le_refl _) hB
    clear hB c4
    go_wp2_with fail
    refine (H4.out _).mono ?_
    rintro e w' ⟨rfl, hB⟩
    have c6 := below_then c5 (Nat.le_refl _) hB
    clear hB c5
    go_wp2_with fail
    refine (H5.out _).mono ?_
    rintro e w' ⟨rfl, hB⟩
    have c7 := below_then c6 (Nat.le_refl _) hB
    clear hB c6
    go_wp2_with fail
    refine (H6.out _).mono ?_
    rintro e w' ⟨rfl, hB⟩
    have c8 := below_then c7 (Nat.le_refl _) hB
    clear hB c7
    go_wp2_with fail
    refine (H7.out _).mono ?_
    rintro e w' ⟨rfl, hB⟩
    have c9 := below_then c8 (Nat.le_refl _) hB
    clear hB c8
    go_wp2_with fail
    refine (H8.out _).mono ?_
    rintro e w' ⟨rfl, hB⟩
    have c10 := below_then c9 (Nat.le_refl _) hB
    clear hB c9
    go_wp2_with fail
    refine (H9.out _).mono ?_
    rintro e w' ⟨rfl, hB⟩
    have c11 := below_then c10 (Nat.le_refl _) hB
    clear hB c10
    go_wp2_with fail
    refine (H10.out _).mono ?_
    rintro e w' ⟨rfl, hB⟩
    have c12 := below_then c11 (Nat.le_refl _) hB
    clear hB c11
    go_wp2
    go_ret
    exact ⟨rfl, c12⟩
end Go.Proofs.Ytohnefgjalimfaa
