/- The walk of the law FnCrossTurned. -/
import Derived.Test.YtohnefgjalimfaaDraw10
import Derived.Test.YtohnefgjalimfaaSeqYes
namespace Go.Proofs.Ytohnefgjalimfaa
open Go.RowKit
set_option linter.unusedVariables false
set_option maxHeartbeats 1600000 in
set_option maxRecDepth 100000 in
theorem fnCrossTurned_walk (a0 : Option Addr) (len0 cap0 : Nat) (z0 : List Int) (a1 : Option Addr) (len1 cap1 : Nat) (z1 : List Int) (w : World) (w0 : IsBytes w a0 len0 cap0 z0) (w1 : IsBytes w a1 len1 cap1 z1) :
    Calls Try.prog 12 #[.slice a0 len0 cap0, .slice a1 len1 cap1] w fun e w' => e = .returned (.bool true) ∧ Below w.heap.size w w' := by
  by_cases hl0 : 1048576 < len0
  · go_enter Try.func12, Try.ntmps12
    go_wp2
    go_ret
    exact ⟨rfl, Below.refl _ _⟩
  by_cases hl1 : 1048576 < len1
  · go_enter Try.func12, Try.ntmps12
    go_wp2
    go_ret
    exact ⟨rfl, Below.refl _ _⟩
  clear w1
  go_enter Try.func12, Try.ntmps12
  go_wp2_with fail
  refine (drawCross_any a0 len0 cap0 z0 _ w0).mono ?_
  rintro e W1 ⟨a, b, k, rfl, ha, hb, hk, b1⟩
  clear w0
  cases hv : pairB a b with
  | false =>
    have HI := Lib.hid (fun w => iCross_no a b k w (by omega) (by omega) hv)
    have HS := Lib.hid (fun w => sCross_no a b k w (by omega) (by omega) hv)
    clear hv ha hb hk
    go_wp2_with fail
    refine (HI.out _).mono ?_
    rintro e w' ⟨rfl, hB⟩
    have c1 := below_then b1 (Nat.le_refl _) hB
    clear hB b1
    go_wp2_with fail
    refine (HS.out _).mono ?_
    rintro e w' ⟨rfl, hB⟩
    have c2 := below_then c1 (Nat.le_refl _) hB
    clear hB c1
    go_wp2
    go_ret
    exact ⟨rfl, c2⟩
  | true =>
    obtain ⟨ha1, hb1, hab⟩ := (pairB_iff a b).1 hv
    have oa := ((seqB_iff a).1 ha1).1
    have ob := ((seqB_iff b).1 hb1).1
    have h12 := size_le ha1
    obtain ⟨s', hs'⟩ : ∃ m' : Nat, len1 % 30 = m' := ⟨_, rfl⟩
    have hss : (len1 : Int) % 30 = (s' : Int) := by omega
    have hs1 : s' < 30 := by omega
    obtain ⟨m, hm⟩ : ∃ m, k.tmod a.size = m := ⟨_, rfl⟩
    have hmb := tmod_bd k a.size (by omega)
    have HI := Lib.hid (fun w => iCross_yes' a b k w hv)
    have HS := Lib.hid (fun w => sCross_yes a b k w hv)
    have hcb := crossN_bd a b (modN k b.size)
    have H1 := Lib.hid (fun w => iInvert_yes b w hb1)
    have H2 := Lib.hid (fun w => ssCross_yes b a (-(k.tmod a.size)) w (pairB_mk hb1 ha1 hab.symm))
    rw [cross_swap a b k hab (by omega)] at H2
    have H3 := Lib.hid (fun w => ssCross_yes a (invS b) k w (pairB_mk ha1 (seqB_invS hb1) (by rw [invS_size]; exact hab)))
    rw [cross_inv a b k hab oa ob (by omega)] at H3
    have H4 := Lib.hid (fun w => ssShift_yes a (s' : Int) w ha1)
    have H5 := Lib.hid (fun w => ssShift_yes b (s' : Int) w hb1)
    have H6 := Lib.hid (fun w => ssCross_yes (shift a (s' : Int)) (shift b (s' : Int)) k w (pairB_mk (seqB_shift _ ha1) (seqB_shift _ hb1) (by rw [shift_size, shift_size]; exact hab)))
    rw [cross_both a b _ k hab (by omega)] at H6
    have H7 := Lib.hid (fun w => ssCross_yes a (shift b (s' : Int)) (k.tmod a.size) w (pairB_mk ha1 (seqB_shift _ hb1) (by rw [shift_size]; exact hab)))
    rw [cross_second a b _ _ hab (by omega)] at H7
    have H8 := Lib.hid (fun w => ssCross_yes a b (k.tmod a.size + (s' : Int)) w hv)
    rw [hm] at H2 H7 H8 hmb
    obtain ⟨hm1, hm2⟩ := hmb
    obtain ⟨n, hn⟩ : ∃ n, crossN a b (modN k b.size) = n := ⟨_, rfl⟩
    rw [hn] at HI HS H2 H3 H6 hcb
    obtain ⟨n2, hn2⟩ : ∃ n, crossN a b (modN (m + (s' : Int)) b.size) = n := ⟨_, rfl⟩
    rw [hn2] at H7 H8
    obtain ⟨y1, hy1⟩ : ∃ y, invS b = y := ⟨_, rfl⟩
    rw [hy1] at H1 H3
    obtain ⟨y2, hy2⟩ : ∃ y, shift a (s' : Int) = y := ⟨_, rfl⟩
    rw [hy2] at H4 H6
    obtain ⟨y3, hy3⟩ : ∃ y, shift b (s' : Int) = y := ⟨_, rfl⟩
    rw [hy3] at H5 H6 H7
    obtain ⟨d1, d2⟩ := hcb
    clear hn hn2 hy1 hy2 hy3 hv ha1 hb1 oa ob hab hs' hk
    go_wp2_with fail
    refine (HI.out _).mono ?_
    rintro e w' ⟨rfl, hB⟩
    have c1 := below_then b1 (Nat.le_refl _) hB
    clear hB b1
    go_wp2_with fail
    refine (HS.out _).mono ?_
    rintro e w' ⟨rfl, hB⟩
    have c2 := below_then c1 (Nat.le_refl _) hB
    clear hB c1
    go_wp2_with fail
    refine (H1.out _).mono ?_
    rintro e w' ⟨rfl, hB⟩
    have c3 := below_then c2 (Nat.le_refl _) hB
    clear hB c2
    go_wp2_with fail
    refine (H2.out _).mono ?_
    rintro e w' ⟨rfl, hB⟩
    have c4 := below_then c3 (Nat.le_refl _) hB
    clear hB c3
    go_wp2_with fail
    refine (H3.out _).mono ?_
    rintro e w' ⟨rfl, hB⟩
    have c5 := below_then c4 (Nat.le_refl _) hB
    clear hB c4
    go_wp2_with fail
    refine (H4.out _).mono ?_
    rintro e w' ⟨rfl, hB⟩
    have c6 := below_then c5 (Nat.le_refl _) hB
    clear hB c5
    go_wp2_with fail
    refine (H5.out _).mono ?_
    rintro e w' ⟨rfl, hB⟩
    have c7 := below_then c6 (Nat.le_refl _) hB
    clear hB c6
    go_wp2_with fail
    refine (H6.out _).mono ?_
    rintro e w' ⟨rfl, hB⟩
    have c8 := below_then c7 (Nat.le_refl _) hB
    clear hB c7
    go_wp2_with fail
    refine (H5.out _).mono ?_
    rintro e w' ⟨rfl, hB⟩
    have c9 := below_then c8 (Nat.le_refl _) hB
    clear hB c8
    go_wp2_with fail
    refine (H7.out _).mono ?_
    rintro e w' ⟨rfl, hB⟩
    have c10 := below_then c9 (Nat.le_refl _) hB
    clear hB c9
    go_wp2_with fail
    refine (H8.out _).mono ?_
    rintro e w' ⟨rfl, hB⟩
    have c11 := below_then c10 (Nat.le_refl _) hB
    clear hB c10
    go_wp2
    go_ret
    exact ⟨rfl, c11⟩
end Go.Proofs.Ytohnefgjalimfaa
