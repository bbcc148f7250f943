/- The walk of the law FnReverse. -/
import Derived.Test.YtbkppjelljljcaaDrawRevT
import Derived.Test.YtbkppjelljljcaaRevMath
import Derived.Test.YtbkppjelljljcaaSsRun
import Derived.Test.YtbkppjelljljcaaSsStr
import Derived.Test.YtbkppjelljljcaaRegFrom
namespace Go.Proofs.Ytbkppjelljljcaa
open Go.RowKit
set_option linter.unusedVariables false
set_option maxHeartbeats 1600000 in
set_option maxRecDepth 100000 in
theorem fnReverse_walk (a0 : Option Addr) (len0 cap0 : Nat) (z0 : List Int) (a1 : Option Addr) (len1 cap1 : Nat) (z1 : List Int) (w : World) (w0 : IsBytes w a0 len0 cap0 z0) (w1 : IsBytes w a1 len1 cap1 z1) :
    Calls Try.prog 5 #[.slice a0 len0 cap0, .slice a1 len1 cap1] w fun e w' => e = .returned (.bool true) ∧ Below w.heap.size w w' := by
  by_cases hl0 : 1048576 < len0
  · go_enter Try.func5, Try.ntmps5
    go_wp2
    go_ret
    exact ⟨rfl, Below.refl _ _⟩
  by_cases hl1 : 1048576 < len1
  · go_enter Try.func5, Try.ntmps5
    go_wp2
    go_ret
    exact ⟨rfl, Below.refl _ _⟩
  clear w1
  go_enter Try.func5, Try.ntmps5
  go_wp2_with fail
  refine (drawRevT_any a0 len0 cap0 z0 _ w0).mono ?_
  rintro e W1 ⟨S, T, rfl, bc⟩
  clear w0
  have hi := fun w => iReverse_any S T w
  have hs := fun w => sReverse_any S T w
  by_cases hok : tapsB S T = true ∧ T.toNat % 2 = 1
  · skip
    obtain ⟨hv, ho⟩ := hok
    obtain ⟨h1, h2, h3, h4⟩ := (tapsB_iff S T).1 hv
    obtain ⟨s, rfl⟩ : ∃ s : Nat, S = s := ⟨S.toNat, by omega⟩
    obtain ⟨t, rfl⟩ : ∃ t : Nat, T = t := ⟨T.toNat, by omega⟩
    rw [Int.toNat_natCast] at h4 ho
    have s2 : 2 ≤ s := by omega
    have s8 : s ≤ 8 := by omega
    have ht : t < tw s := by omega
    have hrv := rev_facts s2 s8 ht ho
    rw [show revTAns s t = (revN s t (s - 1) : Nat) by simp [revTAns, hv, ho]] at hs hi
    obtain ⟨m, hm⟩ : ∃ m, revN s t (s - 1) = m := ⟨_, rfl⟩
    rw [hm] at hs hi hrv
    clear hm
    have m1 : 1 ≤ m := by have := hrv.odd; omega
    have hvm : tapsB s m = true := (tapsB_iff _ _).2 ⟨by omega, by omega, by omega, by rw [Int.toNat_natCast]; have := hrv.lt; omega⟩
    have hj := fun w => iReverse_any s m w
    rw [show revTAns s m = (t : Nat) by simp [revTAns, hvm, hrv.odd, hrv.back]] at hj
    obtain ⟨b1, e1, hp⟩ := iMaxP s m s2 s8 m1 hrv.lt
    obtain ⟨b2, e2, hq⟩ := iMaxP s t s2 s8 (by omega) ht
    obtain rfl : b1 = b2 := Bool.eq_iff_iff.2 (by rw [e1, e2, hrv.max])
    obtain ⟨D, hD⟩ : ∃ D, tw s = D := ⟨_, rfl⟩
    have d1 := tw_pos s
    have d2 := tw_le s s8
    have hw := wrap_tw s s8
    rw [hD] at d1 d2 hw
    obtain ⟨x, hx⟩ : ∃ x, (1 + len1) % D = x := ⟨_, rfl⟩
    have xd : x < D := by rw [← hx]; exact Nat.mod_lt _ d1
    have hR : RegN s t x := ⟨s2, s8, by omega, ht, by rw [hD]; exact xd⟩
    have tm : (1 + (len1 : Int)).tmod (D : Int) = (x : Int) := by rw [Int.tmod_eq_emod_of_nonneg (by omega), ← hx]; exact (Int.natCast_emod (1 + len1) D).symm
    have dz : ((D : Int) == 0) = false := by rw [beq_eq_false_iff_ne]; omega
    have dz1 : ¬ D = 0 := by omega
    have dz2 : ¬ ((D : Int) = 0) := by omega
    have hss := fun w => ssRun_any s t x 50 w hR (by omega)
    have htu := fun w => ssTurned_any (runS s t x 50) w (by rw [runS_size]; omega)
    obtain ⟨hY, hrun⟩ := rev_run hR ho hrv (N := 50) (by omega)
    have zs : (revS (runS s t x 50)).size = 50 := by rw [revS_size, runS_size]
    have hfr := fun w => sh_from (revS_bits (s := s) (t := t) (x := x) (N := 50) (by omega)) (by rw [zs]; omega) s2 s8 m1 hrv.lt w
    have hst := fun w => ssRun_any s m _ 50 w hY (by omega)
    rw [hrun] at hst
    obtain ⟨y, hy⟩ : ∃ y, valX (revS (runS s t x 50)) s = y := ⟨_, rfl⟩
    rw [hy] at hfr hst
    obtain ⟨Z, hZ⟩ : ∃ Z, revS (runS s t x 50) = Z := ⟨_, rfl⟩
    rw [hZ] at htu hfr hst zs
    obtain ⟨Q, hQ⟩ : ∃ Q, runS s t x 50 = Q := ⟨_, rfl⟩
    rw [hQ] at htu hss
    rw [show ((50 : Nat) : Int) = 50 from rfl] at hss hst
    have m0 : ¬ ((m : Int) < 0) := by omega
    have z0 : (s : Int) ≤ (Z.size : Int) := by omega
    have z1 : (0 : Int) ≤ (s : Int) := by omega
    have s0 : ¬ ((s : Int) < 0) := by omega
    clear hv ho hvm hrv e1 e2 hrun hy hZ hQ hY hR hD xd hx zs h1 h2 h3 h4 d1 d2 m1 s2 ht
    have HI := Lib.hid hi
    have HS := Lib.hid hs
    have HJ := Lib.hid hj
    have HP := Lib.hid hp
    have HQ := Lib.hid hq
    have HSS := Lib.hid hss
    have HTU := Lib.hid htu
    have HFR := Lib.hid hfr
    have HST := Lib.hid hst
    clear hi hs hj hp hq hss htu hfr hst
    go_wp2_with fail
    refine (HI.out _).mono ?_
    rintro e w1 ⟨rfl, hb2⟩
    have b3 := below_then bc (Nat.le_refl _) hb2
    clear bc hb2
    go_wp2_with fail
    refine (HS.out _).mono ?_
    rintro e w4 ⟨rfl, hb5⟩
    have b6 := below_then b3 (Nat.le_refl _) hb5
    clear b3 hb5
    obtain ⟨V7, hb9, F10, hV11⟩ : ∃ V, Below w4.heap.size w4 V ∧ RegAt V w4.heap.size s t x ∧ w4.alloc (.cells #[.int .i64 s, .int .i64 t, .int .i64 x] 24) = V := ⟨_, (Below.refl _ w4).alloc (Nat.le_refl _) _, RegAt.new w4 _ s t x, rfl⟩
    have b13 := below_then b6 (Nat.le_refl _) hb9
    clear b6 hb9
    obtain ⟨k8, hk12⟩ : ∃ k, w4.heap.size = k := ⟨_, rfl⟩
    rw [hk12] at F10
    obtain ⟨cr0, cr1, cr2, crl⟩ := id F10
    go_wp2_with fail
    clear cr0 cr1 cr2 crl hV11 hk12
    refine (HSS.out _).mono ?_
    rintro e w14 ⟨rfl, hb15⟩
    have F16 := F10.below hb15 F10.2.2.2
    clear F10
    have b17 := below_then b13 (Nat.le_refl _) hb15
    clear b13 hb15
    clear tm hw dz dz1 dz2
    go_wp2_with fail
    refine (HTU.out _).mono ?_
    rintro e w18 ⟨rfl, hb19⟩
    have F20 := F16.below hb19 F16.2.2.2
    clear F16
    have b21 := below_then b17 (Nat.le_refl _) hb19
    clear b17 hb19
    go_wp2_with fail
    refine (HFR.out _).mono ?_
    rintro e w22 ⟨rfl, hb23⟩
    have F24 := F20.below hb23 F20.2.2.2
    clear F20
    have b25 := below_then b21 (Nat.le_refl _) hb23
    clear b21 hb23
    clear F24
    obtain ⟨V26, hb28, F29, hV30⟩ : ∃ V, Below w22.heap.size w22 V ∧ RegAt V w22.heap.size s m y ∧ w22.alloc (.cells #[.int .i64 s, .int .i64 m, .int .i64 y] 24) = V := ⟨_, (Below.refl _ w22).alloc (Nat.le_refl _) _, RegAt.new w22 _ s m y, rfl⟩
    have b32 := below_then b25 (Nat.le_refl _) hb28
    clear b25 hb28
    obtain ⟨k27, hk31⟩ : ∃ k, w22.heap.size = k := ⟨_, rfl⟩
    rw [hk31] at F29
    obtain ⟨cq0, cq1, cq2, cql⟩ := id F29
    go_wp2_with fail
    clear cq0 cq1 cq2 cql hV30 hk31
    refine (HST.out _).mono ?_
    rintro e w33 ⟨rfl, hb34⟩
    have F35 := F29.below hb34 F29.2.2.2
    clear F29
    have b36 := below_then b32 (Nat.le_refl _) hb34
    clear b32 hb34
    clear F35
    go_wp2_with fail
    refine (HJ.out _).mono ?_
    rintro e w37 ⟨rfl, hb38⟩
    have b39 := below_then b36 (Nat.le_refl _) hb38
    clear b36 hb38
    go_wp2_with fail
    refine (HP.out _).mono ?_
    rintro e w40 ⟨rfl, hb41⟩
    have b42 := below_then b39 (Nat.le_refl _) hb41
    clear b39 hb41
    go_wp2_with fail
    refine (HQ.out _).mono ?_
    rintro e w43 ⟨rfl, hb44⟩
    have b45 := below_then b42 (Nat.le_refl _) hb44
    clear b42 hb44
    go_wp2
    go_ret
    exact ⟨rfl, b45⟩
  · skip
    rw [show revTAns S T = -1 by unfold revTAns; cases hv : tapsB S T with | false => rfl | true => simp only [Bool.true_and, decide_eq_false (fun ho => hok ⟨hv, ho⟩)]; rfl] at hs hi
    clear hok
    have HI := Lib.hid hi
    have HS := Lib.hid hs
    clear hi hs
    go_wp2_with fail
    refine (HI.out _).mono ?_
    rintro e w46 ⟨rfl, hb47⟩
    have b48 := below_then bc (Nat.le_refl _) hb47
    clear bc hb47
    go_wp2_with fail
    refine (HS.out _).mono ?_
    rintro e w49 ⟨rfl, hb50⟩
    have b51 := below_then b48 (Nat.le_refl _) hb50
    clear b48 hb50
    go_wp2_with fail
    refine (HS.out _).mono ?_
    rintro e w52 ⟨rfl, hb53⟩
    have b54 := below_then b51 (Nat.le_refl _) hb53
    clear b51 hb53
    go_wp2
    go_ret
    exact ⟨rfl, b54⟩
end Go.Proofs.Ytbkppjelljljcaa
