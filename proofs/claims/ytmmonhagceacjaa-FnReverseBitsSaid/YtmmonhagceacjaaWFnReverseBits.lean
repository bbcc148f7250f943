/- The walk of the law FnReverseBits. -/
import Derived.Test.YtmmonhagceacjaaDrawRevB
import Derived.Test.YtmmonhagceacjaaRevRun
import Derived.Test.YtmmonhagceacjaaSeqRuns3
import Derived.Test.YtmmonhagceacjaaSsSame
import Derived.Test.YtmmonhagceacjaaSeqYes
import Derived.Test.YtmmonhagceacjaaSeqRev3
namespace Go.Proofs.Ytmmonhagceacjaa
open Go.RowKit
set_option linter.unusedVariables false
set_option maxHeartbeats 1600000 in
set_option maxRecDepth 100000 in
theorem fnReverseBits_walk (a0 : Option Addr) (len0 cap0 : Nat) (z0 : List Int) (a1 : Option Addr) (len1 cap1 : Nat) (z1 : List Int) (w : World) (w0 : IsBytes w a0 len0 cap0 z0) (w1 : IsBytes w a1 len1 cap1 z1) :
    Calls Try.prog 9 #[.slice a0 len0 cap0, .slice a1 len1 cap1] w fun e w' => e = .returned (.bool true) ∧ Below w.heap.size w w' := by
  by_cases hl0 : 1048576 < len0
  · go_enter Try.func9, Try.ntmps9
    go_wp2
    go_ret
    exact ⟨rfl, Below.refl _ _⟩
  by_cases hl1 : 1048576 < len1
  · go_enter Try.func9, Try.ntmps9
    go_wp2
    go_ret
    exact ⟨rfl, Below.refl _ _⟩
  clear w1
  go_enter Try.func9, Try.ntmps9
  go_wp2_with fail
  refine (drawRevB_any a0 len0 cap0 z0 _ w0).mono ?_
  rintro e W1 ⟨z, rfl, hz, bc⟩
  clear w0
  have hi := fun w => iRev_any z w (by omega)
  have hs := fun w => sRev_any z w (by omega)
  cases hv : seqB z with
  | false =>
    rw [show revAns z = noS by unfold revAns; rw [hv]; rfl] at hi hs
    unfold noS at hi hs
    clear hv
    have HI := Lib.hid hi
    have HS := Lib.hid hs
    clear hi hs
    go_wp2_with fail
    refine (HI.out _).mono ?_
    rintro e w1 ⟨rfl, hb2⟩
    have b3 := below_then bc (Nat.le_refl _) hb2
    clear bc hb2
    go_wp2_with fail
    refine (HS.out _).mono ?_
    rintro e w4 ⟨rfl, hb5⟩
    have b6 := below_then b3 (Nat.le_refl _) hb5
    clear b3 hb5
    go_wp2
    go_ret
    exact ⟨rfl, b6⟩
  | true =>
    have h1 := ((seqB_iff z).1 hv).2
    have hvr := seqB_revS hv
    have hrs := revS_size z
    rw [show revAns z = (revS z, true) by unfold revAns; rw [hv]; rfl] at hi hs
    have hb := fun w => iRev_any (revS z) w (by omega)
    rw [show revAns (revS z) = (z, true) by unfold revAns; rw [hvr, revS_revS]; rfl] at hb
    obtain ⟨k, hk⟩ : ∃ k, len1 % 40 = k := ⟨_, rfl⟩
    have hk40 : k < 40 := by omega
    have hm : (len1 : Int).tmod 40 = (k : Int) := by rw [Int.tmod_eq_emod_of_nonneg (by omega)]; omega
    have hsh := fun w => ssShift_yes z (k : Int) w hv
    have hvs := seqB_shift (k : Int) hv
    have ht := fun w => iRev_any (shift z (k : Int)) w (by rw [shift_size]; omega)
    rw [show revAns (shift z (k : Int)) = (shift (revS z) (-(k : Int)), true) by unfold revAns; rw [hvs, rev_shift z _ (by omega)]; rfl] at ht
    have hq := fun w => ssShift_yes (revS z) (-(k : Int)) w hvr
    have ha := fun w => iAuto_any z (k : Int) w (by omega)
    have hx := fun w => iAuto_any (revS z) (k : Int) w (by omega)
    rw [show autoAns z (k : Int) = (crossN z z (modN (k : Int) z.size), true) from crossAns_yes _ ((pairB_iff z z).2 ⟨hv, hv, rfl⟩)] at ha
    rw [show autoAns (revS z) (k : Int) = (crossN (revS z) (revS z) (modN (k : Int) (revS z).size), true) from crossAns_yes _ ((pairB_iff _ _).2 ⟨hvr, hvr, rfl⟩), hrs, cross_rev z _ (modN_lt _ _ (by omega))] at hx
    have hl := fun w => iLeast_yes z w hv
    have hm2 := fun w => iLeast_yes (revS z) w hvr
    rw [leastP_rev z (by omega)] at hm2
    have hr := fun w => iRuns_any z w (by omega)
    have ho := fun w => iRuns_any (revS z) w (by omega)
    rw [show rlN (revS z) = rlN z by unfold rlN; rw [hv, hvr, rlL_rev (by omega)], show rlF (revS z) = rlF z by unfold rlF; rw [rlL_rev (by omega)]] at ho
    have hN := rlN_le6 z
    obtain ⟨N, eN⟩ : ∃ v, rlN z = v := ⟨_, rfl⟩
    rw [eN] at hr ho hN
    clear eN
    obtain ⟨g, eg⟩ : ∃ v, rlF z = v := ⟨_, rfl⟩
    rw [eg] at hr ho
    clear eg
    obtain ⟨P, eP⟩ : ∃ v, leastP z = v := ⟨_, rfl⟩
    rw [eP] at hl hm2
    clear eP
    obtain ⟨A, eA⟩ : ∃ v, crossN z z (modN (k : Int) z.size) = v := ⟨_, rfl⟩
    rw [eA] at ha hx
    clear eA
    obtain ⟨T, eT⟩ : ∃ v, shift (revS z) (-(k : Int)) = v := ⟨_, rfl⟩
    rw [eT] at ht hq
    clear eT
    obtain ⟨S, eS⟩ : ∃ v, shift z (k : Int) = v := ⟨_, rfl⟩
    rw [eS] at hsh ht
    clear eS
    obtain ⟨X, eX⟩ : ∃ v, revS z = v := ⟨_, rfl⟩
    rw [eX] at hi hs hb hq hx hm2 ho
    clear eX
    have HM := Lib.hid hm
    clear hv hvr hvs hrs h1 hk hz hm
    have HI := Lib.hid hi
    have HS := Lib.hid hs
    have HB := Lib.hid hb
    have HSH := Lib.hid hsh
    have HT := Lib.hid ht
    have HQ := Lib.hid hq
    have HA := Lib.hid ha
    have HX := Lib.hid hx
    have HL := Lib.hid hl
    have HM2 := Lib.hid hm2
    have HR := Lib.hid hr
    have HO := Lib.hid ho
    clear hi hs hb hsh ht hq ha hx hl hm2 hr ho
    go_wp2_with fail
    refine (HI.out _).mono ?_
    rintro e w7 ⟨rfl, hb8⟩
    have b9 := below_then bc (Nat.le_refl _) hb8
    clear bc hb8
    go_wp2_with fail
    refine (HS.out _).mono ?_
    rintro e w10 ⟨rfl, hb11⟩
    have b12 := below_then b9 (Nat.le_refl _) hb11
    clear b9 hb11
    go_wp2_with fail
    refine (HB.out _).mono ?_
    rintro e w13 ⟨rfl, hb14⟩
    have b15 := below_then b12 (Nat.le_refl _) hb14
    clear b12 hb14
    have hm := HM.out
    clear HM
    go_wp2_with fail
    refine (HSH.out _).mono ?_
    rintro e w16 ⟨rfl, hb17⟩
    have b18 := below_then b15 (Nat.le_refl _) hb17
    clear b15 hb17
    clear hm
    go_wp2_with fail
    refine (HT.out _).mono ?_
    rintro e w19 ⟨rfl, hb20⟩
    have b21 := below_then b18 (Nat.le_refl _) hb20
    clear b18 hb20
    go_wp2_with fail
    refine (HA.out _).mono ?_
    rintro e w22 ⟨rfl, hb23⟩
    have b24 := below_then b21 (Nat.le_refl _) hb23
    clear b21 hb23
    go_wp2_with fail
    refine (HX.out _).mono ?_
    rintro e w25 ⟨rfl, hb26⟩
    have b27 := below_then b24 (Nat.le_refl _) hb26
    clear b24 hb26
    go_wp2_with fail
    refine (HQ.out _).mono ?_
    rintro e w28 ⟨rfl, hb29⟩
    have b30 := below_then b27 (Nat.le_refl _) hb29
    clear b27 hb29
    go_wp2_with fail
    refine (HM2.out _).mono ?_
    rintro e w31 ⟨rfl, hb32⟩
    have b33 := below_then b30 (Nat.le_refl _) hb32
    clear b30 hb32
    go_wp2_with fail
    refine (HL.out _).mono ?_
    rintro e w34 ⟨rfl, hb35⟩
    have b36 := below_then b33 (Nat.le_refl _) hb35
    clear b33 hb35
    go_wp2_with fail
    refine (HO.out _).mono ?_
    rintro e w37 ⟨v40, rfl, O39, hb38⟩
    have b41 := below_then b36 (Nat.le_refl _) hb38
    clear b36 hb38
    obtain ⟨lax, lpx, rfl, lhx⟩ := O39.form
    go_wp2_with fail
    refine (HR.out _).mono ?_
    rintro e w42 ⟨v45, rfl, O44, hb43⟩
    have O46 := O39.below hb43
    clear O39
    have b47 := below_then b41 (Nat.le_refl _) hb43
    clear b41 hb43
    obtain ⟨laz, lpz, rfl, lhz⟩ := O44.form
    clear lhx lhz
    go_wp2_with fail
    refine (ssInts_same _ _ _ _ N g _ O46 O44 (by omega)).mono ?_
    rintro e w' ⟨rfl, m48, rfl⟩
    have hb50 := below_drewN (Below.refl w42.heap.size w42) m48
    have O51 := O46.below hb50
    clear O46
    have O52 := O44.below hb50
    clear O44
    have b53 := below_then b47 (Nat.le_refl _) hb50
    clear b47 hb50
    obtain ⟨w49, hW⟩ : ∃ W, w42.drewN m48 = W := ⟨_, rfl⟩
    rw [hW] at O51 O52  b53 ⊢
    clear hW
    clear O51 O52
    go_wp2
    go_ret
    exact ⟨rfl, b53⟩
end Go.Proofs.Ytmmonhagceacjaa
