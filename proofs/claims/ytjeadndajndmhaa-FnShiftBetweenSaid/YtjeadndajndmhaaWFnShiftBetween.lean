/- The walk of the law FnShiftBetween. -/
import Derived.Test.YtjeadndajndmhaaDraw11
import Derived.Test.YtjeadndajndmhaaSeqYes
import Derived.Test.YtjeadndajndmhaaSeqAlg2
namespace Go.Proofs.Ytjeadndajndmhaa
open Go.RowKit
set_option linter.unusedVariables false
set_option maxHeartbeats 1600000 in
set_option maxRecDepth 100000 in
theorem fnShiftBetween_walk (a0 : Option Addr) (len0 cap0 : Nat) (z0 : List Int) (w : World) (w0 : IsBytes w a0 len0 cap0 z0) :
    Calls Try.prog 5 #[.slice a0 len0 cap0] w fun e w' => e = .returned (.bool true) ∧ Below w.heap.size w w' := by
  by_cases hl0 : 1048576 < len0
  · go_enter Try.func5, Try.ntmps5
    go_wp2
    go_ret
    exact ⟨rfl, Below.refl _ _⟩
  go_enter Try.func5, Try.ntmps5
  go_wp2_with fail
  refine (drawBetween_any a0 len0 cap0 z0 _ w0).mono ?_
  rintro e W1 ⟨a, b, rfl, ha, hb, b1⟩
  clear w0
  cases hv : pairB a b with
  | false =>
    have hI := fun w => iBetween_any a b w (by omega) (by omega)
    have hS := fun w => sBetween_any a b w (by omega) (by omega)
    rw [show betweenAns a b = noI by unfold betweenAns; rw [hv]; rfl] at hI hS
    have HI := Lib.hid hI
    have HS := Lib.hid hS
    clear hI hS
    cases ha1 : seqB a with
    | false =>
      have HA := Lib.hid (fun w => iSequenceValid_no a w (by omega) ha1)
      clear hv ha1
      go_wp2_with fail
      refine (HI.out _).mono ?_
      rintro e w' ⟨rfl, hB⟩
      have c1 := below_then b1 (Nat.le_refl _) hB
      clear hB b1
      go_wp2_with fail
      refine (HS.out _).mono ?_
      rintro e w' ⟨rfl, hB⟩
      have c2 := below_then c1 (Nat.le_refl _) hB
      clear hB c1
      go_wp2_with fail
      refine (HA.out _).mono ?_
      rintro e w' ⟨rfl, rfl⟩
      go_wp2
      go_ret
      exact ⟨rfl, c2⟩
    | true =>
      have HA := Lib.hid (fun w => iSequenceValid_yes a w ha1)
      cases hb1 : seqB b with
      | false =>
        have HB := Lib.hid (fun w => iSequenceValid_no b w (by omega) hb1)
        clear hv ha1 hb1
        go_wp2_with fail
        refine (HI.out _).mono ?_
        rintro e w' ⟨rfl, hB⟩
        have c1 := below_then b1 (Nat.le_refl _) hB
        clear hB b1
        go_wp2_with fail
        refine (HS.out _).mono ?_
        rintro e w' ⟨rfl, hB⟩
        have c2 := below_then c1 (Nat.le_refl _) hB
        clear hB c1
        go_wp2_with fail
        refine (HA.out _).mono ?_
        rintro e w' ⟨rfl, rfl⟩
        go_wp2_with fail
        refine (HB.out _).mono ?_
        rintro e w' ⟨rfl, rfl⟩
        go_wp2
        go_ret
        exact ⟨rfl, c2⟩
      | true =>
        have HB := Lib.hid (fun w => iSequenceValid_yes b w hb1)
        have hne : ¬ a.size = b.size := by intro e; rw [pairB_mk ha1 hb1 e] at hv; cases hv
        have hne1 : ((a.size : Int) != (b.size : Int)) = true := by simp; omega
        have hne2 : ((a.size : Int) == (b.size : Int)) = false := by simp; omega
        clear hv ha1 hb1 hne
        go_wp2_with fail
        refine (HI.out _).mono ?_
        rintro e w' ⟨rfl, hB⟩
        have c1 := below_then b1 (Nat.le_refl _) hB
        clear hB b1
        go_wp2_with fail
        refine (HS.out _).mono ?_
        rintro e w' ⟨rfl, hB⟩
        have c2 := below_then c1 (Nat.le_refl _) hB
        clear hB c1
        go_wp2_with fail
        refine (HA.out _).mono ?_
        rintro e w' ⟨rfl, rfl⟩
        go_wp2_with fail
        refine (HB.out _).mono ?_
        rintro e w' ⟨rfl, rfl⟩
        go_wp2
        go_ret
        exact ⟨rfl, c2⟩
  | true =>
    obtain ⟨ha1, hb1, hab⟩ := (pairB_iff a b).1 hv
    have h12 := size_le ha1
    have HI := Lib.hid (fun w => iBetween_pair a b w hv)
    have HS := Lib.hid (fun w => sBetween_pair a b w hv)
    have HA := Lib.hid (fun w => iSequenceValid_yes a w ha1)
    have HB := Lib.hid (fun w => iSequenceValid_yes b w hb1)
    have HRa := Lib.hid (fun w => show Calls Try.prog 15 #[.string a] w fun e w' => e = .returned (.string (rotS a)) ∧ Below w.heap.size w w' from iRot_yes a w ha1)
    have HRb := Lib.hid (fun w => show Calls Try.prog 15 #[.string b] w fun e w' => e = .returned (.string (rotS b)) ∧ Below w.heap.size w w' from iRot_yes b w hb1)
    have hif := between_iff a b (by omega) hab
    have hsz : (a.size : Int) = (b.size : Int) := by omega
    have hq1 : ((a.size : Int) != (b.size : Int)) = false := by simp; omega
    have hq2 : ((a.size : Int) == (b.size : Int)) = true := by simp; omega
    clear hsz
    by_cases hok : betweenN a b < a.size
    · have hba : betweenAns a b = (((betweenN a b : Nat) : Int), true) := by unfold betweenAns; rw [hv, decide_eq_true hok]; rfl
      rw [hba] at HI HS
      have hR := hif.1 hok
      rw [← hR] at HRb
      have hl := between_least a b (by omega) hok
      have hby := betweenN_yes a b hok
      have H1 := Lib.hid (fun w => ssShift_yes a ((betweenN a b : Nat) : Int) w ha1)
      rw [hby] at H1
      have H2 := Lib.hid (fun w => iLeast_yes a w ha1)
      have H3 := Lib.hid (fun w => iLeast_yes b w hb1)
      rw [hl.2] at H3
      have hlt := hl.1
      have hlb := leastP_bd a h12.1
      obtain ⟨R, hRR⟩ : ∃ R, rotS a = R := ⟨_, rfl⟩
      rw [hRR] at HRa HRb
      obtain ⟨K, hK⟩ : ∃ K, betweenN a b = K := ⟨_, rfl⟩
      rw [hK] at HI HS H1 hlt
      obtain ⟨P, hP⟩ : ∃ P, leastP a = P := ⟨_, rfl⟩
      rw [hP] at H2 H3 hlt hlb
      have hlt2 : (K : Int) < (P : Int) := by omega
      have hP2 : P ≤ 255 := by omega
      clear hRR hK hP hR hl hby hba hif hok hv ha1 hb1 hab hlb
      go_wp2_with fail
      refine (HI.out _).mono ?_
      rintro e w' ⟨rfl, hB⟩
      have c1 := below_then b1 (Nat.le_refl _) hB
      clear hB b1
      go_wp2_with fail
      refine (HS.out _).mono ?_
      rintro e w' ⟨rfl, hB⟩
      have c2 := below_then c1 (Nat.le_refl _) hB
      clear hB c1
      go_wp2_with fail
      refine (HA.out _).mono ?_
      rintro e w' ⟨rfl, rfl⟩
      go_wp2_with fail
      refine (HB.out _).mono ?_
      rintro e w' ⟨rfl, rfl⟩
      go_wp2_with fail
      refine (HRa.out _).mono ?_
      rintro e w' ⟨rfl, hB⟩
      have c5 := below_then c2 (Nat.le_refl _) hB
      clear hB c2
      go_wp2_with fail
      refine (HRb.out _).mono ?_
      rintro e w' ⟨rfl, hB⟩
      have c6 := below_then c5 (Nat.le_refl _) hB
      clear hB c5
      go_wp2_with fail
      refine (H1.out _).mono ?_
      rintro e w' ⟨rfl, hB⟩
      have c7 := below_then c6 (Nat.le_refl _) hB
      clear hB c6
      go_wp2_with fail
      refine (H2.out _).mono ?_
      rintro e w' ⟨rfl, hB⟩
      have c8 := below_then c7 (Nat.le_refl _) hB
      clear hB c7
      go_wp2_with fail
      refine (H3.out _).mono ?_
      rintro e w' ⟨rfl, hB⟩
      have c9 := below_then c8 (Nat.le_refl _) hB
      clear hB c8
      go_wp2_with fail
      refine (H2.out _).mono ?_
      rintro e w' ⟨rfl, hB⟩
      have c10 := below_then c9 (Nat.le_refl _) hB
      clear hB c9
      go_wp2
      go_ret
      exact ⟨rfl, c10⟩
    · have hba : betweenAns a b = noI := by unfold betweenAns; rw [hv, decide_eq_false hok]; rfl
      rw [hba] at HI HS
      have hR : ¬ rotS a = rotS b := fun e => hok (hif.2 e)
      have se := str_ne hR
      obtain ⟨R, hRR⟩ : ∃ R, rotS a = R := ⟨_, rfl⟩
      rw [hRR] at HRa se
      obtain ⟨R2, hRR2⟩ : ∃ R, rotS b = R := ⟨_, rfl⟩
      rw [hRR2] at HRb se
      clear hRR hRR2 hR hba hif hok hv ha1 hb1 hab
      go_wp2_with fail
      refine (HI.out _).mono ?_
      rintro e w' ⟨rfl, hB⟩
      have c1 := below_then b1 (Nat.le_refl _) hB
      clear hB b1
      go_wp2_with fail
      refine (HS.out _).mono ?_
      rintro e w' ⟨rfl, hB⟩
      have c2 := below_then c1 (Nat.le_refl _) hB
      clear hB c1
      go_wp2_with fail
      refine (HA.out _).mono ?_
      rintro e w' ⟨rfl, rfl⟩
      go_wp2_with fail
      refine (HB.out _).mono ?_
      rintro e w' ⟨rfl, rfl⟩
      go_wp2_with fail
      refine (HRa.out _).mono ?_
      rintro e w' ⟨rfl, hB⟩
      have c5 := below_then c2 (Nat.le_refl _) hB
      clear hB c2
      go_wp2_with fail
      refine (HRb.out _).mono ?_
      rintro e w' ⟨rfl, hB⟩
      have c6 := below_then c5 (Nat.le_refl _) hB
      clear hB c5
      go_wp2
      go_ret
      exact ⟨rfl, c6⟩
end Go.Proofs.Ytjeadndajndmhaa
