/- The walk of the law FnMaximalSequence. -/
import Derived.Test.YtkkakfkebjdkeaaSsMaxP
import Derived.Test.YtkkakfkebjdkeaaSeqRuns3
import Derived.Test.YtkkakfkebjdkeaaSeqFun3
import Derived.Test.YtkkakfkebjdkeaaSeqFind
namespace Go.Proofs.Ytkkakfkebjdkeaa
open Go.RowKit
set_option linter.unusedVariables false
set_option maxHeartbeats 3200000 in
set_option maxRecDepth 100000 in
theorem fnMaximalSequence_walk (a0 : Option Addr) (len0 cap0 : Nat) (z0 : List Int) (a1 : Option Addr) (len1 cap1 : Nat) (z1 : List Int) (w : World) (w0 : IsBytes w a0 len0 cap0 z0) (w1 : IsBytes w a1 len1 cap1 z1) :
    Calls Try.prog 11 #[.slice a0 len0 cap0, .slice a1 len1 cap1] w fun e w' => e = .returned (.bool true) ∧ Below w.heap.size w w' := by
  by_cases hl0 : 1048576 < len0
  · go_enter Try.func11, Try.ntmps11
    go_wp2
    go_ret
    exact ⟨rfl, Below.refl _ _⟩
  by_cases hl1 : 1048576 < len1
  · go_enter Try.func11, Try.ntmps11
    go_wp2
    go_ret
    exact ⟨rfl, Below.refl _ _⟩
  clear w1
  obtain ⟨r, hr⟩ : ∃ r, len0 % 5 = r := ⟨_, rfl⟩
  have r5 : r < 5 := by omega
  obtain ⟨s, hs⟩ : ∃ s, 2 + r = s := ⟨_, rfl⟩
  have s2 : 2 ≤ s := by omega
  have s6 : s ≤ 6 := by omega
  have hmx := fun w => ssMaxP_any s len1 w s2 s6 (by omega)
  have hm : (len0 : Int).tmod 5 = (r : Int) := by rw [Int.tmod_eq_emod_of_nonneg (by omega)]; omega
  have hm2 : (2 : Int) + (r : Int) = (s : Int) := by omega
  have HMX := Lib.hid hmx
  clear hmx hr hs
  go_enter Try.func11, Try.ntmps11
  go_wp2_with fail
  refine (HMX.out _).mono ?_
  rintro e W1 ⟨t, rfl, hP, bc⟩
  clear w0 hm hm2 HMX
  have hF := hP.facts
  have hN8 := tw_le s (by omega)
  obtain ⟨N, hN⟩ : ∃ N, tw s - 1 = N := ⟨_, rfl⟩
  rw [hN] at hF ⊢
  have hz := runS_size s t 1 N
  have hv := hF.seq
  have h3 := hF.three
  have hNN : N ≤ 255 := by omega
  have hbl := fun w => iBal_yes' (runS s t 1 N) w hv
  rw [hF.bal] at hbl
  have hdc := fun w => iDec_yes (runS s t 1 N) 2 w hv (by omega)
  obtain ⟨j2, hj2, ej2⟩ := hF.twice
  have hvd : seqB (decS (runS s t 1 N) 2) = true := by rw [← ej2]; exact seqB_shift _ hv
  have hpd : pairB (runS s t 1 N) (decS (runS s t 1 N) 2) = true := (pairB_iff _ _).2 ⟨hv, hvd, (decS_size _ _).symm⟩
  have hbt := fun w => iBetween_any (runS s t 1 N) (decS (runS s t 1 N) 2) w (by omega) (by rw [decS_size]; omega)
  obtain ⟨J2, eJ2⟩ := betweenAns_shift hpd ej2
  rw [eJ2] at hbt
  have hK : ∀ k, 1 ≤ k → k < N → ∃ (J : Nat) (A C : ByteArray), (∀ w, Calls Try.prog 55 #[.string (runS s t 1 N), .int .i64 (k : Nat)] w fun e w' => e = .returned (.tuple #[.int .i64 (-1), .bool true]) ∧ Below w.heap.size w w') ∧ (∀ w, Calls Try.prog 22 #[.string (runS s t 1 N), .int .i64 (k : Nat)] w fun e w' => e = .returned (.string A) ∧ Below w.heap.size w w') ∧ (∀ w, Calls Try.prog 28 #[.string (runS s t 1 N), .string A] w fun e w' => e = .returned (.tuple #[.string C, .bool true]) ∧ Below w.heap.size w w') ∧ (∀ w, Calls Try.prog 50 #[.string (runS s t 1 N), .string C] w fun e w' => e = .returned (.tuple #[.int .i64 (J : Nat), .bool true]) ∧ Below w.heap.size w w') := fun k k1 kN => by
    obtain ⟨j, hj, ej⟩ := hF.addS k1 kN
    have hvs := seqB_shift (k : Int) hv
    have hps : pairB (runS s t 1 N) (shift (runS s t 1 N) (k : Int)) = true := (pairB_iff _ _).2 ⟨hv, hvs, (shift_size _ _).symm⟩
    have hva : seqB (addS (runS s t 1 N) (shift (runS s t 1 N) (k : Int))) = true := by rw [← ej]; exact seqB_shift _ hv
    have hpa : pairB (runS s t 1 N) (addS (runS s t 1 N) (shift (runS s t 1 N) (k : Int))) = true := (pairB_iff _ _).2 ⟨hv, hva, (addS_size _ _).symm⟩
    obtain ⟨J, eJ⟩ := betweenAns_shift hpa ej
    refine ⟨J, _, _, fun w => ?_, fun w => ssShift_yes _ (k : Int) w hv, fun w => iAdd_yes _ _ w hps, fun w => ?_⟩
    · have := iAuto_any (runS s t 1 N) (k : Int) w (by omega)
      rw [show autoAns (runS s t 1 N) (k : Int) = (crossN (runS s t 1 N) (runS s t 1 N) (modN (k : Int) (runS s t 1 N).size), true) from crossAns_yes _ ((pairB_iff _ _).2 ⟨hv, hv, rfl⟩), hz, modN_of_nat, Nat.mod_eq_of_lt kN, hF.cross k1 kN] at this
      exact this
    · have := iBetween_any (runS s t 1 N) (addS (runS s t 1 N) (shift (runS s t 1 N) (k : Int))) w (by omega) (by rw [addS_size]; omega)
      rw [eJ] at this
      exact this
  have hrl := fun w => iRuns_any (runS s t 1 N) w (by omega)
  obtain ⟨r1, r2⟩ := hF.runs
  have hlp := fun w => iLeast_yes (runS s t 1 N) w hv
  rw [hF.least] at hlp
  have hq1 := fun w => iSequenceValid_yes (runS s t 1 N) w hv
  have hq2 := fun w => sSequenceValid_yes (runS s t 1 N) w hv
  obtain ⟨g, hg⟩ : ∃ g, rlF (runS s t 1 N) = g := ⟨_, rfl⟩
  rw [r1, hg] at hrl
  rw [hg] at r2
  have hH : ∃ H, (N + 1) / 2 = H := ⟨_, rfl⟩
  obtain ⟨H, hH⟩ := hH
  rw [hH] at hrl r2
  have h1 : 0 < H := by omega
  have d1 : ((N : Int) + 1) / 2 = (H : Int) := by omega
  have d2 : ((N : Int) + 1).tdiv 2 = (H : Int) := by rw [Int.tdiv_eq_ediv_of_nonneg (by omega)]; omega
  obtain ⟨G, hG⟩ : ∃ G, H - 1 = G := ⟨_, rfl⟩
  rw [hG] at r2
  have g1 : (H : Int) - 1 = (G : Int) := by omega
  have g2 : G < H := by omega
  have g3 : (G : Int) < (H : Int) := by omega
  have g4 : (0 : Int) ≤ (G : Int) := by omega
  have h2 : H ≤ 300 := by omega
  obtain ⟨D, hD⟩ : ∃ D, decS (runS s t 1 N) 2 = D := ⟨_, rfl⟩
  rw [hD] at hdc hbt
  obtain ⟨Y, hY⟩ : ∃ Y, runS s t 1 N = Y := ⟨_, rfl⟩
  rw [hY] at hbl hdc hbt hrl hlp hq1 hq2 hz ⊢
  simp only [hY] at hK
  have HZ := Lib.hid hz
  have HR2 := Lib.hid r2
  have HG := Lib.hid (show (H : Int) - 1 = (G : Int) from g1)
  have HD1 := Lib.hid d1
  have HD2 := Lib.hid d2
  clear hz hY hD hG g1 hH hg r1 r2 d1 d2 hpd hvd ej2 hj2 eJ2 hv hF hP hN8 hN
  have HBL := Lib.hid hbl
  have HDC := Lib.hid hdc
  have HBT := Lib.hid hbt
  have HK := Lib.hid hK
  have HRL := Lib.hid hrl
  have HLP := Lib.hid hlp
  have HQ1 := Lib.hid hq1
  have HQ2 := Lib.hid hq2
  clear hbl hdc hbt hK hrl hlp hq1 hq2
  have hz := HZ.out
  have hyn : (Y.size : Int) = (N : Int) := by omega
  clear hz
  go_wp2_with fail
  refine (HBL.out _).mono ?_
  rintro e w1 ⟨rfl, hb2⟩
  have b3 := below_then bc (Nat.le_refl _) hb2
  clear bc hb2
  go_wp2_with fail
  refine (HDC.out _).mono ?_
  rintro e w4 ⟨rfl, hb5⟩
  have b6 := below_then b3 (Nat.le_refl _) hb5
  clear b3 hb5
  go_wp2_with fail
  refine (HBT.out _).mono ?_
  rintro e w7 ⟨rfl, hb8⟩
  have b9 := below_then b6 (Nat.le_refl _) hb8
  clear b6 hb8
  clear HBL HDC HBT
  go_wp2
  go_loopw [14] (fun c wr => ∃ k : Nat, 1 ≤ k ∧ k ≤ N ∧ c = .int .i64 k ∧ Below w.heap.size w wr) (fun c _ => N - (intOf c).toNat)
  case atStart => exact ⟨1, by omega, by omega, rfl, b9⟩
  case round =>
    clear b9
    obtain ⟨k, k1, kN, rfl, rb⟩ := hrel
    by_cases hlt : k < N
    · skip
      have i1 : (k : Int) < (N : Int) := by omega
      obtain ⟨J, A, C, q1, q2, q3, q4⟩ := HK.out k k1 hlt
      have Q1 := Lib.hid q1
      have Q2 := Lib.hid q2
      have Q3 := Lib.hid q3
      have Q4 := Lib.hid q4
      clear q1 q2 q3 q4
      go_wp2_with fail
      refine (Q1.out _).mono ?_
      rintro e w10 ⟨rfl, hb11⟩
      have b12 := below_then rb (Nat.le_refl _) hb11
      clear rb hb11
      go_wp2_with fail
      refine (Q2.out _).mono ?_
      rintro e w13 ⟨rfl, hb14⟩
      have b15 := below_then b12 (Nat.le_refl _) hb14
      clear b12 hb14
      go_wp2_with fail
      refine (Q3.out _).mono ?_
      rintro e w16 ⟨rfl, hb17⟩
      have b18 := below_then b15 (Nat.le_refl _) hb17
      clear b15 hb17
      go_wp2_with fail
      refine (Q4.out _).mono ?_
      rintro e w19 ⟨rfl, hb20⟩
      have b21 := below_then b18 (Nat.le_refl _) hb20
      clear b18 hb20
      go_wp2
      go_roundw
      case rel => exact ⟨k + 1, by omega, by omega, by go_num, b21⟩
      case measure => simp [intOf]; omega
    · skip
      obtain rfl : N = k := by omega
      clear HK
      go_wp2_with fail
      refine (HRL.out _).mono ?_
      rintro e w22 ⟨v25, rfl, O24, hb23⟩
      have b26 := below_then rb (Nat.le_refl _) hb23
      clear rb hb23
      obtain ⟨lal, lpl, rfl, lhl⟩ := O24.form
      obtain ⟨gl, rfl, -, -, -⟩ := lhl h1
      clear lhl HRL
      go_wp2_with fail
      refine (HLP.out _).mono ?_
      rintro e w27 ⟨rfl, hb28⟩
      have O29 := O24.below hb28
      clear O24
      have b30 := below_then b26 (Nat.le_refl _) hb28
      clear b26 hb28
      have c0 := (O29.at G g2).1
      rw [HR2.out] at c0
      have d1 := HD1.out
      have d2 := HD2.out
      have g1 := HG.out
      clear HD1 HD2 HG HR2
      clear O29
      go_wp2_with fail
      refine (HQ2.out _).mono ?_
      rintro e w' ⟨rfl, rfl⟩
      go_wp2_with fail
      refine (HQ1.out _).mono ?_
      rintro e w' ⟨rfl, rfl⟩
      go_wp2
      go_ret
      exact ⟨rfl, b30⟩
end Go.Proofs.Ytkkakfkebjdkeaa
