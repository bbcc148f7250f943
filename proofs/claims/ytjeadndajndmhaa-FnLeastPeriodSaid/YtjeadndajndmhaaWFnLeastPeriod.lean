/- The walk of the law FnLeastPeriod. -/
import Derived.Test.YtjeadndajndmhaaDraw11
import Derived.Test.YtjeadndajndmhaaSeqYes
import Derived.Test.YtjeadndajndmhaaSeqAlg2
import Derived.Deep.RegionHeld3
namespace Go.Proofs.Ytjeadndajndmhaa
open Go.RowKit
set_option linter.unusedVariables false
set_option maxHeartbeats 1600000 in
set_option maxRecDepth 100000 in
theorem fnLeastPeriod_walk (a0 : Option Addr) (len0 cap0 : Nat) (z0 : List Int) (w : World) (w0 : IsBytes w a0 len0 cap0 z0) :
    Calls Try.prog 3 #[.slice a0 len0 cap0] w fun e w' => e = .returned (.bool true) ∧ Below w.heap.size w w' := by
  by_cases hl0 : 1048576 < len0
  · go_enter Try.func3, Try.ntmps3
    go_wp2
    go_ret
    exact ⟨rfl, Below.refl _ _⟩
  go_enter Try.func3, Try.ntmps3
  go_wp2_with fail
  refine (drawLeast_any a0 len0 cap0 z0 _ w0).mono ?_
  rintro e W1 ⟨z, rfl, hz, b1⟩
  clear w0
  cases hv : seqB z with
  | false =>
    have hI := fun w => iLeast_any z w (by omega)
    have hS := fun w => sLeast_any z w (by omega)
    rw [show leastAns z = -1 by unfold leastAns; rw [hv]; rfl] at hI hS
    have HI := Lib.hid hI
    have HS := Lib.hid hS
    clear hv hz hI hS
    go_wp2_with fail
    refine (HI.out _).mono ?_
    rintro e w' ⟨rfl, hB⟩
    have c1 := below_then b1 (Nat.le_refl _) hB
    clear hB b1
    go_wp2_with fail
    refine (HS.out _).mono ?_
    rintro e w' ⟨rfl, hB⟩
    have c2 := below_then c1 (Nat.le_refl _) hB
    clear hB c1
    go_wp2_with fail
    refine (HS.out _).mono ?_
    rintro e w' ⟨rfl, hB⟩
    have c3 := below_then c2 (Nat.le_refl _) hB
    clear hB c2
    go_wp2
    go_ret
    exact ⟨rfl, c3⟩
  | true =>
    have h12 := size_le hv
    have HI := Lib.hid (fun w => iLeast_yes z w hv)
    have HS := Lib.hid (fun w => sLeast_yes z w hv)
    have hb := leastP_bd z h12.1
    have HP := Lib.hid (per_iff z h12.1)
    have hfull := (per_iff z h12.1 z.size).1 (shift_full z h12.1)
    have HA := Lib.hid (fun (k : Nat) w => iAuto_any z (k : Int) w (by omega))
    have HH := Lib.hid (fun (k : Nat) w => ssShift_yes z (k : Int) w hv)
    have HV := Lib.hid hv
    obtain ⟨N, hN⟩ : ∃ N, leastP z = N := ⟨_, rfl⟩
    rw [hN] at HI HS hb HP hfull
    have hN1 : 1 ≤ N := hb.1
    have hN2 : N ≤ 255 := by omega
    have HF := Lib.hid hfull
    clear hN hfull hb hv
    go_wp2_with fail
    refine (HI.out _).mono ?_
    rintro e w' ⟨rfl, hB⟩
    have c1 := below_then b1 (Nat.le_refl _) hB
    clear hB b1
    go_wp2_with fail
    refine (HS.out _).mono ?_
    rintro e w' ⟨rfl, hB⟩
    have c2 := below_then c1 (Nat.le_refl _) hB
    clear hB c1
    go_wp2_with fail
    go_loopw [5] (fun i wr => ∃ k : Nat, 1 ≤ k ∧ k ≤ z.size + 1 ∧ i = .int .i64 k ∧ Below w.heap.size w wr) (fun i _ => z.size + 1 - (intOf i).toNat)
    case atStart => exact ⟨1, by omega, by omega, rfl, c2⟩
    case round =>
      obtain ⟨k, hk1, hk2, rfl, rb⟩ := hrel
      by_cases hlt : k ≤ z.size
      · have hA := HA.out k
        unfold autoAns at hA
        rw [crossAns_yes _ (pairB_mk HV.out HV.out rfl)] at hA
        have hH := HH.out k
        have haf := auto_full z (k : Int)
        by_cases hp : k % N = 0
        · have e1 := (HP.out k).2 hp
          rw [haf.2 e1] at hA
          rw [e1] at hH
          have HA' := Lib.hid hA
          have HH' := Lib.hid hH
          have hkn : (k : Int).tmod (N : Int) = 0 := by rw [Int.tmod_eq_emod_of_nonneg (by omega), ← Int.natCast_emod, hp]; rfl
          have hN0 : (0 : Int) < (N : Int) := by omega
          have hN3 : ¬ N = 0 := by omega
          have hN4 : ((N : Int) == 0) = false := beq_eq_false_iff_ne.2 (by omega)
          have hN5 : ¬ (N : Int) = 0 := by omega
          clear hA hH haf e1 hp
          go_wp2_with fail
          refine (HA'.out _).mono ?_
          rintro e w' ⟨rfl, hB⟩
          have c50 := below_then rb (Nat.le_refl _) hB
          clear hB rb
          go_wp2_with fail
          go_region_held3 (fun wx => Below w.heap.size w wx) (first | exact c51 | exact c50.drew) (first | (go_at_call 13; refine (HH'.out _).mono ?_; rintro e w5 ⟨rfl, hB⟩; have c51 := below_then c50.drew (Nat.le_refl _) hB))
          all_goals
            go_wp2
            go_roundw
            case rel => exact ⟨k + 1, by omega, by omega, by go_num, c51⟩
            case measure => simp [intOf]; omega
        · have e1 : ¬ shift z (k : Int) = z := fun e => hp ((HP.out k).1 e)
          have e2 : ¬ crossN z z (modN (k : Int) z.size) = z.size := fun e => e1 (haf.1 e)
          obtain ⟨c, hc⟩ : ∃ c, crossN z z (modN (k : Int) z.size) = c := ⟨_, rfl⟩
          obtain ⟨y, hy⟩ : ∃ y, shift z (k : Int) = y := ⟨_, rfl⟩
          rw [hc] at hA e2
          rw [hy] at hH e1
          have se := str_ne e1
          have sc : (c == (z.size : Int)) = false := by simp; exact e2
          obtain ⟨r, hr⟩ : ∃ r, k % N = r := ⟨_, rfl⟩
          have hkn : (k : Int).tmod (N : Int) = (r : Int) := by rw [Int.tmod_eq_emod_of_nonneg (by omega), ← Int.natCast_emod, hr]
          have hN0 : (0 : Int) < (N : Int) := by omega
          have hN3 : ¬ N = 0 := by omega
          have hN4 : ((N : Int) == 0) = false := beq_eq_false_iff_ne.2 (by omega)
          have hN5 : ¬ (N : Int) = 0 := by omega
          have sr : ((r : Int) == 0) = false := by simp; omega
          have HA' := Lib.hid hA
          have HH' := Lib.hid hH
          clear hA hH haf hc hy hr hp e1 e2
          go_wp2_with fail
          refine (HA'.out _).mono ?_
          rintro e w' ⟨rfl, hB⟩
          have c60 := below_then rb (Nat.le_refl _) hB
          clear hB rb
          go_wp2_with fail
          go_region_held3 (fun wx => Below w.heap.size w wx) (first | exact c61 | exact c60.drew) (first | (go_at_call 13; refine (HH'.out _).mono ?_; rintro e w5 ⟨rfl, hB⟩; have c61 := below_then c60.drew (Nat.le_refl _) hB))
          all_goals
            go_wp2
            go_roundw
            case rel => exact ⟨k + 1, by omega, by omega, by go_num, c61⟩
            case measure => simp [intOf]; omega
      · obtain rfl : k = z.size + 1 := by omega
        have hkn : (z.size : Int) % (N : Int) = 0 := by rw [← Int.natCast_emod, HF.out]; rfl
        go_wp2
        go_ret
        exact ⟨rfl, rb⟩
end Go.Proofs.Ytjeadndajndmhaa
