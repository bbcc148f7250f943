/- The walk of the law FnRotation. -/
import Derived.Test.YtjeadndajndmhaaDraw11
import Derived.Test.YtjeadndajndmhaaSeqYes
import Derived.Test.YtjeadndajndmhaaSeqAlg2
namespace Go.Proofs.Ytjeadndajndmhaa
open Go.RowKit
set_option linter.unusedVariables false
set_option maxHeartbeats 1600000 in
set_option maxRecDepth 100000 in
theorem fnRotation_walk (a0 : Option Addr) (len0 cap0 : Nat) (z0 : List Int) (a1 : Option Addr) (len1 cap1 : Nat) (z1 : List Int) (w : World) (w0 : IsBytes w a0 len0 cap0 z0) (w1 : IsBytes w a1 len1 cap1 z1) :
    Calls Try.prog 4 #[.slice a0 len0 cap0, .slice a1 len1 cap1] w fun e w' => e = .returned (.bool true) ∧ Below w.heap.size w w' := by
  by_cases hl0 : 1048576 < len0
  · go_enter Try.func4, Try.ntmps4
    go_wp2
    go_ret
    exact ⟨rfl, Below.refl _ _⟩
  by_cases hl1 : 1048576 < len1
  · go_enter Try.func4, Try.ntmps4
    go_wp2
    go_ret
    exact ⟨rfl, Below.refl _ _⟩
  clear w1
  go_enter Try.func4, Try.ntmps4
  go_wp2_with fail
  refine (drawRot_any a0 len0 cap0 z0 _ w0).mono ?_
  rintro e W1 ⟨z, rfl, hz, b1⟩
  clear w0
  cases hv : seqB z with
  | false =>
    have hI := fun w => iRot_any z w (by omega)
    have hS := fun w => sRot_any z w (by omega)
    rw [show rotAns z = ByteArray.empty by unfold rotAns; rw [hv]; rfl] at hI hS
    have HI := Lib.hid hI
    have HS := Lib.hid hS
    clear hv hz hI hS
    go_wp2_with fail
    refine (HI.out _).mono ?_
    rintro e w' ⟨rfl, hB⟩
    have c1 := below_then b1 (Nat.le_refl _) hB
    clear hB b1
    go_wp2_with fail
    refine (HS.out _).mono ?_
    rintro e w' ⟨rfl, hB⟩
    have c2 := below_then c1 (Nat.le_refl _) hB
    clear hB c1
    go_wp2_with fail
    refine (HS.out _).mono ?_
    rintro e w' ⟨rfl, hB⟩
    have c3 := below_then c2 (Nat.le_refl _) hB
    clear hB c2
    go_wp2
    go_ret
    exact ⟨rfl, c3⟩
  | true =>
    have h12 := size_le hv
    have HI := Lib.hid (fun w => show Calls Try.prog 15 #[.string z] w fun e w' => e = .returned (.string (rotS z)) ∧ Below w.heap.size w w' from iRot_yes z w hv)
    have HS := Lib.hid (fun w => show Calls Try.prog 16 #[.string z] w fun e w' => e = .returned (.string (rotS z)) ∧ Below w.heap.size w w' from sRot_yes z w hv)
    have hxs := rotS_size z
    have hxe := rotS_rotS z (by omega)
    have hsq : seqB (rotS z) = true := by obtain ⟨i, _, hi⟩ := rotS_mem z; rw [hi]; exact seqB_shift _ hv
    have hbl : betweenN z (rotS z) < z.size := by obtain ⟨i, _, hi⟩ := rotS_mem z; exact between_lt z _ _ (by omega) hi.symm
    have HB := Lib.hid (fun w => iBetween_pair z (rotS z) w (pairB_mk hv hsq hxs.symm))
    have hba : betweenAns z (rotS z) = (((betweenN z (rotS z) : Nat) : Int), true) := by unfold betweenAns; rw [pairB_mk hv hsq hxs.symm, decide_eq_true hbl]; rfl
    rw [hba] at HB
    have hby := betweenN_yes z (rotS z) hbl
    have H1 := Lib.hid (fun w => ssShift_yes z ((betweenN z (rotS z) : Nat) : Int) w hv)
    rw [hby] at H1
    obtain ⟨m', hm'⟩ : ∃ m' : Nat, len1 % 40 = m' := ⟨_, rfl⟩
    have hmm : (len1 : Int) % 40 = (m' : Int) := by omega
    have H2 := Lib.hid (fun w => ssShift_yes z (m' : Int) w hv)
    have H3 := Lib.hid (fun w => show Calls Try.prog 15 #[.string (shift z (m' : Int))] w fun e w' => e = .returned (.string (rotS (shift z (m' : Int)))) ∧ Below w.heap.size w w' from iRot_yes (shift z (m' : Int)) w (seqB_shift _ hv))
    rw [rotS_shift z _ (by omega)] at H3
    have H4 := Lib.hid (fun w => show Calls Try.prog 15 #[.string (rotS z)] w fun e w' => e = .returned (.string (rotS (rotS z))) ∧ Below w.heap.size w w' from iRot_yes (rotS z) w hsq)
    rw [hxe] at H4
    have HH := Lib.hid (fun (k : Nat) w => ssShift_yes z (k : Int) w hv)
    have HL := Lib.hid (fun (k : Nat) => rotS_all z (k : Int) (by omega))
    obtain ⟨x, hx⟩ : ∃ x, rotS z = x := ⟨_, rfl⟩
    rw [hx] at HI HS HB H1 H3 H4 HL hxs
    obtain ⟨K, hK⟩ : ∃ K, betweenN z x = K := ⟨_, rfl⟩
    rw [hx] at hbl
    rw [hK] at H1 HB hbl
    obtain ⟨y, hy⟩ : ∃ y, shift z (m' : Int) = y := ⟨_, rfl⟩
    rw [hy] at H2 H3
    have hne : x.toList.isEmpty = false := by rw [ByteArray.toList_eq]; cases hd : x.data.toList with | nil => (have := data_size x; rw [hd] at this; simp at this; omega) | cons c l => rfl
    clear hx hK hy hv hm' hxe hsq hba hby hxs
    go_wp2_with fail
    refine (HI.out _).mono ?_
    rintro e w' ⟨rfl, hB⟩
    have c1 := below_then b1 (Nat.le_refl _) hB
    clear hB b1
    go_wp2_with fail
    refine (HS.out _).mono ?_
    rintro e w' ⟨rfl, hB⟩
    have c2 := below_then c1 (Nat.le_refl _) hB
    clear hB c1
    go_wp2_with fail
    refine (HB.out _).mono ?_
    rintro e w' ⟨rfl, hB⟩
    have c3 := below_then c2 (Nat.le_refl _) hB
    clear hB c2
    go_wp2_with fail
    go_loopw [9] (fun i wr => ∃ k : Nat, k ≤ z.size ∧ i = .int .i64 k ∧ Below w.heap.size w wr) (fun i _ => z.size - (intOf i).toNat)
    case atStart => exact ⟨0, by omega, rfl, c3⟩
    case round =>
      obtain ⟨k, hk, rfl, rb⟩ := hrel
      by_cases hlt : k < z.size
      · have hH := HH.out k
        have hL := HL.out k
        unfold strLt at hL
        obtain ⟨Y, hY⟩ : ∃ Y, shift z (k : Int) = Y := ⟨_, rfl⟩
        rw [hY] at hH hL
        have HH' := Lib.hid hH
        clear hH hY
        go_wp2_with fail
        refine (HH'.out _).mono ?_
        rintro e w' ⟨rfl, hB⟩
        have c50 := below_then rb (Nat.le_refl _) hB
        clear hB rb
        go_wp2
        go_roundw
        case rel => exact ⟨k + 1, by omega, by go_num, c50⟩
        case measure => simp [intOf]; omega
      · skip
        go_wp2_with fail
        refine (H1.out _).mono ?_
        rintro e w' ⟨rfl, hB⟩
        have c60 := below_then rb (Nat.le_refl _) hB
        clear hB rb
        go_wp2_with fail
        refine (H2.out _).mono ?_
        rintro e w' ⟨rfl, hB⟩
        have c61 := below_then c60 (Nat.le_refl _) hB
        clear hB c60
        go_wp2_with fail
        refine (H3.out _).mono ?_
        rintro e w' ⟨rfl, hB⟩
        have c62 := below_then c61 (Nat.le_refl _) hB
        clear hB c61
        go_wp2_with fail
        refine (H4.out _).mono ?_
        rintro e w' ⟨rfl, hB⟩
        have c63 := below_then c62 (Nat.le_refl _) hB
        clear hB c62
        go_wp2
        go_ret
        exact ⟨rfl, c63⟩
end Go.Proofs.Ytjeadndajndmhaa
