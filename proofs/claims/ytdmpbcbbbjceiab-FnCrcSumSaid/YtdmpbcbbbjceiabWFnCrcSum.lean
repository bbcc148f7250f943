/- The walk of the law FnCrcSum. -/
import Derived.Test.YtdmpbcbbbjceiabDrawFrm
import Derived.Test.YtdmpbcbbbjceiabCrcMath
import Derived.Test.YtdmpbcbbbjceiabSsStr
namespace Go.Proofs.Ytdmpbcbbbjceiab
open Go.RowKit
set_option linter.unusedVariables false
set_option maxRecDepth 100000
theorem turn_ok {z : ByteArray} (h : okB z z.size = true) : okB (revS z) (revS z).size = true := okB_of_zb _ fun i hi => by
  have hs : (revS z).size = z.size := strF_size _ _
  rw [hs] at hi
  have e : zb (revS z) i = zb z (z.size - 1 - i) := zb_strF (f := fun i => zb z (z.size - 1 - i)) hi (zb_lt _ _)
  rw [e]; exact okB_zb z h _ (by omega)
theorem mkBits {z : ByteArray} (h : okB z z.size = true) (h6 : z.size ≤ 600) : bitsB z = true := by unfold bitsB; rw [h, decide_eq_true h6]; rfl
theorem joinOk {a b : ByteArray} (ha : okB a a.size = true) (hb : okB b b.size = true) : okB (a ++ b) (a ++ b).size = true := okB_of_zb _ fun i hi => by
  rw [ByteArray.size_append] at hi
  by_cases h : i < a.size
  · rw [zb_append_left _ _ _ h]; exact okB_zb a ha i h
  · rw [zb_append_right _ _ _ (by omega) hi]; exact okB_zb b hb _ (by omega)
theorem crcOk (z : ByteArray) : okB (crcV z) (crcV z).size = true := okB_of_zb _ fun i hi => by
  rw [crcV_size] at hi
  have e1 : zb (crcV z) i = digF (crcF (zb z) z.size) 8 i := zb_strF hi (digF_lt _ _ _)
  rw [e1]; unfold digF; omega
set_option maxHeartbeats 3200000 in
theorem fnCrcSum_walk (a0 : Option Addr) (len0 cap0 : Nat) (z0 : List Int) (w : World) (w0 : IsBytes w a0 len0 cap0 z0) :
    Calls Try.prog 9 #[.slice a0 len0 cap0] w fun e w' => e = .returned (.bool true) ∧ Below w.heap.size w w' := by
  by_cases hl0 : 1048576 < len0
  · go_enter Try.func9, Try.ntmps9
    go_wp2
    go_ret
    exact ⟨rfl, Below.refl _ _⟩
  go_enter Try.func9, Try.ntmps9
  go_wp2_with fail
  refine (drawCrc_any a0 len0 cap0 z0 _ w0).mono ?_
  rintro e W1 ⟨z, rfl, hz, b1⟩
  clear w0
  have hI := fun w => iCrc_any z w (by omega)
  have hS := fun w => sCrc_any z w (by omega)
  cases hb : bitsB z with
  | false =>
    rw [crcAns_no hb] at hI hS
    have HI := Lib.hid hI
    have HS := Lib.hid hS
    clear hI hS hb
    go_wp2_with fail
    refine (HI.out _).mono ?_
    rintro e w' ⟨rfl, hB⟩
    have c1 := below_then b1 (Nat.le_refl _) hB
    clear hB b1
    go_wp2_with fail
    refine (HS.out _).mono ?_
    rintro e w' ⟨rfl, hB⟩
    have c2 := below_then c1 (Nat.le_refl _) hB
    clear hB c1
    go_wp2
    go_ret
    exact ⟨rfl, c2⟩
  | true =>
    rw [crcAns_yes hb] at hI hS
    obtain ⟨ho, h6⟩ := bits_of hb
    have hrs : (revS z).size = z.size := strF_size _ _
    have hro := turn_ok ho
    have HT := Lib.hid (fun w => ssTurned_any z w (by omega))
    have HD := Lib.hid (fun w => iCrc_any (revS z) w (by rw [hrs]; omega))
    rw [crcAns_yes (mkBits hro (by rw [hrs]; exact h6))] at HD
    have HX := Lib.hid (fun w => ssXor_any z (revS z) w ho hro hrs.symm (by omega))
    have HU := Lib.hid (fun w => iCrc_any (addS z (revS z)) w (by rw [addS_size]; omega))
    rw [crcAns_yes (mkBits (addS_ok _ _) (by rw [addS_size]; exact h6)), crcV_add ho hro hrs.symm] at HU
    have hcs := crcV_size z
    have HY := Lib.hid (fun w => ssXor_any (crcV z) (crcV (revS z)) w (crcOk _) (crcOk _) (by rw [crcV_size, crcV_size]) (by rw [crcV_size]; omega))
    have HA := Lib.hid (fun (h : z.size ≤ 592) w => show Calls Try.prog 33 #[.string (z ++ crcV z)] w fun e w' => e = .returned (.tuple #[.string ⟨#[48, 48, 48, 48, 48, 48, 48, 48]⟩, .bool true]) ∧ Below w.heap.size w w' by
      have := iCrc_any (z ++ crcV z) w (by rw [ByteArray.size_append, crcV_size]; omega)
      rw [crcAns_yes (mkBits (joinOk ho (crcOk z)) (by rw [ByteArray.size_append, crcV_size]; omega)), crcV_zero] at this
      exact this)
    obtain ⟨R, hR⟩ : ∃ R, revS z = R := ⟨_, rfl⟩
    rw [hR] at HT HD HX HU HY
    obtain ⟨C, hC⟩ : ∃ R, crcV z = R := ⟨_, rfl⟩
    rw [hC] at hI hS HU hcs HY HA
    obtain ⟨D, hD⟩ : ∃ D, crcV R = D := ⟨_, rfl⟩
    rw [hD] at HD HU HY
    obtain ⟨X, hX⟩ : ∃ G, addS z R = G := ⟨_, rfl⟩
    rw [hX] at HX HU
    obtain ⟨Y, hY⟩ : ∃ G, addS C D = G := ⟨_, rfl⟩
    rw [hY] at HU HY
    have HI := Lib.hid hI
    have HS := Lib.hid hS
    have t1 : ((C.size : Int) == 8) = true := beq_iff_eq.2 (by omega)
    have hq : z.size + C.size ≤ 9223372036854775807 := by omega
    clear hI hS hb ho hro hrs hR hC hD hX hY
    go_wp2_with fail
    refine (HI.out _).mono ?_
    rintro e w' ⟨rfl, hB⟩
    have c1 := below_then b1 (Nat.le_refl _) hB
    clear hB b1
    go_wp2_with fail
    refine (HS.out _).mono ?_
    rintro e w' ⟨rfl, hB⟩
    have c2 := below_then c1 (Nat.le_refl _) hB
    clear hB c1
    go_wp2_with fail
    refine (HT.out _).mono ?_
    rintro e w' ⟨rfl, hB⟩
    have c3 := below_then c2 (Nat.le_refl _) hB
    clear hB c2
    go_wp2_with fail
    refine (HD.out _).mono ?_
    rintro e w' ⟨rfl, hB⟩
    have c4 := below_then c3 (Nat.le_refl _) hB
    clear hB c3
    go_wp2_with fail
    refine (HX.out _).mono ?_
    rintro e w' ⟨rfl, hB⟩
    have c5 := below_then c4 (Nat.le_refl _) hB
    clear hB c4
    go_wp2_with fail
    refine (HU.out _).mono ?_
    rintro e w' ⟨rfl, hB⟩
    have c6 := below_then c5 (Nat.le_refl _) hB
    clear hB c5
    by_cases h5 : z.size ≤ 592
    · have h5' : (z.size : Int) ≤ 592 := by omega
      have HAA := Lib.hid (HA.out h5)
      clear HA h5
      go_wp2_with fail
      refine (HAA.out _).mono ?_
      rintro e w' ⟨rfl, hB⟩
      have c7 := below_then c6 (Nat.le_refl _) hB
      clear hB c6
      go_wp2_with fail
      refine (HY.out _).mono ?_
      rintro e w' ⟨rfl, hB⟩
      have c8 := below_then c7 (Nat.le_refl _) hB
      clear hB c7
      go_wp2
      go_ret
      exact ⟨rfl, c8⟩
    · have h5' : ¬ (z.size : Int) ≤ 592 := by omega
      clear HA h5
      go_wp2_with fail
      refine (HY.out _).mono ?_
      rintro e w' ⟨rfl, hB⟩
      have c8 := below_then c6 (Nat.le_refl _) hB
      clear hB c6
      go_wp2
      go_ret
      exact ⟨rfl, c8⟩
end Go.Proofs.Ytdmpbcbbbjceiab
