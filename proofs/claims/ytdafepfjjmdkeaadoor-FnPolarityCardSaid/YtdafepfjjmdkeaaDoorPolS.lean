/- FixPolarity of the model. -/
import Derived.Test.YtdafepfjjmdkeaaDoorFndS
import Derived.Test.YtdafepfjjmdkeaaDoorInvBig
namespace Go.Proofs.YtdafepfjjmdkeaaDoor
open Go.RowKit
set_option linter.unusedVariables false
set_option maxRecDepth 100000
theorem invS_bitsB {z : ByteArray} (h : bitsB z = true) : bitsB (invS z) = true := by
  obtain ⟨ho, h6⟩ := bits_of2 h
  exact bits_mk (invS_bits ho) (by rw [invS_size]; exact h6)
theorem invS_invS {z : ByteArray} (h : okB z z.size = true) : invS (invS z) = z := by
  refine ba_ext (by rw [invS_size, invS_size]) fun i hi => ?_
  rw [invS_size, invS_size] at hi
  rw [zb_invS _ i (by rw [invS_size]; exact hi), zb_invS _ i hi]
  rcases okB_zb z h i hi with e | e <;> rw [e]
/-- Bits in which a frame is found. -/
def polAns (z : ByteArray) : ByteArray × Bool :=
  if bitsB z = true ∧ nx z 0 < z.size then (z, true) else if bitsB z = true ∧ nx (invS z) 0 < (invS z).size then (invS z, true) else noS
theorem pol_no {z : ByteArray} (h : bitsB z = false) : polAns z = noS := by unfold polAns; rw [if_neg (by rw [h]; simp), if_neg (by rw [h]; simp)]
theorem pol_one {z : ByteArray} (h : bitsB z = true) (h1 : nx z 0 < z.size) : polAns z = (z, true) := by unfold polAns; rw [if_pos ⟨h, h1⟩]
theorem pol_two {z : ByteArray} (h : bitsB z = true) (h1 : ¬ nx z 0 < z.size) (h2 : nx (invS z) 0 < (invS z).size) : polAns z = (invS z, true) := by
  unfold polAns; rw [if_neg (fun hh => h1 hh.2), if_pos ⟨h, h2⟩]
theorem pol_none {z : ByteArray} (h : bitsB z = true) (h1 : ¬ nx z 0 < z.size) (h2 : ¬ nx (invS z) 0 < (invS z).size) : polAns z = noS := by
  unfold polAns; rw [if_neg (fun hh => h1 hh.2), if_neg (fun hh => h2 hh.2)]
theorem fnd0_yes {z : ByteArray} (h : bitsB z = true) (h1 : nx z 0 < z.size) : ∃ k : Nat, fndV z 0 = k := ⟨nx z 0, fndV_yes (a := 0) h h1⟩
theorem fnd0_no {z : ByteArray} (h1 : ¬ nx z 0 < z.size) : fndV z 0 = -1 := fndV_off (a := 0) (by omega)
theorem sPol_any (z : ByteArray) (w : World) (hs : z.size ≤ 1048576) :
    Calls Tryd.prog 17 #[.string z] w fun e w' => e = .returned (.tuple #[.string (polAns z).1, .bool (polAns z).2]) ∧ Below w.heap.size w w' := by
  have HF := fun w => sFind_any z 0 w hs
  have HV := Lib.hid (fun w => l1Bits_any z w (by omega))
  cases hb : bitsB z with
  | false =>
    have HX := Lib.hid (pol_no hb)
    rw [fndV_no (z := z) (k := 0) (by rw [hb]; simp)] at HF
    have HF := Lib.hid HF
    rw [hb] at HV
    clear hb
    go_enter Tryd.func17, Tryd.ntmps17
    go_wp2_with fail
    refine (HF.out _).mono ?_
    rintro e w1 ⟨rfl, hb1⟩
    go_wp2_with fail
    refine (HV.out _).mono ?_
    rintro e w2 ⟨rfl, rfl⟩
    go_wp2
    go_ret2
    exact ⟨ret_sA HX.out, hb1⟩
  | true =>
    rw [hb] at HV
    obtain ⟨ho, h6⟩ := bits_of2 hb
    by_cases h1 : nx z 0 < z.size
    · have HX := Lib.hid (pol_one hb h1)
      obtain ⟨k, hk⟩ := fnd0_yes hb h1
      rw [hk] at HF
      have HF := Lib.hid HF
      clear hb ho h1 hk
      go_enter Tryd.func17, Tryd.ntmps17
      go_wp2_with fail
      refine (HF.out _).mono ?_
      rintro e w1 ⟨rfl, hb1⟩
      go_wp2
      go_ret2
      exact ⟨ret_sA HX.out, hb1⟩
    · rw [fnd0_no h1] at HF
      have HF := Lib.hid HF
      have hbi := invS_bitsB hb
      have HI := Lib.hid (fun w => l2Invert_big z w ho (by omega))
      have his := invS_size z
      have HG := fun w => sFind_any (invS z) 0 w (by rw [his]; omega)
      by_cases h2 : nx (invS z) 0 < (invS z).size
      · have HX := Lib.hid (pol_two hb h1 h2)
        obtain ⟨k, hk⟩ := fnd0_yes hbi h2
        rw [hk] at HG
        have HG := Lib.hid HG
        obtain ⟨Y, hY⟩ : ∃ Y, invS z = Y := ⟨_, rfl⟩
        rw [hY] at HI HG HX
        clear hb ho h1 h2 hk hbi his hY
        go_enter Tryd.func17, Tryd.ntmps17
        go_wp2_with fail
        refine (HF.out _).mono ?_
        rintro e w1 ⟨rfl, hb1⟩
        go_wp2_with fail
        refine (HV.out _).mono ?_
        rintro e w2 ⟨rfl, rfl⟩
        go_wp2_with fail
        refine (HI.out _).mono ?_
        rintro e w2 ⟨rfl, hb2⟩
        have b2 := below_then hb1 (Nat.le_refl _) hb2
        clear hb1 hb2
        go_wp2_with fail
        refine (HG.out _).mono ?_
        rintro e w3 ⟨rfl, hb3⟩
        have b3 := below_then b2 (Nat.le_refl _) hb3
        clear b2 hb3
        go_wp2_with fail
        refine (HI.out _).mono ?_
        rintro e w4 ⟨rfl, hb4⟩
        have b4 := below_then b3 (Nat.le_refl _) hb4
        go_wp2
        go_ret2
        exact ⟨ret_sA HX.out, b4⟩
      · have HX := Lib.hid (pol_none hb h1 h2)
        rw [fnd0_no h2] at HG
        have HG := Lib.hid HG
        obtain ⟨Y, hY⟩ : ∃ Y, invS z = Y := ⟨_, rfl⟩
        rw [hY] at HI HG
        clear hb ho h1 h2 hbi his hY
        go_enter Tryd.func17, Tryd.ntmps17
        go_wp2_with fail
        refine (HF.out _).mono ?_
        rintro e w1 ⟨rfl, hb1⟩
        go_wp2_with fail
        refine (HV.out _).mono ?_
        rintro e w2 ⟨rfl, rfl⟩
        go_wp2_with fail
        refine (HI.out _).mono ?_
        rintro e w2 ⟨rfl, hb2⟩
        have b2 := below_then hb1 (Nat.le_refl _) hb2
        clear hb1 hb2
        go_wp2_with fail
        refine (HG.out _).mono ?_
        rintro e w3 ⟨rfl, hb3⟩
        have b3 := below_then b2 (Nat.le_refl _) hb3
        go_wp2
        go_ret2
        exact ⟨ret_sA HX.out, b3⟩
end Go.Proofs.YtdafepfjjmdkeaaDoor
