/- The walk of the law FnPolarity. -/
import Derived.Test.YtdafepfjjmdkeaaDoorFndI
import Derived.Test.YtdafepfjjmdkeaaDoorPolI
import Derived.Test.YtdafepfjjmdkeaaDoorDrawFnd
namespace Go.Proofs.YtdafepfjjmdkeaaDoor
open Go.RowKit
set_option linter.unusedVariables false
set_option maxRecDepth 100000
theorem invS_ne {z : ByteArray} (ho : okB z z.size = true) (h1 : 1 ≤ z.size) : ¬ invS z = z := fun e => by
  have h := zb_invS z 0 (by omega)
  rw [e] at h
  rcases okB_zb z ho 0 (by omega) with h2 | h2 <;> omega
set_option maxHeartbeats 1600000 in
theorem fnPolarity_walk (a0 : Option Addr) (len0 cap0 : Nat) (z0 : List Int) (w : World) (w0 : IsBytes w a0 len0 cap0 z0) (hd : DoorAt w) :
    Calls Tryd.prog 9 #[.slice a0 len0 cap0] w fun e w' => e = .returned (.bool true) ∧ Below w.heap.size w w' := by
  by_cases hl : 1048576 < len0
  · go_enter Tryd.func9, Tryd.ntmps9
    go_wp2
    go_ret
    exact ⟨rfl, Below.refl _ _⟩
  go_enter Tryd.func9, Tryd.ntmps9
  go_wp2_with fail
  refine (drawPol_any a0 len0 cap0 z0 _ w0).mono ?_
  rintro e W1 ⟨z, rfl, hz, b1⟩
  clear w0
  have HI := Lib.hid (fun w1 (b1 : Below w.heap.size w w1) => iPol_any z w1 (by omega) (hd.below b1 hd.lt))
  have HS := Lib.hid (fun w => sPol_any z w (by omega))
  have HV := Lib.hid (fun w => iInvert_any z w (by omega))
  cases hq : seqB z with
  | false =>
    rw [show invAns z = noS by unfold invAns; rw [hq]; rfl] at HV
    obtain ⟨X, hX⟩ : ∃ X, (polAns z).1 = X := ⟨_, rfl⟩
    obtain ⟨ok, hok⟩ : ∃ ok, (polAns z).2 = ok := ⟨_, rfl⟩
    simp only [hX, hok] at HI HS
    clear hX hok hd hq
    go_wp2_with fail
    refine (HI.out _ b1).mono ?_
    rintro e w' ⟨rfl, hB⟩
    have c1 := below_then b1 (Nat.le_refl _) hB
    clear hB b1
    go_wp2_with fail
    refine (HS.out _).mono ?_
    rintro e w' ⟨rfl, hB⟩
    have c2 := below_then c1 (Nat.le_refl _) hB
    clear hB c1 HI HS
    cases ok
    all_goals
      go_wp2_with fail
      refine (HV.out _).mono ?_
      rintro e w' ⟨rfl, hB⟩
      have c3 := below_then c2 (Nat.le_refl _) hB
      go_wp2
      go_ret
      exact ⟨rfl, c3⟩
  | true =>
    obtain ⟨ho, h1, h2⟩ := (seqB_iff z).1 hq
    have hb : bitsB z = true := bits_mk ho (by omega)
    rw [show invAns z = (invS z, true) by unfold invAns; rw [hq]; rfl] at HV
    have hbx := invS_bitsB hb
    have hxs := invS_size z
    have hne := invS_ne ho h1
    have hxx := invS_invS ho
    have HX := Lib.hid (fun w1 (b1 : Below w.heap.size w w1) => iPol_any (invS z) w1 (by rw [hxs]; omega) (hd.below b1 hd.lt))
    have HF := Lib.hid (fun w1 (b1 : Below w.heap.size w w1) => iFind_any z 0 w1 (by omega) (hd.below b1 hd.lt))
    have HG := Lib.hid (fun w1 (b1 : Below w.heap.size w w1) => iFind_any (invS z) 0 w1 (by rw [hxs]; omega) (hd.below b1 hd.lt))
    by_cases fz : nx z 0 < z.size
    · obtain ⟨kz, hkz⟩ := fnd0_yes hb fz
      have p1 := pol_one hb fz
      simp only [p1] at HI HS
      simp only [hkz] at HF
      by_cases fx : nx (invS z) 0 < (invS z).size
      · obtain ⟨kx, hkx⟩ := fnd0_yes hbx fx
        have p2 := pol_one hbx fx
        simp only [p2] at HX
        simp only [hkx] at HG
        obtain ⟨Y, hY⟩ : ∃ Y, invS z = Y := ⟨_, rfl⟩
        rw [hY] at HV hne
        simp only [hY] at HX HG
        clear hq ho hb hbx hxs hxx p1 p2 hkz hkx fz fx hY hd hne
        go_wp2_with fail
        refine (HI.out _ b1).mono ?_
        rintro e w' ⟨rfl, hB⟩
        have c1 := below_then b1 (Nat.le_refl _) hB
        clear hB b1
        go_wp2_with fail
        refine (HS.out _).mono ?_
        rintro e w' ⟨rfl, hB⟩
        have c2 := below_then c1 (Nat.le_refl _) hB
        clear hB c1 HI HS
        go_wp2_with fail
        refine (HV.out _).mono ?_
        rintro e w' ⟨rfl, hB⟩
        have c3 := below_then c2 (Nat.le_refl _) hB
        clear hB c2 HV
        go_wp2_with fail
        refine (HX.out _ c3).mono ?_
        rintro e w' ⟨rfl, hB⟩
        have c4 := below_then c3 (Nat.le_refl _) hB
        clear hB c3 HX
        go_wp2_with fail
        refine (HF.out _ c4).mono ?_
        rintro e w' ⟨rfl, hB⟩
        have c5 := below_then c4 (Nat.le_refl _) hB
        clear hB c4
        go_wp2_with fail
        refine (HG.out _ c5).mono ?_
        rintro e w' ⟨rfl, hB⟩
        have c6 := below_then c5 (Nat.le_refl _) hB
        clear hB c5
        go_wp2_with fail
        refine (HF.out _ c6).mono ?_
        rintro e w' ⟨rfl, hB⟩
        have c7 := below_then c6 (Nat.le_refl _) hB
        go_wp2
        go_ret
        exact ⟨rfl, c7⟩
      · have hkx := fnd0_no fx
        have p2 := pol_two hbx fx (by rw [hxx]; exact fz)
        rw [hxx] at p2
        simp only [p2] at HX
        simp only [hkx] at HG
        obtain ⟨Y, hY⟩ : ∃ Y, invS z = Y := ⟨_, rfl⟩
        rw [hY] at HV hne
        simp only [hY] at HX HG
        clear hq ho hb hbx hxs hxx p1 p2 hkz hkx fz fx hY hd hne
        go_wp2_with fail
        refine (HI.out _ b1).mono ?_
        rintro e w' ⟨rfl, hB⟩
        have c1 := below_then b1 (Nat.le_refl _) hB
        clear hB b1
        go_wp2_with fail
        refine (HS.out _).mono ?_
        rintro e w' ⟨rfl, hB⟩
        have c2 := below_then c1 (Nat.le_refl _) hB
        clear hB c1 HI HS
        go_wp2_with fail
        refine (HV.out _).mono ?_
        rintro e w' ⟨rfl, hB⟩
        have c3 := below_then c2 (Nat.le_refl _) hB
        clear hB c2 HV
        go_wp2_with fail
        refine (HX.out _ c3).mono ?_
        rintro e w' ⟨rfl, hB⟩
        have c4 := below_then c3 (Nat.le_refl _) hB
        clear hB c3 HX
        go_wp2_with fail
        refine (HF.out _ c4).mono ?_
        rintro e w' ⟨rfl, hB⟩
        have c5 := below_then c4 (Nat.le_refl _) hB
        clear hB c4
        go_wp2_with fail
        refine (HG.out _ c5).mono ?_
        rintro e w' ⟨rfl, hB⟩
        have c6 := below_then c5 (Nat.le_refl _) hB
        clear hB c5
        go_wp2_with fail
        refine (HF.out _ c6).mono ?_
        rintro e w' ⟨rfl, hB⟩
        have c7 := below_then c6 (Nat.le_refl _) hB
        go_wp2
        go_ret
        exact ⟨rfl, c7⟩
    · have hkz := fnd0_no fz
      simp only [hkz] at HF
      by_cases fx : nx (invS z) 0 < (invS z).size
      · obtain ⟨kx, hkx⟩ := fnd0_yes hbx fx
        have p1 := pol_two hb fz fx
        have p2 := pol_one hbx fx
        simp only [p1] at HI HS
        simp only [p2] at HX
        simp only [hkx] at HG
        obtain ⟨Y, hY⟩ : ∃ Y, invS z = Y := ⟨_, rfl⟩
        rw [hY] at HV hne
        simp only [hY] at HX HG HI HS
        have se := str_ne hne
        clear hq ho hb hbx hxs hxx p1 p2 hkz hkx fz fx hY hd
        go_wp2_with fail
        refine (HI.out _ b1).mono ?_
        rintro e w' ⟨rfl, hB⟩
        have c1 := below_then b1 (Nat.le_refl _) hB
        clear hB b1
        go_wp2_with fail
        refine (HS.out _).mono ?_
        rintro e w' ⟨rfl, hB⟩
        have c2 := below_then c1 (Nat.le_refl _) hB
        clear hB c1 HI HS
        go_wp2_with fail
        refine (HV.out _).mono ?_
        rintro e w' ⟨rfl, hB⟩
        have c3 := below_then c2 (Nat.le_refl _) hB
        clear hB c2 HV
        go_wp2_with fail
        refine (HX.out _ c3).mono ?_
        rintro e w' ⟨rfl, hB⟩
        have c4 := below_then c3 (Nat.le_refl _) hB
        clear hB c3 HX
        go_wp2_with fail
        refine (HF.out _ c4).mono ?_
        rintro e w' ⟨rfl, hB⟩
        have c5 := below_then c4 (Nat.le_refl _) hB
        clear hB c4
        go_wp2_with fail
        refine (HG.out _ c5).mono ?_
        rintro e w' ⟨rfl, hB⟩
        have c6 := below_then c5 (Nat.le_refl _) hB
        go_wp2
        go_ret
        exact ⟨rfl, c6⟩
      · have p1 := pol_none hb fz fx
        have p2 := pol_none hbx fx (by rw [hxx]; exact fz)
        simp only [p1] at HI HS
        simp only [p2] at HX
        obtain ⟨Y, hY⟩ : ∃ Y, invS z = Y := ⟨_, rfl⟩
        rw [hY] at HV
        simp only [hY] at HX
        clear hq ho hb hbx hxs hxx p1 p2 hkz fz fx hY hd hne HF HG
        go_wp2_with fail
        refine (HI.out _ b1).mono ?_
        rintro e w' ⟨rfl, hB⟩
        have c1 := below_then b1 (Nat.le_refl _) hB
        clear hB b1
        go_wp2_with fail
        refine (HS.out _).mono ?_
        rintro e w' ⟨rfl, hB⟩
        have c2 := below_then c1 (Nat.le_refl _) hB
        clear hB c1 HI HS
        go_wp2_with fail
        refine (HV.out _).mono ?_
        rintro e w' ⟨rfl, hB⟩
        have c3 := below_then c2 (Nat.le_refl _) hB
        clear hB c2 HV
        go_wp2_with fail
        refine (HX.out _ c3).mono ?_
        rintro e w' ⟨rfl, hB⟩
        have c4 := below_then c3 (Nat.le_refl _) hB
        clear hB c3 HX
        go_wp2
        go_ret
        exact ⟨rfl, c4⟩
end Go.Proofs.YtdafepfjjmdkeaaDoor
