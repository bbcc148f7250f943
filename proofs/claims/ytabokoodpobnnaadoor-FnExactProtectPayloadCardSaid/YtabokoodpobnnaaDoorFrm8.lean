/- ScrambleBits, of both sides. -/
import Derived.Test.YtabokoodpobnnaaDoorRunBoth
import Derived.Test.YtabokoodpobnnaaDoorFrm2
import Derived.Test.YtabokoodpobnnaaDoorFrm0
namespace Go.Proofs.YtabokoodpobnnaaDoor
open Go.RowKit Go.Shelf
set_option linter.unusedVariables false
set_option maxRecDepth 100000
theorem runS_ok (s t x n : Nat) : okB (runS s t x n) (runS s t x n).size = true := okB_of_zb _ fun i hi => by
  rw [runS_size] at hi
  unfold runS
  rw [zb_strF hi (by omega)]
  omega
/-- The answer of ScrambleBits. -/
def scrAns (z : ByteArray) (S T X : Int) : ByteArray × Bool := if bitsB z = true ∧ regB S T X = true then (addS z (runS S.toNat T.toNat X.toNat z.size), true) else noS
theorem scr_no {z : ByteArray} {S T X : Int} (h : ¬ (bitsB z = true ∧ regB S T X = true)) : scrAns z S T X = noS := by unfold scrAns; rw [if_neg h]
theorem scr_yes {z : ByteArray} {s t x : Nat} (h : bitsB z = true) (hR : RegN s t x) : scrAns z s t x = (addS z (runS s t x z.size), true) := by unfold scrAns; rw [if_pos ⟨h, hR.valid⟩]; rfl
theorem scr1_any (z y : ByteArray) (bx bk i : Nat) (w : World) (h0 : w.cell? ⟨bx, 0, none⟩ = some (.string z)) (h1 : w.cell? ⟨bk, 0, none⟩ = some (.string y)) (hz : okB z z.size = true) (hy : okB y y.size = true) (hs : z.size = y.size) (hi : i < z.size) :
    Calls Tryd.prog 81 #[.int .i64 i, .pointer (some ⟨bx, 0, none⟩), .pointer (some ⟨bk, 0, none⟩)] w fun e w' => e = .returned (.int .u8 (addB (zb z i) (zb y i) : Nat)) ∧ Below w.heap.size w w' := by
  have hiy : i < y.size := by omega
  have hb := fun w => bitSum_any (zb z i) (zb y i) w (okB_zb z hz i hi) (okB_zb y hy i hiy)
  obtain ⟨V, hV⟩ : ∃ V, addB (zb z i) (zb y i) = V := ⟨_, rfl⟩
  rw [hV, ← zb_at z i hi, ← zb_at y i hiy] at hb
  rw [hV]
  have i0 : (0 : Int) ≤ (i : Int) := by omega
  have i1 : (i : Int) < (z.size : Int) := by omega
  have i2 : (i : Int) < (y.size : Int) := by omega
  have HB := Lib.hid hb
  clear hb hV hz hy hs
  go_enter Tryd.func81, Tryd.ntmps81
  go_wp2_with fail
  go_quiet ((go_at_call 53; exact quiet_same (HB.out _)))
  go_wp2
  go_ret
  exact ⟨rfl, below_drewN (Below.refl _ _) _⟩
theorem iScr_any (z : ByteArray) (S T X : Int) (w : World) (hs : z.size ≤ 1048576) :
    Calls Tryd.prog 37 #[.string z, .agg #[.int .i64 S, .int .i64 T, .int .i64 X]] w fun e w' => e = .returned (.tuple #[.string (scrAns z S T X).1, .bool (scrAns z S T X).2]) ∧ Below w.heap.size w w' := by
  have HR := Lib.hid (fun w => iRun_any S T X (z.size : Int) w)
  have s1 : (w.alloc (.cells #[.string z] 9)).heap.size = w.heap.size + 1 := World.size_alloc _ _
  have s2 : ((w.alloc (.cells #[.string z] 9)).alloc (.cells #[.int .i64 S, .int .i64 T, .int .i64 X] 26)).heap.size = w.heap.size + 1 + 1 := by rw [World.size_alloc, s1]
  have b0 := ((Below.refl w.heap.size w).alloc (Nat.le_refl _) (.cells #[.string z] 9)).alloc (by omega) (.cells #[.int .i64 S, .int .i64 T, .int .i64 X] 26)
  have c0 := box_old (box_new w (.string z) 9) (by omega) (.cells #[.int .i64 S, .int .i64 T, .int .i64 X] 26)
  obtain ⟨W0, hW0⟩ : ∃ W, (w.alloc (.cells #[.string z] 9)).alloc (.cells #[.int .i64 S, .int .i64 T, .int .i64 X] 26) = W := ⟨_, rfl⟩
  rw [hW0] at b0 c0 s2
  have HW0 := Lib.hid hW0
  clear hW0 s1
  by_cases hr : regB S T X = true ∧ z.size ≤ 600
  · obtain ⟨s, t, x, rfl, rfl, rfl, hR⟩ := RegN.of hr.1
    rw [runAns_yes hR hr.2] at HR
    have HV := Lib.hid (fun w => bitsValid_any z w (by omega))
    cases hb : bitsB z with
    | false =>
      have HX := Lib.hid (scr_no (z := z) (S := s) (T := t) (X := x) (by rw [hb]; simp))
      rw [hb] at HV
      obtain ⟨K, hK⟩ : ∃ K, runS s t x z.size = K := ⟨_, rfl⟩
      rw [hK] at HR
      clear hK hb hr hR
      go_enter Tryd.func37, Tryd.ntmps37
      go_wp2_with fail
      rw [HW0.out]
      refine (HR.out _).mono ?_
      rintro e w1 ⟨rfl, hb1⟩
      have b1 := below_then b0 (by omega) hb1
      have c1 := box_kept c0 (by omega) hb1
      have hsz := hb1.size
      have c2 := box_old c1 (by omega) (.cells #[.string K] 9)
      have b2 := b1.alloc b1.size (.cells #[.string K] 9)
      clear hb1
      go_wp2_with fail
      refine (HV.out _).mono ?_
      rintro e w2 ⟨rfl, rfl⟩
      go_wp2
      go_ret2
      exact ⟨ret_sA HX.out, b2⟩
    | true =>
      have HX := Lib.hid (scr_yes hb hR)
      rw [hb] at HV
      have hy := runS_ok s t x z.size
      have hys := runS_size s t x z.size
      obtain ⟨K, hK⟩ : ∃ K, runS s t x z.size = K := ⟨_, rfl⟩
      rw [hK] at HR HX hy hys
      have HO := Lib.hid (bits_of2 hb).1
      have HY := Lib.hid hy
      clear hK hb hR hy
      go_enter Tryd.func37, Tryd.ntmps37
      go_wp2_with fail
      rw [HW0.out]
      refine (HR.out _).mono ?_
      rintro e w1 ⟨rfl, hb1⟩
      have b1 := below_then b0 (by omega) hb1
      have c1 := box_kept c0 (by omega) hb1
      have hsz := hb1.size
      have c2 := box_old c1 (by omega) (.cells #[.string K] 9)
      have c3 := box_new w1 (.string K) 9
      have b2 := b1.alloc b1.size (.cells #[.string K] 9)
      have s3 : (w1.alloc (.cells #[.string K] 9)).heap.size = w1.heap.size + 1 := World.size_alloc _ _
      have hcall : ∀ W, W = w1.alloc (.cells #[.string K] 9) → Calls Tryd.prog 80 #[.int .i64 z.size, .func (.func 81) #[] #[.pointer (some ⟨w.heap.size, 0, none⟩), .pointer (some ⟨w1.heap.size, 0, none⟩)]] W
          fun e w' => e = .returned (.string (addS z K)) ∧ Below W.heap.size W w' := fun W hW => by
        refine bitsOf_any z.size (fun i => addB (zb z i) (zb K i)) 81 _ W (by omega) (enters_of Tryd.func81 (by kernel_rfl) rfl) ?_
        intro V i hV hi
        subst hW
        exact scr1_any z K w.heap.size w1.heap.size i V (box_kept c2 (by omega) hV) (box_kept c3 (by omega) hV) HO.out HY.out hys.symm hi
      have HC := Lib.hid hcall
      clear hb1 hcall c3
      go_wp2_with fail
      refine (HV.out _).mono ?_
      rintro e w2 ⟨rfl, rfl⟩
      go_wp2_with fail
      refine (HC.out _ rfl).mono ?_
      rintro e w3 ⟨rfl, hb3⟩
      have b3 := below_then b2 (by omega) hb3
      clear hb3
      go_wp2
      go_ret2
      exact ⟨ret_sA HX.out, b3⟩
  · have HX := Lib.hid (scr_no (z := z) (S := S) (T := T) (X := X) (fun h => hr ⟨h.2, (bits_of2 h.1).2⟩))
    rw [runAns_no (fun h => hr ⟨h.1, by omega⟩)] at HR
    clear hr
    go_enter Tryd.func37, Tryd.ntmps37
    go_wp2_with fail
    rw [HW0.out]
    refine (HR.out _).mono ?_
    rintro e w1 ⟨rfl, hb1⟩
    have b1 := below_then b0 (by omega) hb1
    have b2 := b1.alloc b1.size (.cells #[.string ByteArray.empty] 9)
    clear hb1
    go_wp2
    go_ret2
    exact ⟨ret_sA HX.out, b2⟩
theorem sreg_valid (S T X : Int) (b : Bool) (w : World) (h : regB S T X = b) :
    Calls Tryd.prog 24 #[.agg #[.int .i64 S, .int .i64 T, .int .i64 X]] w fun e w' => e = .returned (.bool b) ∧ Below w.heap.size w w' := by
  rw [← h]; exact sRegisterValid_any _ _ _ w
theorem sScr_any (z : ByteArray) (S T X : Int) (w : World) (hs : z.size ≤ 1048576) :
    Calls Tryd.prog 26 #[.string z, .agg #[.int .i64 S, .int .i64 T, .int .i64 X]] w fun e w' => e = .returned (.tuple #[.string (scrAns z S T X).1, .bool (scrAns z S T X).2]) ∧ Below w.heap.size w w' := by
  have b0 : Below w.heap.size w (w.alloc (.cells #[.int .i64 S, .int .i64 T, .int .i64 X] 26)) := (Below.refl _ _).alloc (Nat.le_refl _) _
  have r0 := RegAt.new w 26 S T X
  have HV := Lib.hid (fun w => l1Bits_any z w (by omega))
  cases hb : bitsB z with
  | false =>
    have HX := Lib.hid (scr_no (z := z) (S := S) (T := T) (X := X) (by rw [hb]; simp))
    rw [hb] at HV
    clear hb
    go_enter Tryd.func26, Tryd.ntmps26
    go_wp2_with fail
    refine (HV.out _).mono ?_
    rintro e w1 ⟨rfl, rfl⟩
    go_wp2
    go_ret2
    exact ⟨ret_sA HX.out, b0⟩
  | true =>
    rw [hb] at HV
    obtain ⟨ho, h6⟩ := bits_of2 hb
    cases hv : regB S T X with
    | false =>
      have HX := Lib.hid (scr_no (z := z) (S := S) (T := T) (X := X) (by rw [hv]; simp))
      have HG := Lib.hid (fun w => sreg_valid S T X false w hv)
      obtain ⟨c0, c1, c2, cl⟩ := id r0
      clear hb hv r0
      go_enter Tryd.func26, Tryd.ntmps26
      go_wp2_with fail
      refine (HV.out _).mono ?_
      rintro e w1 ⟨rfl, rfl⟩
      go_wp2_with fail
      refine (HG.out _).mono ?_
      rintro e w1 ⟨rfl, hb1⟩
      have b1 := below_then b0 (Nat.le_refl _) hb1
      clear hb1 b0 c0 c1 c2 cl
      go_wp2
      go_ret2
      exact ⟨ret_sA HX.out, b1⟩
    | true =>
      have HG := Lib.hid (fun w => sreg_valid S T X true w hv)
      obtain ⟨s, t, x, rfl, rfl, rfl, hR⟩ := RegN.of hv
      have HX := Lib.hid (scr_yes hb hR)
      have HL := Lib.hid (fun w => l1Run_any s t x z.size w hR (by omega))
      have HA := Lib.hid (fun w => l2Add_big z (runS s t x z.size) w ho (runS_ok _ _ _ _) (runS_size _ _ _ _).symm (by omega))
      obtain ⟨K, hK⟩ : ∃ K, runS s t x z.size = K := ⟨_, rfl⟩
      rw [hK] at HL HX HA
      obtain ⟨c0, c1, c2, cl⟩ := id r0
      clear hb hv hR hK ho
      go_enter Tryd.func26, Tryd.ntmps26
      go_wp2_with fail
      refine (HV.out _).mono ?_
      rintro e w1 ⟨rfl, rfl⟩
      go_wp2_with fail
      refine (HG.out _).mono ?_
      rintro e w1 ⟨rfl, hb1⟩
      have b1 := below_then b0 (Nat.le_refl _) hb1
      clear c0 c1 c2 cl
      obtain ⟨c0, c1, c2, cl⟩ := r0.below hb1 (by simp)
      clear hb1 b0 r0
      go_wp2_with fail
      refine (HL.out _).mono ?_
      rintro e w2 ⟨rfl, hb2⟩
      have b2 := below_then b1 (Nat.le_refl _) hb2
      clear hb2 b1 c0 c1 c2 cl
      go_wp2_with fail
      refine (HA.out _).mono ?_
      rintro e w3 ⟨rfl, hb3⟩
      have b3 := below_then b2 (Nat.le_refl _) hb3
      clear hb3 b2
      go_wp2
      go_ret2
      exact ⟨ret_sA HX.out, b3⟩
end Go.Proofs.YtabokoodpobnnaaDoor
