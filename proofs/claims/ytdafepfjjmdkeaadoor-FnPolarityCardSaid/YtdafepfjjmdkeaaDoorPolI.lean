/- FixPolarity of the program. -/
import Derived.Test.YtdafepfjjmdkeaaDoorPolS
import Derived.Test.YtdafepfjjmdkeaaDoorScan
import Derived.Test.YtdafepfjjmdkeaaDoorStrs
namespace Go.Proofs.YtdafepfjjmdkeaaDoor
open Go.RowKit
set_option linter.unusedVariables false
set_option maxRecDepth 100000
theorem fp1_any (z : ByteArray) (bx i : Nat) (w : World) (h0 : w.cell? ⟨bx, 0, none⟩ = some (.string z)) (hz : z.size ≤ 600) (hok : okB z z.size = true) (hi : i < z.size) :
    Calls Tryd.prog 35 #[.int .i64 i, .pointer (some ⟨bx, 0, none⟩)] w fun e w' => e = .returned (.int .u8 (97 - zb z i : Nat)) ∧ Below w.heap.size w w' := by
  have hb := fun w => bitSum_any (zb z i) 49 w (okB_zb z hok i hi) (.inr rfl)
  have hv : addB (zb z i) 49 = 97 - zb z i := by rcases okB_zb z hok i hi with e | e <;> rw [e] <;> rfl
  rw [hv, ← zb_at z i hi] at hb
  rw [← zb_at z i hi]
  have i0 : (0 : Int) ≤ (i : Int) := by omega
  have i1 : (i : Int) < (z.size : Int) := by omega
  obtain ⟨V, hV⟩ : ∃ V, 97 - (z[i]).toNat = V := ⟨_, rfl⟩
  rw [hV] at hb ⊢
  have HB := Lib.hid hb
  clear hb hv hok hV
  go_enter Tryd.func35, Tryd.ntmps35
  go_wp2_with fail
  first
  | (refine (HB.out _).mono ?_
     rintro e w1 ⟨rfl, rfl⟩
     go_wp2
     go_ret
     exact ⟨rfl, Below.refl _ _⟩)
  | (go_quiet ((go_at_call 36; exact quiet_same (HB.out _)))
     go_wp2
     go_ret
     exact ⟨rfl, below_drewN (Below.refl _ _) _⟩)
theorem iPol_any (z : ByteArray) (w : World) (hs : z.size ≤ 1048576) (hd : DoorAt w) :
    Calls Tryd.prog 18 #[.string z] w fun e w' => e = .returned (.tuple #[.string (polAns z).1, .bool (polAns z).2]) ∧ Below w.heap.size w w' := by
  have hv := fun w => bitsValid_any z w (by omega)
  have b0 := (Below.refl w.heap.size w).alloc (Nat.le_refl _) (.cells #[.string z] 9)
  have cs : (w.alloc (.cells #[.string z] 9)).heap.size = w.heap.size + 1 := World.size_alloc _ _
  have c0 := box_new w (.string z) 9
  cases hb : bitsB z with
  | false =>
    rw [hb] at hv
    have HX := Lib.hid (pol_no hb)
    have HV := Lib.hid hv
    clear hb hv cs c0
    go_enter Tryd.func18, Tryd.ntmps18
    go_wp2_with fail
    refine (HV.out _).mono ?_
    rintro e w1 ⟨rfl, rfl⟩
    go_wp2
    go_ret2
    exact ⟨ret_sA HX.out, b0⟩
  | true =>
    rw [hb] at hv
    have HV := Lib.hid hv
    obtain ⟨ho, h6⟩ := bits_of2 hb
    have hcall : ∀ W, W = w.alloc (.cells #[.string z] 9) → Calls Tryd.prog 34 #[.int .i64 (z.size : Nat), .func (.func 35) #[] #[.pointer (some ⟨w.heap.size, 0, none⟩)]] W
        fun e w' => e = .returned (.string (invS z)) ∧ Below W.heap.size W w' := fun W hW => by
      refine bitsOf_any z.size (fun i => 97 - zb z i) 35 _ W (by omega) (enters_of Tryd.func35 (by kernel_rfl) rfl) ?_
      intro V i hV hi
      subst hW
      exact fp1_any z w.heap.size i V (box_kept c0 (by rw [cs]; omega) hV) h6 ho hi
    have hbi := invS_bitsB hb
    have his := invS_size z
    have HS1 := Lib.hid (fun w hd => scan_any z 0 w hb (Nat.zero_le _) hd)
    have HS2 := Lib.hid (fun w hd => scan_any (invS z) 0 w hbi (Nat.zero_le _) hd)
    have HC1 := Lib.hid (fun w => clone_any z w (by omega))
    have HC2 := Lib.hid (fun w => clone_any (invS z) w (by rw [his]; omega))
    have HP1 := Lib.hid (fun h1 => pol_one hb h1)
    have HP2 := Lib.hid (fun h1 h2 => pol_two hb h1 h2)
    have HP3 := Lib.hid (fun h1 h2 => pol_none hb h1 h2)
    have HC := Lib.hid hcall
    have HD := Lib.hid hd
    obtain ⟨Y, hY⟩ : ∃ Y, invS z = Y := ⟨_, rfl⟩
    rw [hY] at HS2 HC2 HP2 HP3
    simp only [hY] at HC
    obtain ⟨A, hA⟩ : ∃ A, polAns z = A := ⟨_, rfl⟩
    rw [hA] at HP1 HP2 HP3 ⊢
    clear hY hA hb hv hcall hbi his ho
    go_enter Tryd.func18, Tryd.ntmps18
    go_wp2_with fail
    refine (HV.out _).mono ?_
    rintro e w1 ⟨rfl, rfl⟩
    go_wp2_with fail
    refine (HC.out _ rfl).mono ?_
    rintro e w1 ⟨rfl, hb1⟩
    have b1 := below_then b0 (by simp) hb1
    have c1 := box_kept c0 (by rw [cs]; omega) hb1
    clear b0 c0 hb1 cs
    have bs := b1.size
    have b2 := b1.alloc bs (.cells #[.string z, .string Y] 9)
    have d0 : (w1.alloc (.cells #[.string z, .string Y] 9)).cell? ⟨w1.heap.size, 0, none⟩ = some (.string z) := by simp
    have d1 : (w1.alloc (.cells #[.string z, .string Y] 9)).cell? ⟨w1.heap.size, 1, none⟩ = some (.string Y) := by simp
    have s2 : (w1.alloc (.cells #[.string z, .string Y] 9)).heap.size = w1.heap.size + 1 := World.size_alloc _ _
    obtain ⟨L, hL⟩ : ∃ L, w1.heap.size = L := ⟨_, rfl⟩
    rw [hL] at d0 d1 s2 bs
    have HL := Lib.hid hL
    go_wp2
    go_loopw [20] (fun i wr => ∃ k : Nat, k ≤ 2 ∧ i = .int .i64 k ∧ Hid (1 ≤ k → ¬ nx z 0 < z.size) ∧ Hid (2 ≤ k → ¬ nx Y 0 < Y.size) ∧ Below w.heap.size w wr ∧ wr.cell? ⟨L, 0, none⟩ = some (.string z) ∧ wr.cell? ⟨L, 1, none⟩ = some (.string Y) ∧ L < wr.heap.size) (fun i _ => 2 - (intOf i).toNat)
    case atStart => exact ⟨0, by omega, rfl, Lib.hid (fun h => absurd h (by omega)), Lib.hid (fun h => absurd h (by omega)), b2, d0, d1, by omega⟩
    case round =>
      clear b1 c1 b2 d0 d1 s2 HC HV
      obtain ⟨k, hk, rfl, HK1, HK2, rb, r0, r1, rl⟩ := hrel
      rcases (show k = 0 ∨ k = 1 ∨ k = 2 by omega) with k0 | k1 | k2
      · subst k0
        by_cases hf : nx z 0 < z.size
        · have HX := Lib.hid (HP1.out hf)
          have HF := Lib.hid hf
          clear hf
          go_wp2_with fail
          refine (HS1.out _ (HD.out.below rb HD.out.lt)).mono ?_
          rintro e w2 ⟨hE, _, hb2⟩
          have hE' := hE HF.out
          obtain ⟨P, hP⟩ : ∃ P, parP z (nx z 0) = P := ⟨_, rfl⟩
          obtain ⟨x, hx⟩ : ∃ x, nx z 0 = x := ⟨_, rfl⟩
          obtain ⟨E, hE2⟩ : ∃ E, endF z (nx z 0) = E := ⟨_, rfl⟩
          rw [hE2, hP, hx] at hE'
          subst hE'
          have b4 := below_then rb (Nat.le_refl _) hb2
          have b5 := b4.alloc b4.size (.cells #[.string P, .int .i64 x, .int .i64 E] 41)
          clear hE rb b4 hb2 hP hx hE2
          go_wp2_with fail
          refine (HC1.out _).mono ?_
          rintro e w3 ⟨rfl, hb3⟩
          have b6 := below_then b5 (Nat.le_refl _) hb3
          go_wp2
          go_ret2
          exact ⟨ret_sA HX.out, b6⟩
        · have HF : Hid (z.size ≤ nx z 0) := Lib.hid (by omega)
          have HF2 := Lib.hid hf
          clear hf
          go_wp2_with fail
          refine (HS1.out _ (HD.out.below rb HD.out.lt)).mono ?_
          rintro e w2 ⟨_, hE, hb2⟩
          obtain rfl := hE HF.out
          have b4 := below_then rb (Nat.le_refl _) hb2
          have b5 := b4.alloc b4.size (.cells #[.string ⟨#[]⟩, .int .i64 0, .int .i64 0] 41)
          have hW := hb2.alloc hb2.size (.cells #[.string ⟨#[]⟩, .int .i64 0, .int .i64 0] 41)
          have e0 := (hW.cell (p := ⟨L, 0, none⟩) rl).trans r0
          have e1 := (hW.cell (p := ⟨L, 1, none⟩) rl).trans r1
          have el : L < (w2.alloc (.cells #[.string ⟨#[]⟩, .int .i64 0, .int .i64 0] 41)).heap.size := Nat.lt_of_lt_of_le rl hW.size
          clear hE rb b4 hb2 hW r0 r1 rl
          go_wp2
          go_roundw
          case rel => exact ⟨1, by omega, rfl, Lib.hid (fun _ => HF2.out), Lib.hid (fun h => absurd h (by omega)), b5, e0, e1, el⟩
          case measure => simp [intOf]
      · subst k1
        by_cases hf : nx Y 0 < Y.size
        · have HX := Lib.hid (HP2.out (HK1.out (by omega)) hf)
          have HF := Lib.hid hf
          clear hf
          go_wp2_with fail
          refine (HS2.out _ (HD.out.below rb HD.out.lt)).mono ?_
          rintro e w2 ⟨hE, _, hb2⟩
          have hE' := hE HF.out
          obtain ⟨P, hP⟩ : ∃ P, parP Y (nx Y 0) = P := ⟨_, rfl⟩
          obtain ⟨x, hx⟩ : ∃ x, nx Y 0 = x := ⟨_, rfl⟩
          obtain ⟨E, hE2⟩ : ∃ E, endF Y (nx Y 0) = E := ⟨_, rfl⟩
          rw [hE2, hP, hx] at hE'
          subst hE'
          have b4 := below_then rb (Nat.le_refl _) hb2
          have b5 := b4.alloc b4.size (.cells #[.string P, .int .i64 x, .int .i64 E] 41)
          clear hE rb b4 hb2 hP hx hE2
          go_wp2_with fail
          refine (HC2.out _).mono ?_
          rintro e w3 ⟨rfl, hb3⟩
          have b6 := below_then b5 (Nat.le_refl _) hb3
          go_wp2
          go_ret2
          exact ⟨ret_sA HX.out, b6⟩
        · have HF : Hid (Y.size ≤ nx Y 0) := Lib.hid (by omega)
          have HF2 := Lib.hid hf
          clear hf
          go_wp2_with fail
          refine (HS2.out _ (HD.out.below rb HD.out.lt)).mono ?_
          rintro e w2 ⟨_, hE, hb2⟩
          obtain rfl := hE HF.out
          have b4 := below_then rb (Nat.le_refl _) hb2
          have b5 := b4.alloc b4.size (.cells #[.string ⟨#[]⟩, .int .i64 0, .int .i64 0] 41)
          have hW := hb2.alloc hb2.size (.cells #[.string ⟨#[]⟩, .int .i64 0, .int .i64 0] 41)
          have e0 := (hW.cell (p := ⟨L, 0, none⟩) rl).trans r0
          have e1 := (hW.cell (p := ⟨L, 1, none⟩) rl).trans r1
          have el : L < (w2.alloc (.cells #[.string ⟨#[]⟩, .int .i64 0, .int .i64 0] 41)).heap.size := Nat.lt_of_lt_of_le rl hW.size
          clear hE rb b4 hb2 hW r0 r1 rl
          go_wp2
          go_roundw
          case rel => exact ⟨2, by omega, rfl, Lib.hid (fun _ => HK1.out (by omega)), Lib.hid (fun h => HF2.out), b5, e0, e1, el⟩
          case measure => simp [intOf]
      · subst k2
        have HX := Lib.hid (HP3.out (HK1.out (by omega)) (HK2.out (by omega)))
        go_wp2
        go_ret2
        exact ⟨ret_sA HX.out, rb⟩
end Go.Proofs.YtdafepfjjmdkeaaDoor
