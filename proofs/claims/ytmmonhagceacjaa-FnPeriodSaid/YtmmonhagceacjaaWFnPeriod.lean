/- The walk of the law FnPeriod. -/
import Derived.Test.YtmmonhagceacjaaDrawPer
import Derived.Test.YtmmonhagceacjaaOrbUse
import Derived.Test.YtmmonhagceacjaaStepR
namespace Go.Proofs.Ytmmonhagceacjaa
open Go.RowKit
set_option linter.unusedVariables false
set_option maxHeartbeats 1600000 in
set_option maxRecDepth 100000 in
theorem fnPeriod_walk (a0 : Option Addr) (len0 cap0 : Nat) (z0 : List Int) (w : World) (w0 : IsBytes w a0 len0 cap0 z0) :
    Calls Try.prog 6 #[.slice a0 len0 cap0] w fun e w' => e = .returned (.bool true) ∧ Below w.heap.size w w' := by
  by_cases hl0 : 1048576 < len0
  · go_enter Try.func6, Try.ntmps6
    go_wp2
    go_ret
    exact ⟨rfl, Below.refl _ _⟩
  go_enter Try.func6, Try.ntmps6
  go_wp2_with fail
  refine (drawPer_any a0 len0 cap0 z0 _ w0).mono ?_
  rintro e W1 ⟨S, T, X, rfl, -, -, -, bc⟩
  clear w0
  cases hv : regB S T X with
  | false =>
    have hp := fun w => iPeriodOf_no S T X w hv
    have hl := fun w => iLeadOf_no S T X w hv
    have hq := fun w => sPeriodOf_no S T X w hv
    have hm := fun w => sLeadOf_no S T X w hv
    have hi := fun w => iRegisterValid_any S T X w
    rw [hv] at hi
    clear hv
    have HP := Lib.hid hp
    have HL := Lib.hid hl
    have HQ := Lib.hid hq
    have HM := Lib.hid hm
    have HI := Lib.hid hi
    clear hp hl hq hm hi
    have hb1 := (Below.refl W1.heap.size W1).alloc (Nat.le_refl _) (.cells #[.int .i64 S, .int .i64 T, .int .i64 X] 24)
    have F2 := RegAt.new W1 24 S T X
    have b3 := below_then bc (Nat.le_refl _) hb1
    clear bc hb1
    obtain ⟨cr0, cr1, cr2, crl⟩ := id F2
    go_wp2_with fail
    clear cr0 cr1 cr2 crl
    refine (HP.out _).mono ?_
    rintro e w4 ⟨rfl, hb5⟩
    have F6 := F2.below hb5 F2.2.2.2
    clear F2
    have b7 := below_then b3 (Nat.le_refl _) hb5
    clear b3 hb5
    obtain ⟨cr0, cr1, cr2, crl⟩ := id F6
    go_wp2_with fail
    clear cr0 cr1 cr2 crl
    refine (HL.out _).mono ?_
    rintro e w8 ⟨rfl, hb9⟩
    have F10 := F6.below hb9 F6.2.2.2
    clear F6
    have b11 := below_then b7 (Nat.le_refl _) hb9
    clear b7 hb9
    obtain ⟨cr0, cr1, cr2, crl⟩ := id F10
    go_wp2_with fail
    clear cr0 cr1 cr2 crl
    refine (HQ.out _).mono ?_
    rintro e w12 ⟨rfl, hb13⟩
    have F14 := F10.below hb13 F10.2.2.2
    clear F10
    have b15 := below_then b11 (Nat.le_refl _) hb13
    clear b11 hb13
    obtain ⟨cr0, cr1, cr2, crl⟩ := id F14
    go_wp2_with fail
    clear cr0 cr1 cr2 crl
    refine (HM.out _).mono ?_
    rintro e w16 ⟨rfl, hb17⟩
    have F18 := F14.below hb17 F14.2.2.2
    clear F14
    have b19 := below_then b15 (Nat.le_refl _) hb17
    clear b15 hb17
    obtain ⟨cr0, cr1, cr2, crl⟩ := id F18
    go_wp2_with fail
    clear cr0 cr1 cr2 crl
    refine (HQ.out _).mono ?_
    rintro e w20 ⟨rfl, hb21⟩
    have F22 := F18.below hb21 F18.2.2.2
    clear F18
    have b23 := below_then b19 (Nat.le_refl _) hb21
    clear b19 hb21
    obtain ⟨cr0, cr1, cr2, crl⟩ := id F22
    go_wp2_with fail
    clear cr0 cr1 cr2 crl
    refine (HM.out _).mono ?_
    rintro e w24 ⟨rfl, hb25⟩
    have F26 := F22.below hb25 F22.2.2.2
    clear F22
    have b27 := below_then b23 (Nat.le_refl _) hb25
    clear b23 hb25
    obtain ⟨cr0, cr1, cr2, crl⟩ := id F26
    go_wp2_with fail
    clear cr0 cr1 cr2 crl
    refine (HI.out _).mono ?_
    rintro e w28 ⟨rfl, hb29⟩
    have F30 := F26.below hb29 F26.2.2.2
    clear F26
    have b31 := below_then b27 (Nat.le_refl _) hb29
    clear b27 hb29
    obtain ⟨cr0, cr1, cr2, crl⟩ := id F30
    go_wp2
    go_ret
    exact ⟨rfl, b31⟩
  | true =>
    obtain ⟨s, t, x, rfl, rfl, rfl, hR⟩ := RegN.of hv
    obtain ⟨L, P, ho, h256, hp, hl, hq, hm⟩ := orb_all hR
    have p1 := ho.pos
    have hls := ho.lead hR
    have h8 := hR.hi
    have hod := ho.odd hR
    have hcm := fun i h1 h2 => ho.comes i h1 h2
    have hlv := fun i h => ho.leaves i h
    have hj := fun w => iJump_forth s t x L w hR (by omega)
    have hst := fun j w => stepR_yes s t (stepsN s t j (stepsN s t L x)) w ((hR.steps L).steps j)
    have hst2 := fun j w => stepR_yes s t (stepsN s t j x) w (hR.steps j)
    have hj2 := fun j w => iJump_forth s t (stepsN s t j x) P w (hR.steps j) (by omega)
    have hsz : ∀ j y, stepN s t (stepsN s t j y) = stepsN s t (j + 1) y := fun j y => rfl
    have hz0 : ∀ y, stepsN s t 0 y = y := fun y => rfl
    simp only [hsz] at hst hst2
    obtain ⟨XL, hXL⟩ : ∃ y, stepsN s t L x = y := ⟨_, rfl⟩
    rw [hXL] at hj
    simp only [hXL] at hst hcm
    obtain ⟨F, hF⟩ : ∃ F : Nat → Nat, (fun j => stepsN s t j XL) = F := ⟨_, rfl⟩
    have hF1 : ∀ j, stepsN s t j XL = F j := fun j => congrFun hF j
    simp only [hF1] at hst hcm
    have hF0 : F 0 = XL := (hF1 0).symm
    obtain ⟨G, hG⟩ : ∃ G : Nat → Nat, (fun j => stepsN s t j x) = G := ⟨_, rfl⟩
    have hG1 : ∀ j, stepsN s t j x = G j := fun j => congrFun hG j
    simp only [hG1] at hst2 hj2 hlv
    have hG0 : G 0 = x := (hG1 0).symm
    have HF0 := Lib.hid hF0
    have HG0 := Lib.hid hG0
    clear hXL hF hF1 hF0 hG hG1 hG0 hsz hz0 ho hv hR
    have HP := Lib.hid hp
    have HL := Lib.hid hl
    have HQ := Lib.hid hq
    have HM := Lib.hid hm
    have HJ := Lib.hid hj
    have HST := Lib.hid hst
    have HST2 := Lib.hid hst2
    have HJ2 := Lib.hid hj2
    have HCM := Lib.hid hcm
    have HLV := Lib.hid hlv
    have HOD := Lib.hid hod
    clear hp hl hq hm hj hst hst2 hj2 hcm hlv hod
    have p0 : ¬ ((P : Int) < 0) := by omega
    have p2 : decide ((P : Int) < 0) = false := decide_eq_false p0
    have hb32 := (Below.refl W1.heap.size W1).alloc (Nat.le_refl _) (.cells #[.int .i64 s, .int .i64 t, .int .i64 x] 24)
    have F33 := RegAt.new W1 24 s t x
    have b34 := below_then bc (Nat.le_refl _) hb32
    clear bc hb32
    obtain ⟨cr0, cr1, cr2, crl⟩ := id F33
    go_wp2_with fail
    clear cr0 cr1 cr2 crl
    refine (HP.out _).mono ?_
    rintro e w35 ⟨rfl, hb36⟩
    have F37 := F33.below hb36 F33.2.2.2
    clear F33
    have b38 := below_then b34 (Nat.le_refl _) hb36
    clear b34 hb36
    obtain ⟨cr0, cr1, cr2, crl⟩ := id F37
    go_wp2_with fail
    clear cr0 cr1 cr2 crl
    refine (HL.out _).mono ?_
    rintro e w39 ⟨rfl, hb40⟩
    have F41 := F37.below hb40 F37.2.2.2
    clear F37
    have b42 := below_then b38 (Nat.le_refl _) hb40
    clear b38 hb40
    obtain ⟨cr0, cr1, cr2, crl⟩ := id F41
    go_wp2_with fail
    clear cr0 cr1 cr2 crl
    refine (HQ.out _).mono ?_
    rintro e w43 ⟨rfl, hb44⟩
    have F45 := F41.below hb44 F41.2.2.2
    clear F41
    have b46 := below_then b42 (Nat.le_refl _) hb44
    clear b42 hb44
    obtain ⟨cr0, cr1, cr2, crl⟩ := id F45
    go_wp2_with fail
    clear cr0 cr1 cr2 crl
    refine (HM.out _).mono ?_
    rintro e w47 ⟨rfl, hb48⟩
    have F49 := F45.below hb48 F45.2.2.2
    clear F45
    have b50 := below_then b46 (Nat.le_refl _) hb48
    clear b46 hb48
    obtain ⟨cr0, cr1, cr2, crl⟩ := id F49
    go_wp2_with fail
    clear cr0 cr1 cr2 crl
    refine (HJ.out _).mono ?_
    rintro e w51 ⟨rfl, hb52⟩
    have F53 := F49.below hb52 F49.2.2.2
    clear F49
    have b54 := below_then b50 (Nat.le_refl _) hb52
    clear b50 hb52
    clear HP HL HQ HM HJ
    obtain ⟨V55, hb57, F58, hV59⟩ : ∃ V, Below w51.heap.size w51 V ∧ RegAt V w51.heap.size s t XL ∧ w51.alloc (.cells #[.int .i64 s, .int .i64 t, .int .i64 XL] 24) = V := ⟨_, (Below.refl _ w51).alloc (Nat.le_refl _) _, RegAt.new w51 _ s t XL, rfl⟩
    have F61 := F53.below hb57 F53.2.2.2
    clear F53
    have b62 := below_then b54 (Nat.le_refl _) hb57
    clear b54 hb57
    obtain ⟨k56, hk60⟩ : ∃ k, w51.heap.size = k := ⟨_, rfl⟩
    rw [hk60] at F58
    obtain ⟨e63f0, e63f1, e63f2, e63fl⟩ := id F58
    obtain ⟨V64, hb66, F67, hV68⟩ : ∃ V, Below V55.heap.size V55 V ∧ BoxF V V55.heap.size s t XL ∧ V55.alloc (.cells #[.int .i64 s, .int .i64 t, .int .i64 XL] 24) = V := ⟨_, (Below.refl _ V55).alloc (Nat.le_refl _) _, BoxF.new V55 _ s t XL, rfl⟩
    have kb70 : w.heap.size ≤ V55.heap.size := b62.size
    have nl71 := F61.2.2.2
    have nl72 := F58.2.2.2
    have F73 := F61.below hb66 F61.2.2.2
    clear F61
    have F74 := F58.below hb66 F58.2.2.2
    clear F58
    have b75 := below_then b62 (Nat.le_refl _) hb66
    clear b62 hb66
    obtain ⟨k65, hk69⟩ : ∃ k, V55.heap.size = k := ⟨_, rfl⟩
    rw [hk69] at F67 kb70 nl71 nl72
    obtain ⟨cr0, cr1, cr2, crl⟩ := id F73
    obtain ⟨cf0, cf1, cf2, cfl⟩ := id F74
    obtain ⟨cx0, cx1, cx2, cxl⟩ := id F67.1
    go_wp2
    clear cr0 cr1 cr2 crl cf0 cf1 cf2 cfl cx0 cx1 cx2 cxl hV59 hk60 e63f0 e63f1 e63f2 e63fl hV68 hk69
    obtain ⟨kr, hkr⟩ : ∃ k, W1.heap.size = k := ⟨_, rfl⟩
    rw [hkr] at F73 nl71 ⊢
    clear hkr
    have nrx : kr ≠ k65 ∧ k56 ≠ k65 := ⟨by omega, by omega⟩
    go_loopw [9] (fun c wr => ∃ i : Nat, 1 ≤ i ∧ i ≤ P + 1 ∧ c = .int .i64 i ∧ RegAt wr kr s t x ∧ RegAt wr k56 s t XL ∧ BoxF wr k65 s t (F (i - 1) : Nat) ∧ Below w.heap.size w wr) (fun c _ => P + 1 - (intOf c).toNat)
    case atStart => exact ⟨1, by omega, by omega, rfl, F73, F74, by rw [show 1 - 1 = 0 from rfl, HF0.out]; exact F67, b75⟩
    case round =>
      obtain ⟨i, i1, hi, rfl, rR, rF, rX, rb⟩ := hrel
      clear F73 F74 F67 b75 HF0
      by_cases hlt : i ≤ P
      · skip
        obtain ⟨j, rfl⟩ : ∃ j, i = j + 1 := ⟨i - 1, by omega⟩
        rw [Nat.add_sub_cancel] at rX
        have hS := fun w => HST.out j w
        have hc := HCM.out (j + 1) (by omega) hlt
        obtain ⟨Y, hY⟩ : ∃ y, F j = y := ⟨_, rfl⟩
        obtain ⟨Y2, hY2⟩ : ∃ y, F (j + 1) = y := ⟨_, rfl⟩
        rw [hY] at rX
        simp only [hY] at hS
        rw [hY2] at hc
        simp only [hY2] at hS
        have HY2 := Lib.hid hY2
        have HSS := Lib.hid hS
        clear hY hY2 hS
        have ile : ((j + 1 : Nat) : Int) ≤ (P : Int) := by omega
        obtain ⟨I, hI⟩ : ∃ I, j + 1 = I := ⟨_, rfl⟩
        rw [hI] at hc i1 hi hlt ile ⊢
        have HI9 := Lib.hid hI
        clear hI
        obtain ⟨cr0, cr1, cr2, crl⟩ := id rR
        obtain ⟨cf0, cf1, cf2, cfl⟩ := id rF
        obtain ⟨cx0, cx1, cx2, cxl⟩ := id rX.1
        go_wp2_with fail
        clear cr0 cr1 cr2 crl cf0 cf1 cf2 cfl cx0 cx1 cx2 cxl
        refine (HSS.out _).mono ?_
        rintro e w76 ⟨rfl, hb77⟩
        have F78 := rR.below hb77 rR.2.2.2
        clear rR
        have F79 := rF.below hb77 rF.2.2.2
        clear rF
        have F80 := rX.below hb77 rX.lt
        clear rX
        have b81 := below_then rb (Nat.le_refl _) hb77
        clear rb hb77
        obtain ⟨g0, g1, g2⟩ : _ ∧ _ ∧ _ := ⟨F80.2 0, F80.2 1, F80.2 2⟩
        obtain ⟨V9, hV9, FB, sG, sB⟩ := F80.set s t Y2
        have F82 := F78.kept sG (by simp; exact nrx.1)
        clear F78
        have F83 := F79.kept sG (by simp; exact nrx.2)
        clear F79
        obtain ⟨m0, m1, m2, ml⟩ := id F80.1
        have b84 := sB _ _ kb70 b81
        clear F80 b81 sG sB
        by_cases he : I = P
        · skip
          rw [decide_eq_true he] at hc
          have e0 := of_decide_eq_true hc
          subst e0
          have e1 : ((I : Int) == (P : Int)) = true := by rw [he]; exact beq_self_eq_true _
          clear hc he
          obtain ⟨cr0, cr1, cr2, crl⟩ := id F82
          obtain ⟨cf0, cf1, cf2, cfl⟩ := id F83
          obtain ⟨cx0, cx1, cx2, cxl⟩ := id FB.1
          go_wp2
          go_roundw
          case rel => exact ⟨I + 1, by omega, by omega, by go_num, F82, F83, by rw [Nat.add_sub_cancel, ← HI9.out, HY2.out]; exact FB, b84⟩
          case measure => simp [intOf]; omega
        · skip
          rw [decide_eq_false he] at hc
          have e0 := of_decide_eq_false hc
          have e1 : ((I : Int) == (P : Int)) = false := beq_eq_false_iff_ne.2 (by omega)
          have e2 : ((Y2 : Int) == (XL : Int)) = false := beq_eq_false_iff_ne.2 (by omega)
          have e3 : ¬ ((Y2 : Int) = (XL : Int)) := by omega
          have e4 : ¬ ((I : Int) = (P : Int)) := by omega
          clear hc he
          obtain ⟨cr0, cr1, cr2, crl⟩ := id F82
          obtain ⟨cf0, cf1, cf2, cfl⟩ := id F83
          obtain ⟨cx0, cx1, cx2, cxl⟩ := id FB.1
          go_wp2
          go_roundw
          case rel => exact ⟨I + 1, by omega, by omega, by go_num, F82, F83, by rw [Nat.add_sub_cancel, ← HI9.out, HY2.out]; exact FB, b84⟩
          case measure => simp [intOf]; omega
      · skip
        obtain rfl : i = P + 1 := by omega
        clear rF rX HST HCM
        have ile : ¬ (((P + 1 : Nat) : Int) ≤ (P : Int)) := by omega
        obtain ⟨e85r0, e85r1, e85r2, e85rl⟩ := id rR
        obtain ⟨V86, hb88, F89, hV90⟩ : ∃ V, Below wr.heap.size wr V ∧ BoxF V wr.heap.size s t x ∧ wr.alloc (.cells #[.int .i64 s, .int .i64 t, .int .i64 x] 24) = V := ⟨_, (Below.refl _ wr).alloc (Nat.le_refl _) _, BoxF.new wr _ s t x, rfl⟩
        have kb92 : w.heap.size ≤ wr.heap.size := rb.size
        have nl93 := rR.2.2.2
        have F94 := rR.below hb88 rR.2.2.2
        clear rR
        have b95 := below_then rb (Nat.le_refl _) hb88
        clear rb hb88
        obtain ⟨k87, hk91⟩ : ∃ k, wr.heap.size = k := ⟨_, rfl⟩
        rw [hk91] at F89 kb92 nl93
        obtain ⟨cr0, cr1, cr2, crl⟩ := id F94
        obtain ⟨cy0, cy1, cy2, cyl⟩ := id F89.1
        go_wp2
        clear cr0 cr1 cr2 crl cy0 cy1 cy2 cyl e85r0 e85r1 e85r2 e85rl hV90 hk91
        have nry : kr ≠ k87 := by omega
        go_loopw [11] (fun c wr => ∃ i : Nat, i ≤ L ∧ c = .int .i64 i ∧ RegAt wr kr s t x ∧ BoxF wr k87 s t (G i : Nat) ∧ Below w.heap.size w wr) (fun c _ => L - (intOf c).toNat)
        case atStart => exact ⟨0, by omega, rfl, F94, by rw [HG0.out]; exact F89, b95⟩
        case round =>
          clear F94 F89 b95 HG0
          obtain ⟨j, hj, rfl, rR, rY, rb⟩ := hrel
          by_cases hlj : j < L
          · skip
            have i2 : (j : Int) < (L : Int) := by omega
            have hS := fun w => HST2.out j w
            have hJ := fun w => HJ2.out j w
            have hne := HLV.out j hlj
            obtain ⟨Y, hY⟩ : ∃ y, G j = y := ⟨_, rfl⟩
            obtain ⟨Y2, hY2⟩ : ∃ y, G (j + 1) = y := ⟨_, rfl⟩
            rw [hY] at rY hne
            simp only [hY] at hS hJ
            simp only [hY2] at hS
            obtain ⟨Z, hZ⟩ : ∃ y, stepsN s t P Y = y := ⟨_, rfl⟩
            rw [hZ] at hne
            simp only [hZ] at hJ
            have HY2 := Lib.hid hY2
            have HSS := Lib.hid hS
            have HJJ := Lib.hid hJ
            have e2 : ((Z : Int) == (Y : Int)) = false := beq_eq_false_iff_ne.2 (by omega)
            have e3 : ¬ ((Z : Int) = (Y : Int)) := by omega
            clear hY hY2 hS hJ hZ hne
            obtain ⟨cr0, cr1, cr2, crl⟩ := id rR
            obtain ⟨cy0, cy1, cy2, cyl⟩ := id rY.1
            go_wp2_with fail
            clear cr0 cr1 cr2 crl cy0 cy1 cy2 cyl
            refine (HJJ.out _).mono ?_
            rintro e w96 ⟨rfl, hb97⟩
            have F98 := rR.below hb97 rR.2.2.2
            clear rR
            have F99 := rY.below hb97 rY.lt
            clear rY
            have b100 := below_then rb (Nat.le_refl _) hb97
            clear rb hb97
            obtain ⟨V101, hb103, F104, hV105⟩ : ∃ V, Below w96.heap.size w96 V ∧ RegAt V w96.heap.size s t Z ∧ w96.alloc (.cells #[.int .i64 s, .int .i64 t, .int .i64 Z] 24) = V := ⟨_, (Below.refl _ w96).alloc (Nat.le_refl _) _, RegAt.new w96 _ s t Z, rfl⟩
            have F107 := F98.below hb103 F98.2.2.2
            clear F98
            have F108 := F99.below hb103 F99.lt
            clear F99
            have b109 := below_then b100 (Nat.le_refl _) hb103
            clear b100 hb103
            obtain ⟨k102, hk106⟩ : ∃ k, w96.heap.size = k := ⟨_, rfl⟩
            rw [hk106] at F104
            obtain ⟨cr0, cr1, cr2, crl⟩ := id F107
            obtain ⟨cy0, cy1, cy2, cyl⟩ := id F108.1
            obtain ⟨cz0, cz1, cz2, czl⟩ := id F104
            go_wp2_with fail
            clear cr0 cr1 cr2 crl cy0 cy1 cy2 cyl cz0 cz1 cz2 czl hV105 hk106
            refine (HSS.out _).mono ?_
            rintro e w110 ⟨rfl, hb111⟩
            have F112 := F107.below hb111 F107.2.2.2
            clear F107
            have F113 := F108.below hb111 F108.lt
            clear F108
            have F114 := F104.below hb111 F104.2.2.2
            clear F104
            have b115 := below_then b109 (Nat.le_refl _) hb111
            clear b109 hb111
            clear F114
            obtain ⟨g0, g1, g2⟩ : _ ∧ _ ∧ _ := ⟨F113.2 0, F113.2 1, F113.2 2⟩
            obtain ⟨V9, hV9, FB, sG, sB⟩ := F113.set s t Y2
            have F116 := F112.kept sG (by simp; exact nry)
            clear F112
            obtain ⟨m0, m1, m2, ml⟩ := id F113.1
            have b117 := sB _ _ kb92 b115
            clear F113 b115 sG sB
            go_wp2
            go_roundw
            case rel => exact ⟨j + 1, by omega, by go_num, F116, by rw [HY2.out]; exact FB, b117⟩
            case measure => simp [intOf]; omega
          · skip
            obtain rfl : j = L := by omega
            have q1 : (1 : Int) ≤ (P : Int) := by omega
            have q2 : (j : Int) ≤ (s : Int) := by omega
            have q3 : (0 : Int) ≤ (t : Int) := by omega
            rcases (by omega : t % 2 = 0 ∨ t % 2 = 1) with ht | ht
            · skip
              have m1 : (t : Int) % 2 = 0 := by omega
              have m2 : (t : Int).tmod 2 = 0 := by rw [Int.tmod_eq_emod_of_nonneg (by omega)]; omega
              obtain ⟨cr0, cr1, cr2, crl⟩ := id rR
              obtain ⟨cy0, cy1, cy2, cyl⟩ := id rY.1
              go_wp2
              go_ret
              exact ⟨rfl, rb⟩
            · skip
              have hz := HOD.out ht
              subst hz
              have m1 : (t : Int) % 2 = 1 := by omega
              have m2 : (t : Int).tmod 2 = 1 := by rw [Int.tmod_eq_emod_of_nonneg (by omega)]; omega
              obtain ⟨cr0, cr1, cr2, crl⟩ := id rR
              obtain ⟨cy0, cy1, cy2, cyl⟩ := id rY.1
              go_wp2
              go_ret
              exact ⟨rfl, rb⟩
end Go.Proofs.Ytmmonhagceacjaa
