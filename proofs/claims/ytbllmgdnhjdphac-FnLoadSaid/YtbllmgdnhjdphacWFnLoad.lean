/- The walk of the law FnLoad. -/
import Derived.Test.YtbllmgdnhjdphacDrawHop2
import Derived.Test.YtbllmgdnhjdphacHopLaw
import Derived.Test.YtbllmgdnhjdphacHopLaw2
namespace Go.Proofs.Ytbllmgdnhjdphac
open Go.RowKit
set_option linter.unusedVariables false
set_option maxHeartbeats 3200000 in
set_option maxRecDepth 100000 in
theorem fnLoad_walk (a0 : Option Addr) (len0 cap0 : Nat) (z0 : List Int) (w : World) (w0 : IsBytes w a0 len0 cap0 z0) :
    Calls Try.prog 4 #[.slice a0 len0 cap0] w fun e w' => e = .returned (.bool true) ∧ Below w.heap.size w w' := by
  by_cases hl0 : 1048576 < len0
  · go_enter Try.func4, Try.ntmps4
    go_wp2
    go_ret
    exact ⟨rfl, Below.refl _ _⟩
  go_enter Try.func4, Try.ntmps4
  go_wp2_with fail
  refine (drawLoad_any a0 len0 cap0 z0 _ w0).mono ?_
  rintro e W1 ⟨v, n, f, C, rfl, O0, hn, hf, hC, bc⟩
  clear w0
  obtain ⟨sa, sc, rfl, -⟩ := O0.form
  clear hf
  cases hv : hopB n f C with
  | false =>
    have hi := fun w h => iLoad_any (.slice sa n sc) n f C w h (by omega)
    have hs := fun w h => sLoad_any (.slice sa n sc) n f C w h (by omega)
    have hp := fun w h => iHops_any (.slice sa n sc) n f C w h (by omega)
    rw [ldN_no hv] at hi hs
    rw [hv] at hp
    clear hv hC
    have HI := Lib.hid hi
    have HS := Lib.hid hs
    have HP := Lib.hid hp
    clear hi hs hp
    go_wp2_with fail
    refine (HI.out _ O0.ints).mono ?_
    rintro e w101 ⟨v1, rfl, O103, hb102⟩
    have O104 := O0.below hb102
    clear O0
    have b105 := below_then bc (Nat.le_refl _) hb102
    clear bc
    have bc := b105
    clear b105 hb102
    obtain ⟨sa106, sc106, rfl, -⟩ := O103.form
    go_wp2_with fail
    refine (HS.out _ O104.ints).mono ?_
    rintro e w107 ⟨v2, rfl, O109, hb108⟩
    have O110 := O104.below hb108
    clear O104
    have O111 := O103.below hb108
    clear O103
    have b112 := below_then bc (Nat.le_refl _) hb108
    clear bc
    have bc := b112
    clear b112 hb108
    go_wp2_with fail
    refine (ssInts_same _ _ _ _ 0 _ _ O111 O109 (by omega)).mono ?_
    rintro e w' ⟨rfl, m113, rfl⟩
    have O115 := O110.drewN m113
    clear O110
    have O116 := O111.drewN m113
    clear O111
    have O117 := O109.drewN m113
    clear O109
    have bd := below_drewN bc m113
    clear bc
    have bc := bd
    clear bd
    obtain ⟨w114, hW⟩ : ∃ W, w107.drewN m113 = W := ⟨_, rfl⟩
    rw [hW] at O115 O116 O117 bc ⊢
    clear hW
    clear O117
    go_wp2_with fail
    refine (HS.out _ O115.ints).mono ?_
    rintro e w118 ⟨v3, rfl, O120, hb119⟩
    have O121 := O115.below hb119
    clear O115
    have O122 := O116.below hb119
    clear O116
    have b123 := below_then bc (Nat.le_refl _) hb119
    clear bc
    have bc := b123
    clear b123 hb119
    go_wp2_with fail
    refine (ssInts_same _ _ _ _ 0 _ _ O122 O120 (by omega)).mono ?_
    rintro e w' ⟨rfl, m124, rfl⟩
    have O126 := O121.drewN m124
    clear O121
    have O127 := O122.drewN m124
    clear O122
    have O128 := O120.drewN m124
    clear O120
    have bd := below_drewN bc m124
    clear bc
    have bc := bd
    clear bd
    obtain ⟨w125, hW⟩ : ∃ W, w118.drewN m124 = W := ⟨_, rfl⟩
    rw [hW] at O126 O127 O128 bc ⊢
    clear hW
    go_wp2_with fail
    refine (HP.out _ O126.ints).mono ?_
    rintro e w' ⟨rfl, rfl⟩
    go_wp2
    go_ret
    exact ⟨rfl, bc⟩
  | true =>
    obtain ⟨c, rfl⟩ : ∃ c : Nat, C = c := ⟨C.toNat, by have := (hopB_iff _ _ _).1 hv; omega⟩
    obtain ⟨e1, ⟨b1, b2, b3⟩, e2, e3, e4, e5, e6, e7, e8⟩ := ld_facts hv
    have hi := fun w h => iLoad_any (.slice sa n sc) n f c w h (by omega)
    have hs := fun w h => sLoad_any (.slice sa n sc) n f c w h (by omega)
    have hm := fun w h => iMove_any (.slice sa n sc) n f c 1 w h (by omega)
    have hl := fun u w h => iLoad_any u n (mvF f c 1) c w h (by omega)
    have hj := fun u (j : Nat) w h1 h2 => iJm_any (.slice sa n sc) n f u 2 (fun _ => (j : Int)) w h1 (by omega) h2 (by omega)
    rw [e1] at hi hs
    rw [e2, e3] at hm
    rw [e4] at hl
    have EB := Lib.hid (smN_bd (fun q => e8 (q : Int)) )
    have E8 := Lib.hid (fun q : Nat => e8 (q : Int))
    have E6 := Lib.hid e6
    have E7 := Lib.hid e7
    have E5 := Lib.hid e5
    obtain ⟨X, hX⟩ : ∃ X, mvF f c 1 = X := ⟨_, rfl⟩
    rw [hX] at hm hl E6
    clear hX e1 e2 e3 e4 e5 e6 e7 e8 hv hC
    have l0 : ¬ ((c : Int) = 0) := by omega
    have l1 : ((c : Int) == 0) = false := by simp; omega
    have l2 : ¬ (c = 0) := by omega
    have HI := Lib.hid hi
    have HS := Lib.hid hs
    have HM := Lib.hid hm
    have HL := Lib.hid hl
    have HJ := Lib.hid hj
    clear hi hs hm hl hj
    go_wp2_with fail
    refine (HI.out _ O0.ints).mono ?_
    rintro e w101 ⟨v1, rfl, O103, hb102⟩
    have O104 := O0.below hb102
    clear O0
    have b105 := below_then bc (Nat.le_refl _) hb102
    clear bc
    have bc := b105
    clear b105 hb102
    obtain ⟨sa106, sc106, rfl, -⟩ := O103.form
    go_wp2_with fail
    refine (HS.out _ O104.ints).mono ?_
    rintro e w107 ⟨v2, rfl, O109, hb108⟩
    have O110 := O104.below hb108
    clear O104
    have O111 := O103.below hb108
    clear O103
    have b112 := below_then bc (Nat.le_refl _) hb108
    clear bc
    have bc := b112
    clear b112 hb108
    go_wp2_with fail
    refine (ssInts_same _ _ _ _ c _ _ O111 O109 (by omega)).mono ?_
    rintro e w' ⟨rfl, m113, rfl⟩
    have O115 := O110.drewN m113
    clear O110
    have O116 := O111.drewN m113
    clear O111
    have O117 := O109.drewN m113
    clear O109
    have bd := below_drewN bc m113
    clear bc
    have bc := bd
    clear bd
    obtain ⟨w114, hW⟩ : ∃ W, w107.drewN m113 = W := ⟨_, rfl⟩
    rw [hW] at O115 O116 O117 bc ⊢
    clear hW
    clear O117
    go_wp2
    go_loopw [6, 7] (fun s i wr => ∃ j m : Nat, j ≤ c ∧ s = .int .i64 (m : Nat) ∧ i = .int .i64 j ∧ Hid (smN (fun q => ldC f (q : Int) n) j = m) ∧ Below w114.heap.size w114 wr) (fun _ i _ => c - (intOf i).toNat)
    case atStart => exact ⟨0, 0, Nat.zero_le _, rfl, rfl, Lib.hid rfl, Below.refl _ _⟩
    case round =>
      obtain ⟨j, m, hj, rfl, rfl, r2, rb⟩ := hrel
      by_cases hlt : j < c
      · skip
        have i0 : (0 : Int) ≤ (j : Int) := by omega
        have i1 : (j : Int) < (c : Int) := by omega
        have O318 := O115.below rb
        clear O115
        have O319 := O116.below rb
        clear O116
        obtain ⟨x1, rfl, -, c1⟩ := (O319.ints.cells) j hlt
        replace c1 : wr.cell? (x1.add j) = some (.int .i64 (ldC f (j : Int) n : Nat)) := c1
        have B1 := Lib.hid ((Below.refl wr.heap.size wr).alloc (Nat.le_refl _) (.cells #[.int .i64 (j : Int), .int .i64 (j : Int)] 3)).drew
        have hq := HJ.out (.slice (some ⟨wr.heap.size, 0, none⟩) 2 2) j _ (O318.below B1.out).ints ((pair7 wr (j : Int)).below (Below.refl _ _).drew).ints
        rw [E5.out j hlt] at hq
        have hL := E8.out j
        have hS := EB.out j
        have hN := smN_next (fun q => ldC f (q : Int) n) j
        rw [r2.out] at hS hN
        obtain ⟨L, hL2⟩ : ∃ L, ldC f (j : Int) n = L := ⟨_, rfl⟩
        rw [hL2] at c1 hq hL
        have nS : Hid (smN (fun q => ldC f (q : Int) n) (j + 1) = m + L) := Lib.hid (by rw [hN]; show m + ldC f (j : Int) n = m + L; rw [hL2])
        have hmb : m ≤ 4800 := Nat.le_trans hS (Nat.mul_le_mul (show j ≤ 16 by omega) b3)
        have RB := Lib.hid rb
        have HQ := Lib.hid hq
        clear rb hq hS hN hL2 r2 O318 O319
        have c1' : (wr.alloc (.cells #[.int .i64 (j : Int), .int .i64 (j : Int)] 3)).drew.cell? (x1.add j) = some (.int .i64 L) := (B1.out.cell (p := x1.add j) (World.block_lt_of_cell? _ _ c1)).trans c1
        have B0 := Lib.hid (Below.refl wr.heap.size wr)
        have c0' : wr.drew.cell? (x1.add j) = some (.int .i64 L) := c1
        go_wp2_with fail
        go_region_held3 (fun wx => Below wr.heap.size wr wx ∧ wx.cell? (x1.add j) = some (.int .i64 L)) (first | exact ⟨k1, (k1.cell (p := x1.add j) (World.block_lt_of_cell? _ _ c1)).trans c1⟩ | exact ⟨B1.out, c1'⟩ | exact ⟨B0.out.drew, c0'⟩) (first
          | (go_at_call 17; refine HQ.out.mono ?_; rintro e w5 ⟨rfl, hb5⟩; have k1 := below_then B1.out (Nat.le_refl _) hb5; clear hb5))
        have b6 := below_then RB.out (Nat.le_refl _) k1
        go_wp2
        go_roundw
        case rel => exact ⟨j + 1, m + L, by omega, by go_num, by go_num, nS, b6⟩
        case measure => simp [intOf]; omega
      · skip
        obtain rfl : c = j := by omega
        have O368 := O115.below rb
        clear O115
        have O369 := O116.below rb
        clear O116
        have bd := below_then bc (Nat.le_refl _) rb
        clear bc rb
        have bc := bd
        clear bd
        obtain rfl : m = n := r2.out.symm.trans E7.out
        clear r2
        go_wp2_with fail
        refine (HM.out _ O368.ints).mono ?_
        rintro e w370 ⟨v4, rfl, O372, hb371⟩
        have O373 := O368.below hb371
        clear O368
        have O374 := O369.below hb371
        clear O369
        have b375 := below_then bc (Nat.le_refl _) hb371
        clear bc
        have bc := b375
        clear b375 hb371
        obtain ⟨sa376, sc376, rfl, -⟩ := O372.form
        go_wp2_with fail
        refine (HL.out _ _ O372.ints).mono ?_
        rintro e w377 ⟨v5, rfl, O379, hb378⟩
        have O380 := O373.below hb378
        clear O373
        have O381 := O374.below hb378
        clear O374
        have O382 := O372.below hb378
        clear O372
        have b383 := below_then bc (Nat.le_refl _) hb378
        clear bc
        have bc := b383
        clear b383 hb378
        obtain ⟨sa384, sc384, rfl, -⟩ := O379.form
        clear O382
        go_wp2
        go_loopw [11] (fun i wr => ∃ j : Nat, j ≤ c ∧ i = .int .i64 j ∧ Below w377.heap.size w377 wr) (fun  i _ => c - (intOf i).toNat)
        case atStart => exact ⟨0, Nat.zero_le _, rfl, Below.refl _ _⟩
        case round =>
          obtain ⟨j, hj, rfl, rb⟩ := hrel
          by_cases hlt : j < c
          · skip
            have i0 : (0 : Int) ≤ (j : Int) := by omega
            have i1 : (j : Int) < (c : Int) := by omega
            have O585 := O380.below rb
            clear O380
            have O586 := O381.below rb
            clear O381
            have O587 := O379.below rb
            clear O379
            obtain ⟨R, hR⟩ : ∃ R, (j + 1) % c = R := ⟨_, rfl⟩
            have hR2 : R < c := by rw [← hR]; exact Nat.mod_lt _ (by omega)
            have hE := E6.out j hlt
            rw [hR] at hE
            obtain ⟨x1, rfl, -, c1⟩ := (O586.ints.cells) j hlt
            obtain ⟨x2, rfl, -, c2⟩ := (O587.ints.cells) R hR2
            replace c1 : wr.cell? (x1.add j) = some (.int .i64 (ldC f (j : Int) m : Nat)) := c1
            rw [hE] at c2
            obtain ⟨L, hL⟩ : ∃ L, ldC f (j : Int) m = L := ⟨_, rfl⟩
            rw [hL] at c1 c2
            have hw : IntKind.i64.wrap ((j : Int) + 1) = (j : Int) + 1 := IntWalk.i64_in _ (by omega)
            have hr : ((j : Int) + 1).tmod (c : Int) = (R : Int) := by rw [show (j : Int) + 1 = ((j + 1 : Nat) : Int) by omega, hop_mod, hR]
            have hr2 : ((j : Int) + 1) % (c : Int) = (R : Int) := by rw [← Int.tmod_eq_emod_of_nonneg (by omega)]; exact hr
            have q0 : (0 : Int) ≤ (R : Int) := by omega
            have q1 : (R : Int) < (c : Int) := by omega
            have RB := Lib.hid rb
            clear rb hE hL hR O585 O586 O587
            go_wp2_with fail
            go_quiet (fail)
            have b6 := below_drewN RB.out nq
            clear c1 c2 hr hr2 hw q0 q1
            go_wp2
            go_roundw
            case rel => exact ⟨j + 1, by omega, by go_num, b6⟩
            case measure => simp [intOf]; omega
          · skip
            obtain rfl : c = j := by omega
            have O635 := O380.below rb
            clear O380
            have O636 := O381.below rb
            clear O381
            have O637 := O379.below rb
            clear O379
            have bd := below_then bc (Nat.le_refl _) rb
            clear bc rb
            have bc := bd
            clear bd
            go_wp2
            go_ret
            exact ⟨rfl, bc⟩
end Go.Proofs.Ytbllmgdnhjdphac
