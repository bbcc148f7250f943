/- The walk of the law FnCollisions. -/
import Derived.Test.YtbllmgdnhjdphabDrawHop3
import Derived.Test.YtbllmgdnhjdphabHopLaw2
namespace Go.Proofs.Ytbllmgdnhjdphab
open Go.RowKit
set_option linter.unusedVariables false
set_option maxHeartbeats 3200000 in
set_option maxRecDepth 100000 in
theorem fnCollisions_walk (a0 : Option Addr) (len0 cap0 : Nat) (z0 : List Int) (w : World) (w0 : IsBytes w a0 len0 cap0 z0) :
    Calls Try.prog 9 #[.slice a0 len0 cap0] w fun e w' => e = .returned (.bool true) ∧ Below w.heap.size w w' := by
  by_cases hl0 : 1048576 < len0
  · go_enter Try.func9, Try.ntmps9
    go_wp2
    go_ret
    exact ⟨rfl, Below.refl _ _⟩
  go_enter Try.func9, Try.ntmps9
  go_wp2_with fail
  refine (drawTwoHops_any a0 len0 cap0 z0 _ w0).mono ?_
  rintro e W1 ⟨v, n, f, u, m, g, k, rfl, O0, hn, U0, hm, hk, bc⟩
  clear w0
  obtain ⟨sa, sc, rfl, -⟩ := O0.form
  obtain ⟨ua, uc, rfl, -⟩ := id U0
  clear hk
  have hi := fun w h1 h2 => iColl_w (.slice sa n sc) n f (.slice ua m uc) m g k w h1 (by omega) h2 (by omega)
  have hs := fun w h1 h2 => sColl_w (.slice sa n sc) n f (.slice ua m uc) m g k w h1 (by omega) h2 (by omega)
  cases hv : pairHB n m f g with
  | false =>
    have e : colV n m f g k = -1 := by unfold colV; rw [hv]; rfl
    rw [e] at hi hs
    clear hv e
    have HI := Lib.hid hi
    have HS := Lib.hid hs
    clear hi hs
    go_wp2_with fail
    refine (HI.out _ O0.intsC U0).mono ?_
    rintro e w101 ⟨rfl, hb102⟩
    have O103 := O0.below hb102
    clear O0
    have O104 := U0.below hb102
    clear U0
    have b105 := below_then bc (Nat.le_refl _) hb102
    clear bc
    have bc := b105
    clear b105 hb102
    go_wp2_with fail
    refine (HS.out _ O103.ints O104.ints).mono ?_
    rintro e w106 ⟨rfl, hb107⟩
    have O108 := O103.below hb107
    clear O103
    have O109 := O104.below hb107
    clear O104
    have b110 := below_then bc (Nat.le_refl _) hb107
    clear bc
    have bc := b110
    clear b110 hb107
    go_wp2_with fail
    refine (HS.out _ O108.ints O109.ints).mono ?_
    rintro e w111 ⟨rfl, hb112⟩
    have O113 := O108.below hb112
    clear O108
    have O114 := O109.below hb112
    clear O109
    have b115 := below_then bc (Nat.le_refl _) hb112
    clear bc
    have bc := b115
    clear b115 hb112
    go_wp2
    go_ret
    exact ⟨rfl, bc⟩
  | true =>
    obtain ⟨p1, p2, rfl⟩ := (pairHB_iff _ _ _ _).1 hv
    obtain ⟨⟨b1, b2⟩, e1, e2, ⟨V, l1, e3, e4⟩, e5, e6⟩ := col_facts (k := k) p1 p2
    clear hv p1 p2
    rw [e3] at hi hs
    have ha := fun (s : Nat) w h1 h2 => iColl_w (.slice sa n sc) n f (.slice ua n uc) n g s w h1 (by omega) h2 (by omega)
    have hb := fun w h1 h2 => iColl_w (.slice ua n uc) n g (.slice sa n sc) n f (-(k.tmod n)) w h1 (by omega) h2 (by omega)
    rw [e4] at hb
    have hx := fun w h => iLoad_any (.slice sa n sc) n f 16 w h (by omega)
    have hy := fun w h => iLoad_any (.slice ua n uc) n g 16 w h (by omega)
    rw [e1] at hx
    rw [e2] at hy
    obtain ⟨R, hR⟩ : ∃ R, k.tmod (n : Int) = R := ⟨_, rfl⟩
    obtain ⟨R1, R2⟩ := tmod_bd k n b1
    rw [hR] at hb R1 R2
    have q0 : ¬ ((n : Int) = 0) := by omega
    have q1 : ((n : Int) == 0) = false := by simp; omega
    have E5 := Lib.hid e5
    have E6 := Lib.hid e6
    clear e1 e2 e3 e4 e5 e6
    have HI := Lib.hid hi
    have HS := Lib.hid hs
    have HA := Lib.hid ha
    have HB := Lib.hid hb
    have HX := Lib.hid hx
    have HY := Lib.hid hy
    clear hi hs ha hb hx hy
    go_wp2_with fail
    refine (HI.out _ O0.intsC U0).mono ?_
    rintro e w101 ⟨rfl, hb102⟩
    have O103 := O0.below hb102
    clear O0
    have O104 := U0.below hb102
    clear U0
    have b105 := below_then bc (Nat.le_refl _) hb102
    clear bc
    have bc := b105
    clear b105 hb102
    go_wp2_with fail
    refine (HS.out _ O103.ints O104.ints).mono ?_
    rintro e w106 ⟨rfl, hb107⟩
    have O108 := O103.below hb107
    clear O103
    have O109 := O104.below hb107
    clear O104
    have b110 := below_then bc (Nat.le_refl _) hb107
    clear bc
    have bc := b110
    clear b110 hb107
    go_wp2
    go_loopw [7, 8] (fun s i wr => ∃ j t : Nat, j ≤ n ∧ s = .int .i64 (t : Nat) ∧ i = .int .i64 j ∧ Hid (smN (fun s => mtC f (shF n g (s : Int)) n) j = t) ∧ Below w106.heap.size w106 wr) (fun _ i _ => n - (intOf i).toNat)
    case atStart => exact ⟨0, 0, Nat.zero_le _, rfl, rfl, Lib.hid rfl, Below.refl _ _⟩
    case round =>
      obtain ⟨j, t, hj, rfl, rfl, r2, rb⟩ := hrel
      by_cases hlt : j < n
      · skip
        have i0 : (0 : Int) ≤ (j : Int) := by omega
        have i1 : (j : Int) < (n : Int) := by omega
        have O311 := O108.below rb
        clear O108
        have O312 := O109.below rb
        clear O109
        have hS := smN_bd (fun s : Nat => mtC_le f (shF n g (s : Int)) n) j
        have hN := smN_next (fun s => mtC f (shF n g (s : Int)) n) j
        rw [r2.out] at hS hN
        have hq := HA.out j wr O311.intsC O312
        rw [E5.out j] at hq
        have hL := mtC_le f (shF n g (j : Int)) n
        obtain ⟨L, hL2⟩ : ∃ L, mtC f (shF n g (j : Int)) n = L := ⟨_, rfl⟩
        rw [hL2] at hq hL
        have nS : Hid (smN (fun s => mtC f (shF n g (s : Int)) n) (j + 1) = t + L) := Lib.hid (by rw [hN]; show t + mtC f (shF n g (j : Int)) n = t + L; rw [hL2])
        have htb : t ≤ 90000 := Nat.le_trans hS (Nat.mul_le_mul (show j ≤ 300 by omega) b2)
        have RB := Lib.hid rb
        have HQ := Lib.hid hq
        clear rb hq hS hN hL2 r2 O311 O312
        go_wp2_with fail
        refine HQ.out.mono ?_
        rintro e w5 ⟨rfl, hb5⟩
        have b6 := below_then RB.out (Nat.le_refl _) hb5
        clear hb5
        go_wp2
        go_roundw
        case rel => exact ⟨j + 1, t + L, by omega, by go_num, by go_num, nS, b6⟩
        case measure => simp [intOf]; omega
      · skip
        obtain rfl : n = j := by omega
        have O361 := O108.below rb
        clear O108
        have O362 := O109.below rb
        clear O109
        have bd := below_then bc (Nat.le_refl _) rb
        clear bc rb
        have bc := bd
        clear bd
        have T1 := Lib.hid (r2.out.symm.trans E6.out)
        clear r2
        go_wp2_with fail
        refine (HX.out _ O361.ints).mono ?_
        rintro e w363 ⟨v4, rfl, O365, hb364⟩
        have O366 := O361.below hb364
        clear O361
        have O367 := O362.below hb364
        clear O362
        have b368 := below_then bc (Nat.le_refl _) hb364
        clear bc
        have bc := b368
        clear b368 hb364
        obtain ⟨sa369, sc369, rfl, -⟩ := O365.form
        go_wp2_with fail
        refine (HY.out _ O367.ints).mono ?_
        rintro e w370 ⟨v5, rfl, O372, hb371⟩
        have O373 := O366.below hb371
        clear O366
        have O374 := O367.below hb371
        clear O367
        have O375 := O365.below hb371
        clear O365
        have b376 := below_then bc (Nat.le_refl _) hb371
        clear bc
        have bc := b376
        clear b376 hb371
        obtain ⟨sa377, sc377, rfl, -⟩ := O372.form
        go_wp2
        go_loopw [11, 12] (fun s i wr => ∃ j x : Nat, j ≤ 16 ∧ s = .int .i64 (x : Nat) ∧ i = .int .i64 j ∧ Hid (smN (fun q => ldC f (q : Int) n * ldC g (q : Int) n) j = x) ∧ Below w370.heap.size w370 wr) (fun _ i _ => 16 - (intOf i).toNat)
        case atStart => exact ⟨0, 0, Nat.zero_le _, rfl, rfl, Lib.hid rfl, Below.refl _ _⟩
        case round =>
          obtain ⟨j, x, hj, rfl, rfl, r2, rb⟩ := hrel
          by_cases hlt : j < 16
          · skip
            have i0 : (0 : Int) ≤ (j : Int) := by omega
            have i1 : (j : Int) < (16 : Int) := by omega
            have O578 := O373.below rb
            clear O373
            have O579 := O374.below rb
            clear O374
            have O580 := O375.below rb
            clear O375
            have O581 := O372.below rb
            clear O372
            obtain ⟨x1, rfl, -, c1⟩ := (O580.ints.cells) j hlt
            obtain ⟨x2, rfl, -, c2⟩ := (O581.ints.cells) j hlt
            replace c1 : wr.cell? (x1.add j) = some (.int .i64 (ldC f (j : Int) n : Nat)) := c1
            replace c2 : wr.cell? (x2.add j) = some (.int .i64 (ldC g (j : Int) n : Nat)) := c2
            have hA := ldC_le f (j : Int) n
            have hB := ldC_le g (j : Int) n
            have hS := smN_bd (X := 90000) (fun q : Nat => mul_bd7 (Nat.le_trans (ldC_le f (q : Int) n) (by omega)) (Nat.le_trans (ldC_le g (q : Int) n) (by omega))) j
            have hN := smN_next (fun q => ldC f (q : Int) n * ldC g (q : Int) n) j
            rw [r2.out] at hS hN
            obtain ⟨A, hA2⟩ : ∃ A, ldC f (j : Int) n = A := ⟨_, rfl⟩
            obtain ⟨B, hB2⟩ : ∃ A, ldC g (j : Int) n = A := ⟨_, rfl⟩
            rw [hA2] at c1 hA
            rw [hB2] at c2 hB
            have hP := mul_bd7 (a := A) (b := B) (by omega) (by omega)
            have nS : Hid (smN (fun q => ldC f (q : Int) n * ldC g (q : Int) n) (j + 1) = x + A * B) := Lib.hid (by rw [hN]; show x + ldC f (j : Int) n * ldC g (j : Int) n = _; rw [hA2, hB2])
            obtain ⟨Q, hQ⟩ : ∃ Q, A * B = Q := ⟨_, rfl⟩
            have w1 : IntKind.i64.wrap ((A : Int) * (B : Int)) = (Q : Int) := by rw [← Int.natCast_mul, hQ]; exact IntWalk.i64_in _ (by omega)
            rw [hQ] at hP nS
            have w2 : IntKind.i64.wrap ((x : Int) + (Q : Int)) = (x : Int) + (Q : Int) := IntWalk.i64_in _ (by omega)
            have RB := Lib.hid rb
            clear rb hA2 hB2 hQ hS hN r2 hA hB O578 O579 O580 O581
            go_wp2_with fail
            go_quiet (fail)
            have b6 := below_drewN RB.out nq
            clear c1 c2 w1 w2
            go_wp2
            go_roundw
            case rel => exact ⟨j + 1, x + Q, by omega, by go_num, by go_num, nS, b6⟩
            case measure => simp [intOf]; omega
          · skip
            obtain rfl : j = 16 := by omega
            have O628 := O373.below rb
            clear O373
            have O629 := O374.below rb
            clear O374
            have O630 := O375.below rb
            clear O375
            have O631 := O372.below rb
            clear O372
            have bd := below_then bc (Nat.le_refl _) rb
            clear bc rb
            have bc := bd
            clear bd
            obtain rfl : t = x := T1.out.trans r2.out
            clear r2
            go_wp2_with fail
            refine (HB.out _ O629 O628.intsC).mono ?_
            rintro e w632 ⟨rfl, hb633⟩
            have O634 := O628.below hb633
            clear O628
            have O635 := O629.below hb633
            clear O629
            have O636 := O630.below hb633
            clear O630
            have O637 := O631.below hb633
            clear O631
            have b638 := below_then bc (Nat.le_refl _) hb633
            clear bc
            have bc := b638
            clear b638 hb633
            go_wp2
            go_ret
            exact ⟨rfl, bc⟩
end Go.Proofs.Ytbllmgdnhjdphab
