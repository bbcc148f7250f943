/- The walk of the law FnBestOffset. -/
import Derived.Test.YtmeooebklohdfaaDrawPil6
import Derived.Test.YtmeooebklohdfaaPil12
import Derived.Test.YtmeooebklohdfaaPilLaw
import Derived.Test.YtmeooebklohdfaaSsPil
namespace Go.Proofs.Ytmeooebklohdfaa
open Go.RowKit
set_option linter.unusedVariables false
set_option maxHeartbeats 6400000 in
set_option maxRecDepth 100000 in
theorem fnBestOffset_walk (a0 : Option Addr) (len0 cap0 : Nat) (z0 : List Int) (a1 : Option Addr) (len1 cap1 : Nat) (z1 : List Int) (w : World) (w0 : IsBytes w a0 len0 cap0 z0) (w1 : IsBytes w a1 len1 cap1 z1) :
    Calls Try.prog 6 #[.slice a0 len0 cap0, .slice a1 len1 cap1] w fun e w' => e = .returned (.bool true) ∧ Below w.heap.size w w' := by
  by_cases hl0 : 1048576 < len0
  · go_enter Try.func6, Try.ntmps6
    go_wp2
    go_ret
    exact ⟨rfl, Below.refl _ _⟩
  by_cases hl1 : 1048576 < len1
  · go_enter Try.func6, Try.ntmps6
    go_wp2
    go_ret
    exact ⟨rfl, Below.refl _ _⟩
  clear w1
  go_enter Try.func6, Try.ntmps6
  go_wp2_with fail
  refine (drawBest_any a0 len0 cap0 z0 _ w0).mono ?_
  rintro e W1 ⟨v, n, f, c, g, rfl, O0, hn, hf, hc, hg, bc0⟩
  obtain ⟨sa, sc, rfl, -⟩ := O0.form
  have Q0 := PilAt.new W1 24 c g
  have bc := bc0.alloc bc0.size (.cells #[.string c, .int .i64 g] 24)
  have OV := O0.alloc (.cells #[.string c, .int .i64 g] 24)
  clear w0 bc0 O0 hf
  obtain ⟨V, hV⟩ : ∃ V, W1.alloc (.cells #[.string c, .int .i64 g] 24) = V := ⟨_, rfl⟩
  obtain ⟨X, hX⟩ : ∃ X, W1.heap.size = X := ⟨_, rfl⟩
  have HVV := Lib.hid hV
  have HXX := Lib.hid hX
  rw [hV] at Q0 bc OV
  rw [hX] at Q0
  clear hV hX
  have hi := fun w h => iBest_any (.slice sa n sc) n f c g w h (by omega) (by omega)
  have hs := fun w h => sBest_any (.slice sa n sc) n f c g w h (by omega) (by omega)
  cases hr : rdB n f c g with
  | false =>
    rw [bo_no hr] at hi hs
    have HI := Lib.hid hi
    have HS := Lib.hid hs
    clear hi hs
    clear hr
    obtain ⟨d0, d1, dl⟩ := id Q0
    rw [← HVV.out, ← HXX.out] at d0 d1
    go_wp2_with fail
    clear d0 d1 dl
    rw [HVV.out, HXX.out]
    refine (HI.out _ OV.intsC).mono ?_
    rintro e w101 ⟨rfl, hb102⟩
    have O103 := OV.below hb102
    clear OV
    have Q104 := Q0.below hb102 Q0.2.2
    clear Q0
    have b105 := below_then bc (Nat.le_refl _) hb102
    clear bc
    have bc := b105
    clear b105 hb102
    obtain ⟨d0, d1, dl⟩ := id Q104
    go_wp2_with fail
    refine (HS.out _ O103.ints).mono ?_
    rintro e w106 ⟨rfl, hb107⟩
    clear d0 d1 dl
    have O108 := O103.below hb107
    clear O103
    have Q109 := Q104.below hb107 Q104.2.2
    clear Q104
    have b110 := below_then bc (Nat.le_refl _) hb107
    clear bc
    have bc := b110
    clear b110 hb107
    obtain ⟨d0, d1, dl⟩ := id Q109
    go_wp2_with fail
    refine (HS.out _ O108.ints).mono ?_
    rintro e w111 ⟨rfl, hb112⟩
    clear d0 d1 dl
    have O113 := O108.below hb112
    clear O108
    have Q114 := Q109.below hb112 Q109.2.2
    clear Q109
    have b115 := below_then bc (Nat.le_refl _) hb112
    clear bc
    have bc := b115
    clear b115 hb112
    go_wp2
    go_ret
    exact ⟨rfl, bc⟩
  | true =>
    rw [bo_yes hr] at hi hs
    obtain ⟨r1, r2⟩ := (rdB_iff _ _ _ _).1 hr
    obtain ⟨G, rfl, g1, g8, -, -, -, -, -, p1, p2⟩ := pil_nat r2
    have ht := fun w h => iTable_any (.slice sa n sc) n f c (G : Int) w h (by omega) (by omega)
    rw [st_yes hr] at ht
    have hb := fun (J : Nat) (hj : 0 < J) => best_scale n f (J : Int) c (G : Int) (perL c (G : Int)) (by omega)
    have hm := amx_max (stF n f c (G : Int)) (perL c (G : Int))
    have hfi := amx_first (stF n f c (G : Int)) (perL c (G : Int))
    have hK := amx_lt (stF n f c (G : Int)) (perL c (G : Int)) p1
    obtain ⟨K, hKK⟩ : ∃ K, amx (stF n f c (G : Int)) (perL c (G : Int)) = K := ⟨_, rfl⟩
    rw [hKK] at hi hs hm hfi hK hb
    clear hKK
    have HB : Hid (∀ (u : Value) (J : Nat) w, 0 < J → J ≤ 5 → scOK n f (J : Int) = true → IntsC w u n (scF (J : Int) f) → Calls Try.prog 31 #[u, .agg #[.string c, .int .i64 (G : Int)]] w fun e w' => e = .returned (.int .i64 (K : Int)) ∧ Below w.heap.size w w') := Lib.hid (fun u J w h0 h5 hsc h => by
      have h1 := iBest_any u n (scF (J : Int) f) c (G : Int) w h (by omega) (by omega)
      unfold scOK at hsc
      simp only [Bool.and_eq_true] at hsc
      rw [bo_yes ((rdB_iff _ _ _ _).2 ⟨hsc.2.2, r2⟩), hb J h0] at h1
      exact h1)
    obtain ⟨N, hN⟩ : ∃ N, perL c (G : Int) = N := ⟨_, rfl⟩
    rw [hN] at ht hm hK p1 p2
    obtain ⟨F, hF⟩ : ∃ F, stF n f c (G : Int) = F := ⟨_, rfl⟩
    rw [hF] at ht hm hfi
    clear hN hF hb hr
    have HI := Lib.hid hi
    have HS := Lib.hid hs
    have HT := Lib.hid ht
    have HM := Lib.hid hm
    have HFI := Lib.hid hfi
    clear hi hs ht hm hfi
    clear r2
    obtain ⟨d0, d1, dl⟩ := id Q0
    rw [← HVV.out, ← HXX.out] at d0 d1
    go_wp2_with fail
    clear d0 d1 dl
    rw [HVV.out, HXX.out]
    refine (HI.out _ OV.intsC).mono ?_
    rintro e w216 ⟨rfl, hb217⟩
    have O218 := OV.below hb217
    clear OV
    have Q219 := Q0.below hb217 Q0.2.2
    clear Q0
    have b220 := below_then bc (Nat.le_refl _) hb217
    clear bc
    have bc := b220
    clear b220 hb217
    obtain ⟨d0, d1, dl⟩ := id Q219
    go_wp2_with fail
    refine (HS.out _ O218.ints).mono ?_
    rintro e w221 ⟨rfl, hb222⟩
    clear d0 d1 dl
    have O223 := O218.below hb222
    clear O218
    have Q224 := Q219.below hb222 Q219.2.2
    clear Q219
    have b225 := below_then bc (Nat.le_refl _) hb222
    clear bc
    have bc := b225
    clear b225 hb222
    obtain ⟨d0, d1, dl⟩ := id Q224
    go_wp2_with fail
    refine (HT.out _ O223.intsC).mono ?_
    rintro e w226 ⟨u, rfl, O228, hb227⟩
    clear d0 d1 dl
    have O229 := O223.below hb227
    clear O223
    have Q230 := Q224.below hb227 Q224.2.2
    clear Q224
    have b231 := below_then bc (Nat.le_refl _) hb227
    clear bc
    have bc := b231
    clear b231 hb227
    obtain ⟨la, lc, rfl, -⟩ := O228.form
    go_wp2_with fail
    have C_l := Lib.hid O228.ints.cellsP
    go_loopw [9] (fun i wr => ∃ j m : Nat, j ≤ N ∧ i = .int .i64 j ∧ wr = w226.drewN m) (fun i _ => N - (intOf i).toNat)
    case atStart => exact ⟨0, 0, by omega, rfl, rfl⟩
    case round =>
      obtain ⟨j, q, hj, rfl, rfl⟩ := hrel
      by_cases hlt : j < N
      · skip
        have i0 : (0 : Int) ≤ (j : Int) := by omega
        have i1 : (j : Int) < (N : Int) := by omega
        have k0 : (0 : Int) ≤ (K : Int) := by omega
        have k1 : (K : Int) < (N : Int) := by omega
        obtain ⟨x, rfl, -, c0⟩ := C_l.out j hlt
        obtain ⟨x2, ex, -, c1⟩ := C_l.out K hK
        injection ex with ex
        subst ex
        have c0 : (w226.drewN q).cell? (x.add j) = some (.int .i64 (F j)) := c0
        have c1 : (w226.drewN q).cell? (x.add K) = some (.int .i64 (F K)) := c1
        have y1 := HM.out j hlt
        have y2 := HFI.out j
        obtain ⟨y, hy⟩ : ∃ y, F j = y := ⟨_, rfl⟩
        obtain ⟨Y, hY⟩ : ∃ y, F K = y := ⟨_, rfl⟩
        rw [hy] at c0 y1 y2
        rw [hY] at c1 y1 y2
        clear hy hY
        obtain ⟨W, hW⟩ : ∃ W, w226.drewN q = W := ⟨_, rfl⟩
        rw [hW] at c0 c1 ⊢
        have HW := Lib.hid hW
        clear hW
        have z1 : decide (Y < y) = false := decide_eq_false (by omega)
        have z2 : ¬ Y < y := by omega
        by_cases hjk : j < K
        · skip
          have j1 : (j : Int) < (K : Int) := by omega
          have j2 : decide ((j : Int) < (K : Int)) = true := decide_eq_true j1
          have j3 : (y == Y) = false := by have := y2 hjk; simp; omega
          clear y1 y2
          go_wp2_with fail
          go_quiet (fail)
          clear c0 c1
          go_wp2
          go_roundw
          case rel => exact ⟨j + 1, q + nq, by omega, by go_num, by rw [← HW.out, World.drewN_drewN]⟩
          case measure => simp [intOf]; omega
        · skip
          have j1 : ¬ (j : Int) < (K : Int) := by omega
          have j2 : decide ((j : Int) < (K : Int)) = false := decide_eq_false j1
          clear y1 y2
          go_wp2_with fail
          go_quiet (fail)
          clear c0 c1
          go_wp2
          go_roundw
          case rel => exact ⟨j + 1, q + nq, by omega, by go_num, by rw [← HW.out, World.drewN_drewN]⟩
          case measure => simp [intOf]; omega
      · skip
        obtain rfl : N = j := by omega
        clear C_l HM HFI
        clear O228
        have O733 := O229.drewN q
        clear O229
        have Q734 := Q230.below (below_drewN (Below.refl _ _) q) Q230.2.2
        clear Q230
        have bd := below_drewN bc q
        clear bc
        have bc := bd
        clear bd
        obtain ⟨w732, hW⟩ : ∃ W, w226.drewN q = W := ⟨_, rfl⟩
        rw [hW] at O733 Q734 bc ⊢
        clear hW
        obtain ⟨M, hM⟩ : ∃ M, len1 % 5 = M := ⟨_, rfl⟩
        have m1 : (len1 : Int).tmod 5 = (M : Int) := by rw [Int.tmod_eq_emod_of_nonneg (by omega), ← hM]; omega
        obtain ⟨J, hJ⟩ : ∃ J, 1 + M = J := ⟨_, rfl⟩
        have m2 : 1 + (M : Int) = (J : Int) := by omega
        have j0 : 0 < J := by omega
        have j5 : J ≤ 5 := by omega
        clear hM hJ
        have HC := Lib.hid (fun w h => iScale_any (.slice sa n sc) n f (J : Int) w h (by omega))
        obtain ⟨N9, hN9⟩ : ∃ N9, scN n f (J : Int) = N9 := ⟨_, rfl⟩
        have hN9' : N9 ≤ 1000000 := by rw [← hN9]; exact scN_le6 _ _ _
        go_wp2_with fail
        refine (HC.out _ O733.ints).mono ?_
        rintro e w735 ⟨u9, rfl, O737, hb736⟩
        have O738 := O733.below hb736
        clear O733
        have Q739 := Q734.below hb736 Q734.2.2
        clear Q734
        have b740 := below_then bc (Nat.le_refl _) hb736
        clear bc
        have bc := b740
        clear b740 hb736
        cases hsc : scOK n f (J : Int) with
        | false =>
          rw [hN9] at O737
          go_wp2
          go_ret
          exact ⟨rfl, bc⟩
        | true =>
          rw [show scN n f (J : Int) = n by unfold scN; rw [hsc]; rfl] at O737
          clear hN9
          have IC := O737.intsC
          have HSC := Lib.hid hsc
          clear hsc
          obtain ⟨d0, d1, dl⟩ := id Q739
          go_wp2_with fail
          refine (HB.out _ J _ j0 j5 HSC.out IC).mono ?_
          rintro e w941 ⟨rfl, hb942⟩
          clear d0 d1 dl
          have O943 := O738.below hb942
          clear O738
          have O944 := O737.below hb942
          clear O737
          have Q945 := Q739.below hb942 Q739.2.2
          clear Q739
          have b946 := below_then bc (Nat.le_refl _) hb942
          clear bc
          have bc := b946
          clear b946 hb942
          go_wp2
          go_ret
          exact ⟨rfl, bc⟩
end Go.Proofs.Ytmeooebklohdfaa
