/- The walk of the law FnLocked. -/
import Derived.Test.YtmeooebklohdfaaDrawPil6
import Derived.Test.YtmeooebklohdfaaPilP
import Derived.Test.YtmeooebklohdfaaPilLaw
namespace Go.Proofs.Ytmeooebklohdfaa
open Go.RowKit
set_option linter.unusedVariables false
set_option maxHeartbeats 6400000 in
set_option maxRecDepth 100000 in
theorem fnLocked_walk (a0 : Option Addr) (len0 cap0 : Nat) (z0 : List Int) (w : World) (w0 : IsBytes w a0 len0 cap0 z0) :
    Calls Try.prog 11 #[.slice a0 len0 cap0] w fun e w' => e = .returned (.bool true) ∧ Below w.heap.size w w' := by
  by_cases hl0 : 1048576 < len0
  · go_enter Try.func11, Try.ntmps11
    go_wp2
    go_ret
    exact ⟨rfl, Below.refl _ _⟩
  go_enter Try.func11, Try.ntmps11
  go_wp2_with fail
  refine (drawLocked_any a0 len0 cap0 z0 _ w0).mono ?_
  rintro e W1 ⟨v, n, f, c, g, k, t, rfl, O0, hn, hf, hc, hg, hk0, ht0, bc0⟩
  obtain ⟨sa, sc, rfl, -⟩ := O0.form
  have Q0 := PilAt.new W1 24 c g
  have bc := bc0.alloc bc0.size (.cells #[.string c, .int .i64 g] 24)
  have OV := O0.alloc (.cells #[.string c, .int .i64 g] 24)
  clear w0 bc0 O0 hf
  obtain ⟨V, hV⟩ : ∃ V, W1.alloc (.cells #[.string c, .int .i64 g] 24) = V := ⟨_, rfl⟩
  obtain ⟨X, hX⟩ : ∃ X, W1.heap.size = X := ⟨_, rfl⟩
  have HVV := Lib.hid hV
  have HXX := Lib.hid hX
  rw [hV] at Q0 bc OV
  rw [hX] at Q0
  clear hV hX
  have hi := fun w h => iLocked_any (.slice sa n sc) n f c g k t w h (by omega) (by omega)
  have hv := fun w h => sLocked_any (.slice sa n sc) n f c g k t w h (by omega) (by omega)
  have hs := fun w h => iScoreAt_any (.slice sa n sc) n f c g k w h (by omega) (by omega)
  cases hr : roB n f c g k with
  | false =>
    rw [la_no hr] at hi hv
    rw [sc_no hr] at hs
    have HI := Lib.hid hi
    have HV := Lib.hid hv
    have HS := Lib.hid hs
    clear hi hv hs
    clear hr
    obtain ⟨d0, d1, dl⟩ := id Q0
    rw [← HVV.out, ← HXX.out] at d0 d1
    go_wp2_with fail
    clear d0 d1 dl
    rw [HVV.out, HXX.out]
    refine (HI.out _ OV.intsC).mono ?_
    rintro e w101 ⟨rfl, hb102⟩
    have O103 := OV.below hb102
    clear OV
    have Q104 := Q0.below hb102 Q0.2.2
    clear Q0
    have b105 := below_then bc (Nat.le_refl _) hb102
    clear bc
    have bc := b105
    clear b105 hb102
    obtain ⟨d0, d1, dl⟩ := id Q104
    go_wp2_with fail
    refine (HV.out _ O103.ints).mono ?_
    rintro e w106 ⟨rfl, hb107⟩
    clear d0 d1 dl
    have O108 := O103.below hb107
    clear O103
    have Q109 := Q104.below hb107 Q104.2.2
    clear Q104
    have b110 := below_then bc (Nat.le_refl _) hb107
    clear bc
    have bc := b110
    clear b110 hb107
    obtain ⟨d0, d1, dl⟩ := id Q109
    go_wp2_with fail
    refine (HS.out _ O108.intsC).mono ?_
    rintro e w111 ⟨rfl, hb112⟩
    clear d0 d1 dl
    have O113 := O108.below hb112
    clear O108
    have Q114 := Q109.below hb112 Q109.2.2
    clear Q109
    have b115 := below_then bc (Nat.le_refl _) hb112
    clear bc
    have bc := b115
    clear b115 hb112
    go_wp2
    go_ret
    exact ⟨rfl, bc⟩
  | true =>
    rw [la_yes hr] at hi hv
    rw [sc_yes hr] at hs
    obtain ⟨r1, r2⟩ := (roB_iff _ _ _ _ _).1 hr
    obtain ⟨r3, k0, k1⟩ := (offB_iff _ _ _).1 r2
    obtain ⟨G, rfl, g1, g8, -, q4, -, -, q7, p1, p2⟩ := pil_nat r3
    obtain ⟨K, rfl⟩ : ∃ K : Nat, k = (K : Int) := ⟨k.toNat, by omega⟩
    have hp := fun w h => iPath_any (.slice sa n sc) n f c (G : Int) (K : Int) 5 w h (by omega) (by omega)
    rw [tp_yes hr (by omega) (by omega), show (5 : Int).toNat + 1 = 6 by rfl] at hp
    have hF0 : tpF n f c (G : Int) (K : Int) 0 = (K : Int) := by unfold tpF; rw [Int.toNat_natCast K]; rfl
    have hF1 : tpF n f c (G : Int) (K : Int) 1 = (stN n f c (G : Int).toNat (perL c (G : Int)) (K : Int).toNat : Int) := rfl
    have hFs : stN n f c (G : Int).toNat (perL c (G : Int)) (K : Int).toNat = (K : Int).toNat → ∀ i, tpF n f c (G : Int) (K : Int) i = (K : Int) := fun h i => by
      unfold tpF
      have : ∀ i, pathN n f c (G : Int).toNat (perL c (G : Int)) (K : Int).toNat i = (K : Int).toNat := fun i => by
        induction i with
        | zero => rfl
        | succ i ih => show stN _ _ _ _ _ (pathN _ _ _ _ _ _ i) = _; rw [ih, h]
      rw [this i, Int.toNat_natCast K]
    obtain ⟨F, hF⟩ : ∃ F, tpF n f c (G : Int) (K : Int) = F := ⟨_, rfl⟩
    rw [hF] at hp hF0 hF1 hFs
    obtain ⟨Y, hY⟩ : ∃ Y, scr n f c (G : Int).toNat (perL c (G : Int)) (K : Int) = Y := ⟨_, rfl⟩
    rw [hY] at hi hv hs
    rw [Int.toNat_natCast K] at hi hv hF1 hFs
    obtain ⟨St, hSt⟩ : ∃ Y, stN n f c (G : Int).toNat (perL c (G : Int)) K = Y := ⟨_, rfl⟩
    rw [hSt] at hi hv hF1 hFs
    clear hr r1 r2 r3 hF hY hSt q4 q7
    by_cases hst : St = K
    · skip
      rw [decide_eq_true hst, Bool.true_and] at hi hv
      have HFF := Lib.hid (hFs hst)
      clear hFs hF0 hF1
      have HI := Lib.hid hi
      have HV := Lib.hid hv
      have HS := Lib.hid hs
      have HP := Lib.hid hp
      clear hi hv hs hp
      obtain ⟨d0, d1, dl⟩ := id Q0
      rw [← HVV.out, ← HXX.out] at d0 d1
      go_wp2_with fail
      clear d0 d1 dl
      rw [HVV.out, HXX.out]
      refine (HI.out _ OV.intsC).mono ?_
      rintro e w316 ⟨rfl, hb317⟩
      have O318 := OV.below hb317
      clear OV
      have Q319 := Q0.below hb317 Q0.2.2
      clear Q0
      have b320 := below_then bc (Nat.le_refl _) hb317
      clear bc
      have bc := b320
      clear b320 hb317
      obtain ⟨d0, d1, dl⟩ := id Q319
      go_wp2_with fail
      refine (HV.out _ O318.ints).mono ?_
      rintro e w321 ⟨rfl, hb322⟩
      clear d0 d1 dl
      have O323 := O318.below hb322
      clear O318
      have Q324 := Q319.below hb322 Q319.2.2
      clear Q319
      have b325 := below_then bc (Nat.le_refl _) hb322
      clear bc
      have bc := b325
      clear b325 hb322
      obtain ⟨d0, d1, dl⟩ := id Q324
      go_wp2_with fail
      refine (HS.out _ O323.intsC).mono ?_
      rintro e w326 ⟨rfl, hb327⟩
      clear d0 d1 dl
      have O328 := O323.below hb327
      clear O323
      have Q329 := Q324.below hb327 Q324.2.2
      clear Q324
      have b330 := below_then bc (Nat.le_refl _) hb327
      clear bc
      have bc := b330
      clear b330 hb327
      obtain ⟨d0, d1, dl⟩ := id Q329
      go_wp2_with fail
      refine (HP.out _ O328.intsC).mono ?_
      rintro e w331 ⟨u, rfl, O333, hb332⟩
      clear d0 d1 dl
      have O334 := O328.below hb332
      clear O328
      have Q335 := Q329.below hb332 Q329.2.2
      clear Q329
      have b336 := below_then bc (Nat.le_refl _) hb332
      clear bc
      have bc := b336
      clear b336 hb332
      obtain ⟨la, lc, rfl, -⟩ := O333.form
      go_wp2_with fail
      have C_l := Lib.hid O333.ints.cellsP
      go_loopw [11, 12] (fun sv i wr => ∃ j : Nat, j ≤ 6 ∧ sv = .bool true ∧ i = .int .i64 (j : Int) ∧ wr = w331) (fun _ i _ => 6 - (intOf i).toNat)
      case atStart => exact ⟨0, by omega, rfl, rfl, rfl⟩
      case round =>
        obtain ⟨j, hj, rfl, rfl, rfl⟩ := hrel
        by_cases hlt : j < 6
        · skip
          have i0 : (0 : Int) ≤ (j : Int) := by omega
          have i1 : (j : Int) < 6 := by omega
          obtain ⟨x, rfl, -, c0⟩ := C_l.out j hlt
          rw [HFF.out j] at c0
          go_wp2
          go_roundw
          case rel => exact ⟨j + 1, by omega, rfl, by go_num, by trivial⟩
          case measure => simp [intOf]; omega
        · skip
          obtain rfl : j = 6 := by omega
          clear C_l hj hlt
          by_cases hge : t ≤ Y
          · skip
            rw [decide_eq_true hge]
            go_wp2
            go_ret
            exact ⟨rfl, bc⟩
          · skip
            rw [decide_eq_false hge]
            go_wp2
            go_ret
            exact ⟨rfl, bc⟩
    · skip
      rw [decide_eq_false hst, Bool.false_and] at hi hv
      have HF0 := Lib.hid hF0
      have HF1 := Lib.hid hF1
      clear hFs hF0 hF1
      have HI := Lib.hid hi
      have HV := Lib.hid hv
      have HS := Lib.hid hs
      have HP := Lib.hid hp
      clear hi hv hs hp
      obtain ⟨d0, d1, dl⟩ := id Q0
      rw [← HVV.out, ← HXX.out] at d0 d1
      go_wp2_with fail
      clear d0 d1 dl
      rw [HVV.out, HXX.out]
      refine (HI.out _ OV.intsC).mono ?_
      rintro e w937 ⟨rfl, hb938⟩
      have O939 := OV.below hb938
      clear OV
      have Q940 := Q0.below hb938 Q0.2.2
      clear Q0
      have b941 := below_then bc (Nat.le_refl _) hb938
      clear bc
      have bc := b941
      clear b941 hb938
      obtain ⟨d0, d1, dl⟩ := id Q940
      go_wp2_with fail
      refine (HV.out _ O939.ints).mono ?_
      rintro e w942 ⟨rfl, hb943⟩
      clear d0 d1 dl
      have O944 := O939.below hb943
      clear O939
      have Q945 := Q940.below hb943 Q940.2.2
      clear Q940
      have b946 := below_then bc (Nat.le_refl _) hb943
      clear bc
      have bc := b946
      clear b946 hb943
      obtain ⟨d0, d1, dl⟩ := id Q945
      go_wp2_with fail
      refine (HS.out _ O944.intsC).mono ?_
      rintro e w947 ⟨rfl, hb948⟩
      clear d0 d1 dl
      have O949 := O944.below hb948
      clear O944
      have Q950 := Q945.below hb948 Q945.2.2
      clear Q945
      have b951 := below_then bc (Nat.le_refl _) hb948
      clear bc
      have bc := b951
      clear b951 hb948
      obtain ⟨d0, d1, dl⟩ := id Q950
      go_wp2_with fail
      refine (HP.out _ O949.intsC).mono ?_
      rintro e w952 ⟨u, rfl, O954, hb953⟩
      clear d0 d1 dl
      have O955 := O949.below hb953
      clear O949
      have Q956 := Q950.below hb953 Q950.2.2
      clear Q950
      have b957 := below_then bc (Nat.le_refl _) hb953
      clear bc
      have bc := b957
      clear b957 hb953
      obtain ⟨la, lc, rfl, -⟩ := O954.form
      go_wp2_with fail
      have C_l := Lib.hid O954.ints.cellsP
      go_loopw [11, 12] (fun sv i wr => ∃ j : Nat, j ≤ 6 ∧ sv = .bool (decide (j ≤ 1)) ∧ i = .int .i64 (j : Int) ∧ wr = w952) (fun _ i _ => 6 - (intOf i).toNat)
      case atStart => exact ⟨0, by omega, rfl, rfl, rfl⟩
      case round =>
        obtain ⟨j, hj, rfl, rfl, rfl⟩ := hrel
        by_cases hlt : j < 6
        · skip
          have i0 : (0 : Int) ≤ (j : Int) := by omega
          have i1 : (j : Int) < 6 := by omega
          obtain ⟨x, rfl, -, c0⟩ := C_l.out j hlt
          by_cases j1 : j ≤ 1
          · skip
            rw [decide_eq_true j1]
            by_cases j0 : j = 0
            · skip
              have hFj : F j = (K : Int) := by rw [j0]; exact HF0.out
              rw [hFj] at c0
              have H0 := Lib.hid j0
              clear hFj j0 j1 hj
              go_wp2
              go_roundw
              case rel => exact ⟨j + 1, by have := H0.out; omega, by rw [decide_eq_true (by have := H0.out; omega)], by go_num, by trivial⟩
              case measure => simp [intOf]; omega
            · skip
              have hFj : F j = (St : Int) := by rw [show j = 1 by omega]; exact HF1.out
              rw [hFj] at c0
              have H1 : Hid (j = 1) := Lib.hid (by omega)
              clear hFj j0 j1 hj
              have ne : ((St : Int) == (K : Int)) = false := by simp; omega
              go_wp2
              go_roundw
              case rel => exact ⟨j + 1, by have := H1.out; omega, by rw [decide_eq_false (by have := H1.out; omega)], by go_num, by trivial⟩
              case measure => simp [intOf]; omega
          · skip
            rw [decide_eq_false j1]
            clear c0
            go_wp2
            go_roundw
            case rel => exact ⟨j + 1, by omega, by rw [decide_eq_false (by omega)], by go_num, by trivial⟩
            case measure => simp [intOf]; omega
        · skip
          obtain rfl : j = 6 := by omega
          clear C_l hj hlt
          rw [show decide (6 ≤ 1) = false by rfl]
          go_wp2
          go_ret
          exact ⟨rfl, bc⟩
end Go.Proofs.Ytmeooebklohdfaa
