/- The walk of the law FnLinearMeet. -/
import Derived.Test.YtbllmgdnhjdphabDrawHop4
import Derived.Test.YtbllmgdnhjdphabHopMeet
namespace Go.Proofs.Ytbllmgdnhjdphab
open Go.RowKit
set_option linter.unusedVariables false
set_option maxHeartbeats 3200000 in
set_option maxRecDepth 100000 in
theorem fnLinearMeet_walk (a0 : Option Addr) (len0 cap0 : Nat) (z0 : List Int) (a1 : Option Addr) (len1 cap1 : Nat) (z1 : List Int) (w : World) (w0 : IsBytes w a0 len0 cap0 z0) (w1 : IsBytes w a1 len1 cap1 z1) :
    Calls Try.prog 6 #[.slice a0 len0 cap0, .slice a1 len1 cap1] w fun e w' => e = .returned (.bool true) ∧ Below w.heap.size w w' := by
  by_cases hl0 : 1048576 < len0
  · go_enter Try.func6, Try.ntmps6
    go_wp2
    go_ret
    exact ⟨rfl, Below.refl _ _⟩
  by_cases hl1 : 1048576 < len1
  · go_enter Try.func6, Try.ntmps6
    go_wp2
    go_ret
    exact ⟨rfl, Below.refl _ _⟩
  clear w1
  go_enter Try.func6, Try.ntmps6
  go_wp2_with fail
  refine (drawLinear_any a0 len0 cap0 z0 _ w0).mono ?_
  rintro e W1 ⟨C, U, K, rfl, hC, hU, hK, bc⟩
  clear w0
  clear hU hK hC
  cases hv : linB C U K with
  | false =>
    have hi := fun w => iLin_any C U K w
    have hs := fun w => sLin_any C U K w
    rw [hv, lin_no hv] at hi hs
    clear hv
    have HI := Lib.hid hi
    have HS := Lib.hid hs
    clear hi hs
    go_wp2_with fail
    refine (HI.out _).mono ?_
    rintro e w101 ⟨v1, rfl, O103, hb102⟩
    have b104 := below_then bc (Nat.le_refl _) hb102
    clear bc
    have bc := b104
    clear b104 hb102
    go_wp2_with fail
    refine (HS.out _).mono ?_
    rintro e w105 ⟨v2, rfl, O107, hb106⟩
    have O108 := O103.below hb106
    clear O103
    have b109 := below_then bc (Nat.le_refl _) hb106
    clear bc
    have bc := b109
    clear b109 hb106
    go_wp2_with fail
    refine (ssInts_same _ _ _ _ 0 _ _ O108 O107 (by omega)).mono ?_
    rintro e w' ⟨rfl, m110, rfl⟩
    have O112 := O108.drewN m110
    clear O108
    have O113 := O107.drewN m110
    clear O107
    have bd := below_drewN bc m110
    clear bc
    have bc := bd
    clear bd
    obtain ⟨w111, hW⟩ : ∃ W, w105.drewN m110 = W := ⟨_, rfl⟩
    rw [hW] at O112 O113 bc ⊢
    clear hW
    go_wp2_with fail
    refine (ssInts_same _ _ _ _ 0 _ _ O112 O113 (by omega)).mono ?_
    rintro e w' ⟨rfl, m114, rfl⟩
    have O116 := O112.drewN m114
    clear O112
    have O117 := O113.drewN m114
    clear O113
    have bd := below_drewN bc m114
    clear bc
    have bc := bd
    clear bd
    obtain ⟨w115, hW⟩ : ∃ W, w111.drewN m114 = W := ⟨_, rfl⟩
    rw [hW] at O116 O117 bc ⊢
    clear hW
    go_wp2
    go_ret
    exact ⟨rfl, bc⟩
  | true =>
    obtain ⟨⟨c1, c2⟩, ⟨k1, k2⟩, u1, u2⟩ := (linB_iff _ _ _).1 hv
    obtain ⟨c, rfl⟩ : ∃ c : Nat, C = c := ⟨C.toNat, by omega⟩
    obtain ⟨u, rfl⟩ : ∃ c : Nat, U = c := ⟨U.toNat, by omega⟩
    obtain ⟨k, rfl⟩ : ∃ c : Nat, K = c := ⟨K.toNat, by omega⟩
    have hi := fun w => iLin_any c u k w
    have hs := fun w => sLin_any c u k w
    have hn : linN c u k = k := by unfold linN; rw [hv]; simp
    rw [hv, hn] at hi hs
    have hc1 : 1 ≤ c := by omega
    have hc2 : c ≤ 16 := by omega
    have huc : u < c := by omega
    have hk3 : k ≤ 300 := by omega
    clear c1 c2 k1 k2 u1 u2 hv hn
    have hg := fun v w h => iHops_any v k (linF c u) c w h (by omega)
    rw [(hopB_iff _ _ _).2 ⟨⟨by omega, by omega⟩, hk3, fun i _ => linF_in hc1 i⟩] at hg
    obtain ⟨M, hM⟩ : ∃ M : Nat, len1 % c = M := ⟨_, rfl⟩
    have hM1 : (len1 : Int).tmod (c : Int) = (M : Int) := by rw [hop_mod, hM]
    have hM2 : (len1 : Int) % (c : Int) = (M : Int) := by rw [← Int.tmod_eq_emod_of_nonneg (by omega)]; exact hM1
    have hM3 : M < c := by rw [← hM]; exact Nat.mod_lt _ (by omega)
    obtain ⟨D, hD⟩ : ∃ D : Nat, (u + 1 + M) % c = D := ⟨_, rfl⟩
    have hD1 : ((u : Int) + 1 + (M : Int)).tmod (c : Int) = (D : Int) := by rw [show (u : Int) + 1 + (M : Int) = ((u + 1 + M : Nat) : Int) by omega, hop_mod, hD]
    have hD2 : ((u : Int) + 1 + (M : Int)) % (c : Int) = (D : Int) := by rw [← Int.tmod_eq_emod_of_nonneg (by omega)]; exact hD1
    have hD3 : D < c := by rw [← hD]; exact Nat.mod_lt _ (by omega)
    clear hM hD
    obtain ⟨e1, e2, e3, e4, e5, e6⟩ := lm_facts hc1 hc2 huc hD3
    have ha := fun w => iLin_any c u c w
    have hb := fun w => iLin_any c D c w
    rw [e1, e2] at ha
    rw [e3, e4] at hb
    clear e1 e2 e3 e4
    have hm := fun (s : Nat) v w h => iMove_any v c (linF c D) c s w h (by omega)
    have hx := fun (s : Nat) u' v' w h1 h2 => iColl_w u' c (linF c u) v' c (linF c D) s w h1 (by omega) h2 (by omega)
    have hy := fun (s : Nat) u' v' w h1 h2 => iColl_w u' c (linF c u) v' c (mvF (linF c D) c s) 0 w h1 (by omega) h2 (by omega)
    have q0 : ¬ ((c : Int) = 0) := by omega
    have q1 : ((c : Int) == 0) = false := by simp; omega
    have q2 : ¬ (c = 0) := by omega
    have hst := fun i (hi : i ≤ 300) => lin_step c u i (by omega) hi
    have HI := Lib.hid hi
    have HS := Lib.hid hs
    have HG := Lib.hid hg
    have HA := Lib.hid ha
    have HB := Lib.hid hb
    have HM := Lib.hid hm
    have HX := Lib.hid hx
    have HY := Lib.hid hy
    have HST := Lib.hid hst
    have E5 := Lib.hid e5
    have E6 := Lib.hid e6
    clear hi hs hg ha hb hm hx hy hst e5 e6
    go_wp2_with fail
    refine (HI.out _).mono ?_
    rintro e w101 ⟨v1, rfl, O103, hb102⟩
    have b104 := below_then bc (Nat.le_refl _) hb102
    clear bc
    have bc := b104
    clear b104 hb102
    obtain ⟨sa105, sc105, rfl, -⟩ := O103.form
    go_wp2_with fail
    refine (HS.out _).mono ?_
    rintro e w106 ⟨v2, rfl, O108, hb107⟩
    have O109 := O103.below hb107
    clear O103
    have b110 := below_then bc (Nat.le_refl _) hb107
    clear bc
    have bc := b110
    clear b110 hb107
    go_wp2_with fail
    refine (ssInts_same _ _ _ _ k _ _ O109 O108 (by omega)).mono ?_
    rintro e w' ⟨rfl, m111, rfl⟩
    have O113 := O109.drewN m111
    clear O109
    have O114 := O108.drewN m111
    clear O108
    have bd := below_drewN bc m111
    clear bc
    have bc := bd
    clear bd
    obtain ⟨w112, hW⟩ : ∃ W, w106.drewN m111 = W := ⟨_, rfl⟩
    rw [hW] at O113 O114 bc ⊢
    clear hW
    clear O114
    go_wp2
    go_loopw [12] (fun i wr => ∃ j : Nat, j ≤ k ∧ i = .int .i64 j ∧ Below w112.heap.size w112 wr) (fun  i _ => k - (intOf i).toNat)
    case atStart => exact ⟨0, Nat.zero_le _, rfl, Below.refl _ _⟩
    case round =>
      obtain ⟨j, hj, rfl, rb⟩ := hrel
      by_cases hlt : j < k
      · skip
        have i0 : (0 : Int) ≤ (j : Int) := by omega
        have i1 : (j : Int) < (k : Int) := by omega
        have O315 := O113.below rb
        clear O113
        obtain ⟨P, R, x1, x2, x3, x4, x5, x6⟩ := HST.out j (by omega)
        obtain ⟨a1, rfl, -, c1⟩ := (O315.ints.cells) j hlt
        rw [x4] at c1
        have x7 : (P : Int) % (c : Int) = (R : Int) := by rw [← Int.tmod_eq_emod_of_nonneg (by omega)]; exact x3
        have RB := Lib.hid rb
        clear rb x1 x4 x6 O315
        go_wp2_with fail
        go_quiet (fail)
        have b6 := below_drewN RB.out nq
        clear c1 x2 x3 x7
        go_wp2
        go_roundw
        case rel => exact ⟨j + 1, by omega, by go_num, b6⟩
        case measure => simp [intOf]; omega
      · skip
        obtain rfl : k = j := by omega
        have O365 := O113.below rb
        clear O113
        have bd := below_then bc (Nat.le_refl _) rb
        clear bc rb
        have bc := bd
        clear bd
        go_wp2
        go_loop [13, 14] (fun p t => ∃ (i d : Nat), i ≤ c - 2 ∧ d = i + 2 ∧ p = .bool (prP c i) ∧ t = .int .i64 d) (fun _ t => c - (intOf t).toNat)
        case atStart => exact ⟨0, 2, Nat.zero_le _, rfl, by show _ = Value.bool (decide (1 < c)); congr 1; simp only [decide_eq_decide]; omega, rfl⟩
        case round =>
          obtain ⟨i, d, hi, hd, rfl, rfl⟩ := hrel
          obtain ⟨p, hp⟩ : ∃ p, prP c i = p := ⟨_, rfl⟩
          have HP := Lib.hid hp
          rw [hp]
          clear hp
          by_cases hlt : d < c
          · skip
            have i0 : (d : Int) < (c : Int) := by omega
            obtain ⟨Q, hQ⟩ : ∃ Q : Nat, c % d = Q := ⟨_, rfl⟩
            have t1 : (c : Int).tmod (d : Int) = (Q : Int) := by rw [hop_mod, hQ]
            have t2 : (c : Int) % (d : Int) = (Q : Int) := by rw [← Int.tmod_eq_emod_of_nonneg (by omega)]; exact t1
            have t3 : ¬ ((d : Int) = 0) := by omega
            have t4 : ((d : Int) == 0) = false := by simp; omega
            have nP : Hid (prP c (i + 1) = (p && decide (0 < Q))) := Lib.hid (by show (prP c i && decide (0 < c % (i + 2))) = _; rw [HP.out, ← hd, hQ])
            clear HP hQ
            cases p
            · skip
              have nP2 := Lib.hid (show prP c (i + 1) = false by rw [nP.out]; rfl)
              clear nP
              go_wp2
              go_round
              case rel => exact ⟨i + 1, d + 1, by omega, by omega, by rw [nP2.out], by go_num⟩
              case measure => simp [intOf]; omega
            · skip
              have nP2 := Lib.hid (show prP c (i + 1) = decide (0 < (Q : Int)) by rw [nP.out, Bool.true_and]; congr 1; simp only [eq_iff_iff]; omega)
              clear nP
              go_wp2
              go_round
              case rel => exact ⟨i + 1, d + 1, by omega, by omega, by first | (rw [nP2.out]; done) | (rw [nP2.out, ← t2, hd, Int.natCast_add]; rfl), by go_num⟩
              case measure => simp [intOf]; omega
          · skip
            have E7 : Hid (p = prP c (c - 2)) := Lib.hid (by rw [← HP.out]; congr 1; omega)
            have i0 : ¬ ((d : Int) < (c : Int)) := by omega
            clear HP
            go_wp2_with fail
            refine (HA.out _).mono ?_
            rintro e w566 ⟨v3, rfl, O568, hb567⟩
            have O569 := O365.below hb567
            clear O365
            have b570 := below_then bc (Nat.le_refl _) hb567
            clear bc
            have bc := b570
            clear b570 hb567
            obtain ⟨sa571, sc571, rfl, -⟩ := O568.form
            go_wp2_with fail
            refine (HB.out _).mono ?_
            rintro e w572 ⟨v4, rfl, O574, hb573⟩
            have O575 := O569.below hb573
            clear O569
            have O576 := O568.below hb573
            clear O568
            have b577 := below_then bc (Nat.le_refl _) hb573
            clear bc
            have bc := b577
            clear b577 hb573
            obtain ⟨sa578, sc578, rfl, -⟩ := O574.form
            cases p
            · skip
              go_wp2_with fail
              refine (HG.out _ _ O575.ints).mono ?_
              rintro e w' ⟨rfl, rfl⟩
              go_wp2
              go_ret
              exact ⟨rfl, bc⟩
            · skip
              by_cases hne : u = D
              · subst hne
                go_wp2_with fail
                refine (HG.out _ _ O575.ints).mono ?_
                rintro e w' ⟨rfl, rfl⟩
                go_wp2
                go_ret
                exact ⟨rfl, bc⟩
              · skip
                have hne2 : ((D : Int) == (u : Int)) = false := by simp; omega
                have G6 := Lib.hid (fun s hs => E6.out E7.out.symm hne s hs)
                go_wp2
                go_loopw [20] (fun i wr => ∃ j : Nat, j ≤ c ∧ i = .int .i64 j ∧ Below w572.heap.size w572 wr) (fun  i _ => c - (intOf i).toNat)
                case atStart => exact ⟨0, Nat.zero_le _, rfl, Below.refl _ _⟩
                case round =>
                  obtain ⟨j, hj, rfl, rb⟩ := hrel
                  by_cases hlt : j < c
                  · skip
                    have i0 : (0 : Int) ≤ (j : Int) := by omega
                    have i1 : (j : Int) < (c : Int) := by omega
                    have O979 := O575.below rb
                    clear O575
                    have O980 := O576.below rb
                    clear O576
                    have O981 := O574.below rb
                    clear O574
                    obtain ⟨g1, g2⟩ := G6.out j hlt
                    obtain ⟨g3, g4⟩ := E5.out j hlt
                    have mv := HM.out j
                    have xx := HX.out j
                    have yy := HY.out j
                    rw [g3, g4] at mv
                    rw [g1] at xx
                    rw [g2] at yy
                    clear g1 g2 g3 g4
                    have MV := Lib.hid mv
                    have XX := Lib.hid xx
                    have YY := Lib.hid yy
                    clear mv xx yy
                    have bd := below_then bc (Nat.le_refl _) rb
                    clear bc
                    have bc : Below wr.heap.size wr wr := Below.refl _ _
                    go_wp2_with fail
                    refine (MV.out _ _ O981.ints).mono ?_
                    rintro e w982 ⟨v5, rfl, O984, hb983⟩
                    have O985 := O979.below hb983
                    clear O979
                    have O986 := O980.below hb983
                    clear O980
                    have O987 := O981.below hb983
                    clear O981
                    have b988 := below_then bc (Nat.le_refl _) hb983
                    clear bc
                    have bc := b988
                    clear b988 hb983
                    obtain ⟨sa989, sc989, rfl, -⟩ := O984.form
                    go_wp2_with fail
                    refine (XX.out _ _ _ O986.intsC O987.intsC).mono ?_
                    rintro e w990 ⟨rfl, hb991⟩
                    have O992 := O985.below hb991
                    clear O985
                    have O993 := O986.below hb991
                    clear O986
                    have O994 := O987.below hb991
                    clear O987
                    have O995 := O984.below hb991
                    clear O984
                    have b996 := below_then bc (Nat.le_refl _) hb991
                    clear bc
                    have bc := b996
                    clear b996 hb991
                    go_wp2_with fail
                    refine (YY.out _ _ _ O993.intsC O995.intsC).mono ?_
                    rintro e w997 ⟨rfl, hb998⟩
                    have O999 := O992.below hb998
                    clear O992
                    have O1000 := O993.below hb998
                    clear O993
                    have O1001 := O994.below hb998
                    clear O994
                    have O1002 := O995.below hb998
                    clear O995
                    have b1003 := below_then bc (Nat.le_refl _) hb998
                    clear bc
                    have bc := b1003
                    clear b1003 hb998
                    have b6 := below_then rb (Nat.le_refl _) bc
                    clear rb bc bd O999 O1000 O1001 O1002
                    go_wp2
                    go_roundw
                    case rel => exact ⟨j + 1, by omega, by go_num, b6⟩
                    case measure => simp [intOf]; omega
                  · skip
                    obtain rfl : c = j := by omega
                    have O1029 := O575.below rb
                    clear O575
                    have O1030 := O576.below rb
                    clear O576
                    have O1031 := O574.below rb
                    clear O574
                    have bd := below_then bc (Nat.le_refl _) rb
                    clear bc rb
                    have bc := bd
                    clear bd
                    go_wp2_with fail
                    refine (HG.out _ _ O1029.ints).mono ?_
                    rintro e w' ⟨rfl, rfl⟩
                    go_wp2
                    go_ret
                    exact ⟨rfl, bc⟩
end Go.Proofs.Ytbllmgdnhjdphab
