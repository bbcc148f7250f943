/- The walk of the law FnPilot. -/
import Derived.Test.YtmeooebklohdfaaDrawPil8
import Derived.Test.YtmeooebklohdfaaPilLaw
import Derived.Test.YtmeooebklohdfaaSsPil
import Derived.Test.YtmeooebklohdfaaSsSameR
import Derived.Deep.RegionHeld3
import Derived.BigQuiet
namespace Go.Proofs.Ytmeooebklohdfaa
open Go.RowKit
set_option linter.unusedVariables false
theorem quiet_dr {P : Program} {f : FuncId} {args : Array Value} {w : World} {n : Nat} {v : Value}
    (h : Calls P f args (w.drewN n) fun e w' => e = .returned v ∧ ∃ m, w' = (w.drewN n).drewN m) : Calls P f args (w.drewN n) fun e w'' => e = .returned v ∧ ∃ m, w'' = w.drewN m :=
  h.mono fun _ _ ⟨he, m, hm⟩ => ⟨he, n + m, by rw [hm, World.drewN_drewN]⟩
theorem sq_bdP {y : Int} (h0 : -1000 ≤ y) (h1 : y ≤ 1000) : 0 ≤ y * y ∧ y * y ≤ 1000000 := by
  have e : y * y = (y.natAbs : Int) * (y.natAbs : Int) := by rw [← Int.natCast_mul, ← Int.natAbs_mul_self]
  have h : y.natAbs * y.natAbs ≤ 1000 * 1000 := Nat.mul_le_mul (by omega) (by omega)
  omega
set_option maxHeartbeats 12800000 in
set_option maxRecDepth 100000 in
theorem fnPilot_walk (a0 : Option Addr) (len0 cap0 : Nat) (z0 : List Int) (w : World) (w0 : IsBytes w a0 len0 cap0 z0) :
    Calls Try.prog 3 #[.slice a0 len0 cap0] w fun e w' => e = .returned (.bool true) ∧ Below w.heap.size w w' := by
  by_cases hl0 : 1048576 < len0
  · go_enter Try.func3, Try.ntmps3
    go_wp2
    go_ret
    exact ⟨rfl, Below.refl _ _⟩
  go_enter Try.func3, Try.ntmps3
  go_wp2_with fail
  refine (drawPSig_any a0 len0 cap0 z0 _ w0).mono ?_
  rintro e W1 ⟨c, g, k, q, a, rfl, hc, hg, hk0, hq0, ha0, bc0⟩
  have Q0 := PilAt.new W1 24 c g
  have bc := bc0.alloc bc0.size (.cells #[.string c, .int .i64 g] 24)
  clear w0 bc0
  obtain ⟨V, hV⟩ : ∃ V, W1.alloc (.cells #[.string c, .int .i64 g] 24) = V := ⟨_, rfl⟩
  obtain ⟨X, hX⟩ : ∃ X, W1.heap.size = X := ⟨_, rfl⟩
  have HVV := Lib.hid hV
  have HXX := Lib.hid hX
  rw [hV] at Q0 bc
  rw [hX] at Q0
  clear hV hX
  have hi := fun w => iPSig_any c g k q a w (by omega)
  have hv := fun w => sPSig_any c g k q a w (by omega)
  have hl := fun w => iPLen_any c g w (by omega)
  have hm := fun w => sPLen_any c g w (by omega)
  have hp := fun w => iPilot_any c g w (by omega)
  by_cases hb : offB c g k = true ∧ psB q a = true
  · skip
    obtain ⟨r2, r4⟩ := hb
    obtain ⟨r3, k0, k1⟩ := (offB_iff _ _ _).1 r2
    obtain ⟨q0, q1, a0', a1'⟩ := (psB_iff _ _).1 r4
    obtain ⟨G, rfl, g1, g8, -, q4, -, -, q7, p1, p2⟩ := pil_nat r3
    obtain ⟨Q, rfl⟩ : ∃ T : Nat, q = (T : Int) := ⟨q.toNat, by omega⟩
    obtain ⟨K, rfl⟩ : ∃ K : Nat, k = (K : Int) := ⟨k.toNat, by omega⟩
    rw [(ps_yes r2 r4).1, (ps_yes r2 r4).2, Int.toNat_natCast Q] at hi hv
    rw [show lenAns c (G : Int) = (perL c (G : Int) : Int) by unfold lenAns; rw [if_pos r3]] at hl hm
    rw [r3] at hp
    have hKP : K < perL c (G : Int) := by omega
    have e1 : ∀ i, psF c (G : Int) (K : Int) a (i + perL c (G : Int)) = psF c (G : Int) (K : Int) a i := fun i => by unfold psF scF; rw [pl_per]
    have e2 : ∀ i, psF c (G : Int) 0 a ((perL c (G : Int) - K + i) % perL c (G : Int)) = psF c (G : Int) (K : Int) a i := fun i => by unfold psF scF; rw [pl_first _ _ _ _ _ p1 hKP]
    have e3 : ∀ i, psF c (G : Int) (K : Int) a i * psF c (G : Int) (K : Int) a i = a * a := fun i => by unfold psF scF; rw [Int.toNat_natCast]; exact pl_sq q4 q7 p1 a (K : Int) i
    have e4 : ∀ i, -1000 ≤ psF c (G : Int) (K : Int) a i ∧ psF c (G : Int) (K : Int) a i ≤ 1000 := fun i => by unfold psF scF; rw [Int.toNat_natCast]; exact ps_bd q4 q7 p1 a0' a1' (K : Int) i
    have hx0 : offB c (G : Int) 0 = true := (offB_iff _ _ _).2 ⟨r3, by omega, by omega⟩
    have hsp : ∀ (L : Nat) w, L ≤ 3000 → Calls Try.prog 20 #[.agg #[.string c, .int .i64 (G : Int)], .int .i64 0, .int .i64 (L : Int), .int .i64 a] w fun e w' => ∃ u, e = .returned u ∧ OF w' w.heap.size u L (psF c (G : Int) 0 a) ∧ Below w.heap.size w w' := fun L w hL => by
      have h1 := ssPilot_any c (G : Int) 0 (L : Int) a w (by omega)
      rw [(ps_yes hx0 ((psB_iff _ _).2 ⟨by omega, by omega, a0', a1'⟩)).2, Int.toNat_natCast L] at h1
      exact h1
    have hcg : (c.size : Int) * (G : Int) = (perL c (G : Int) : Int) := by rw [← q7, Int.natCast_mul]
    obtain ⟨F, hF⟩ : ∃ F, psF c (G : Int) (K : Int) a = F := ⟨_, rfl⟩
    rw [hF] at hi hv e1 e2 e3 e4
    obtain ⟨F0, hF0⟩ : ∃ F, psF c (G : Int) 0 a = F := ⟨_, rfl⟩
    rw [hF0] at hsp e2
    obtain ⟨N, hN⟩ : ∃ N, perL c (G : Int) = N := ⟨_, rfl⟩
    rw [hN] at hl hm e1 e2 p1 p2 hKP hcg
    clear hF hF0 hN r2 r3 r4 hx0 q4 q7 k1
    have n0 : ¬ ((N : Int) = 0) := by omega
    have n1 : ((N : Int) == 0) = false := by simp; omega
    have n2 : ¬ N = 0 := by omega
    have HI := Lib.hid hi
    have HV := Lib.hid hv
    have HL := Lib.hid hl
    have HM := Lib.hid hm
    have HP := Lib.hid hp
    have HSP := Lib.hid hsp
    have E1 := Lib.hid e1
    have E2 := Lib.hid e2
    have E3 := Lib.hid e3
    have E4 := Lib.hid e4
    clear hi hv hl hm hp hsp e1 e2 e3 e4
    have HCG := Lib.hid hcg
    clear hcg
    obtain ⟨d0, d1, dl⟩ := id Q0
    rw [← HVV.out, ← HXX.out] at d0 d1
    go_wp2_with fail
    clear d0 d1 dl
    rw [HVV.out, HXX.out]
    refine (HI.out _).mono ?_
    rintro e w101 ⟨u, rfl, O103, hb102⟩
    have Q104 := Q0.below hb102 Q0.2.2
    clear Q0
    have b105 := below_then bc (Nat.le_refl _) hb102
    clear bc
    have bc := b105
    clear b105 hb102
    obtain ⟨la, lc, rfl, -⟩ := O103.form
    obtain ⟨d0, d1, dl⟩ := id Q104
    go_wp2_with fail
    refine (HV.out _).mono ?_
    rintro e w106 ⟨u2, rfl, O108, hb107⟩
    clear d0 d1 dl
    have O109 := O103.below hb107
    clear O103
    have Q110 := Q104.below hb107 Q104.2.2
    clear Q104
    have b111 := below_then bc (Nat.le_refl _) hb107
    clear bc
    have bc := b111
    clear b111 hb107
    obtain ⟨d0, d1, dl⟩ := id Q110
    go_wp2_with fail
    have kk := (Below.refl w106.heap.size w106).drew
    obtain ⟨e0, e1, el⟩ := Q110.below kk Q110.2.2
    have I1 := (O109.below kk).ints
    have I2 := (O108.below kk).ints
    have bd := bc.drew
    go_region_held3 (fun wx => wx.cell? ⟨X, 0, none⟩ = some (.string c) ∧ wx.cell? ⟨X, 1, none⟩ = some (.int .i64 (G : Int))) (first | with_reducible exact ⟨o0, o1⟩ | with_reducible exact ⟨m0, m1⟩ | with_reducible exact ⟨t0, t1⟩ | with_reducible exact ⟨e0, e1⟩) (first
      | (go_at_call 18; refine (HM.out _).mono ?_; rintro e w10 ⟨rfl, hb10⟩; have kk10 := below_then kk9 (Nat.le_refl _) hb10; obtain ⟨o0, o1, ol⟩ := Q110.below kk10 Q110.2.2; have bd10 := below_then bd9 (Nat.le_refl _) hb10)
      | (go_at_call 17; refine (HL.out _).mono ?_; rintro e w9 ⟨rfl, hb9⟩; have kk9 := below_then kk8 (Nat.le_refl _) hb9; obtain ⟨m0, m1, ml⟩ := Q110.below kk9 Q110.2.2; have bd9 := below_then bd8 (Nat.le_refl _) hb9)
      | (go_at_call 16; refine (ssInts_sameR _ _ Q F _ I1 I2 (by omega)).mono ?_; rintro e w8 ⟨rfl, m8, h8⟩; have kk8 : Below w106.heap.size w106 w8 := (by rw [h8]; exact below_drewN kk m8); have bd8 : Below w.heap.size w w8 := (by rw [h8]; exact below_drewN bd m8); obtain ⟨t0, t1, tl⟩ := Q110.below kk8 Q110.2.2; clear h8))
    have OL9 := O109.below kk10
    have QV9 := Q110.below kk10 Q110.2.2
    clear e0 e1 el t0 t1 tl m0 m1 ml o0 o1 ol d0 d1 dl I1 I2 bd bd8 bd9 bc kk kk8 kk9 kk10 hb9 hb10 O109 O108 Q110
    have bc := bd10
    clear bd10
    obtain ⟨d0, d1, dl⟩ := id QV9
    go_wp2_with fail
    refine (HL.out _).mono ?_
    rintro e w112 ⟨rfl, hb113⟩
    clear d0 d1 dl
    have O114 := OL9.below hb113
    clear OL9
    have Q115 := QV9.below hb113 QV9.2.2
    clear QV9
    have b116 := below_then bc (Nat.le_refl _) hb113
    clear bc
    have bc := b116
    clear b116 hb113
    obtain ⟨M, hM⟩ : ∃ M, min (N + Q) 3000 = M := ⟨_, rfl⟩
    have hM3 : M ≤ 3000 := by omega
    obtain ⟨NQ, hNQ⟩ : ∃ M, N + Q = M := ⟨_, rfl⟩
    have nq1 : (N : Int) + (Q : Int) = (NQ : Int) := by omega
    rw [hNQ] at hM
    have HNQ := Lib.hid hNQ
    have nqb : NQ ≤ 10000 := by omega
    clear hNQ
    have HS9 := HSP.out M
    have HPF := Lib.hid (fun w => HS9 w hM3)
    clear HS9
    by_cases h30 : NQ ≤ 3000
    · skip
      obtain rfl : NQ = M := by omega
      have z1 : ¬ ((3000 : Int) < (NQ : Int)) := by omega
      have z2 : min (NQ : Int) 3000 = (NQ : Int) := by omega
      obtain ⟨d0, d1, dl⟩ := id Q115
      go_wp2_with fail
      refine (HPF.out _).mono ?_
      rintro e w217 ⟨u3, rfl, O219, hb218⟩
      clear d0 d1 dl
      have O220 := O114.below hb218
      clear O114
      have Q221 := Q115.below hb218 Q115.2.2
      clear Q115
      have b222 := below_then bc (Nat.le_refl _) hb218
      clear bc
      have bc := b222
      clear b222 hb218
      clear z1 z2 nq1
      obtain ⟨fa, fc, rfl, -⟩ := O219.form
      go_wp2_with fail
      have C_l := Lib.hid O220.ints.cellsP
      have C_f := Lib.hid O219.ints.cellsP
      go_loopw [13] (fun i wr => ∃ j m : Nat, j ≤ Q ∧ i = .int .i64 j ∧ wr = w217.drewN m) (fun i _ => Q - (intOf i).toNat)
      case atStart => exact ⟨0, 0, by omega, rfl, rfl⟩
      case round =>
        obtain ⟨j, q, hj, rfl, rfl⟩ := hrel
        by_cases hlt : j < Q
        · skip
          have i0 : (0 : Int) ≤ (j : Int) := by omega
          have i1 : (j : Int) < (Q : Int) := by omega
          obtain ⟨x, rfl, -, c0⟩ := C_l.out j hlt
          have c0 : (w217.drewN q).cell? (x.add j) = some (.int .i64 (F j)) := c0
          have b4 := E4.out j
          have s3 := E3.out j
          have x1 := fun i => E1.out i
          have x2 := E2.out j
          obtain ⟨y, hy⟩ : ∃ y, F j = y := ⟨_, rfl⟩
          have HY := Lib.hid hy
          rw [hy] at c0 b4 s3 x2
          obtain ⟨Z, hZ⟩ : ∃ Z, a * a = Z := ⟨_, rfl⟩
          have zb : 0 ≤ Z ∧ Z ≤ 1000000 := by rw [← hZ, ← s3]; exact sq_bdP b4.1 b4.2
          have w1 : IntKind.i64.wrap (y * y) = Z := by rw [s3, hZ]; exact IntWalk.i64_in _ (by omega)
          have w2 : IntKind.i64.wrap (a * a) = Z := by rw [hZ]; exact IntWalk.i64_in _ (by omega)
          clear s3 hZ hy
          obtain ⟨N1, hN1⟩ : ∃ t, N - K = t := ⟨_, rfl⟩
          have w3 : IntKind.i64.wrap ((N : Int) - (K : Int)) = (N1 : Int) := by rw [IntWalk.i64_in _ (by omega)]; omega
          obtain ⟨N2, hN2⟩ : ∃ t, N1 + j = t := ⟨_, rfl⟩
          have w4 : IntKind.i64.wrap ((N1 : Int) + (j : Int)) = (N2 : Int) := by rw [IntWalk.i64_in _ (by omega)]; omega
          obtain ⟨R, hR⟩ : ∃ t, N2 % N = t := ⟨_, rfl⟩
          have w5 : (N2 : Int).tmod (N : Int) = (R : Int) := by rw [Int.tmod_eq_emod_of_nonneg (by omega), ← hR, Int.natCast_emod]
          have hR2 : R ≤ N2 := by rw [← hR]; exact Nat.mod_le _ _
          rw [hN1, hN2, hR] at x2
          clear hN1 hN2 hR
          by_cases gA : N ≤ j
          · skip
            obtain ⟨I, hI⟩ : ∃ t, j - N = t := ⟨_, rfl⟩
            have w6 : IntKind.i64.wrap ((j : Int) - (N : Int)) = (I : Int) := by rw [IntWalk.i64_in _ (by omega)]; omega
            have hIQ : I < Q := by omega
            have i2 : (0 : Int) ≤ (I : Int) := by omega
            have i3 : (I : Int) < (Q : Int) := by omega
            have xx := x1 I
            rw [show I + N = j by omega, HY.out] at xx
            obtain ⟨x5, ex, -, c1⟩ := C_l.out I hIQ
            injection ex with ex
            subst ex
            have c1 : (w217.drewN q).cell? (x.add I) = some (.int .i64 (F I)) := c1
            rw [← xx] at c1
            have g1' : (N : Int) ≤ (j : Int) := by omega
            have g2' : decide ((N : Int) ≤ (j : Int)) = true := decide_eq_true g1'
            have g7 : decide (N ≤ j) = true := decide_eq_true gA
            clear hI xx x1
            by_cases gB : N2 < NQ
            · skip
              have r0 : (0 : Int) ≤ (R : Int) := by omega
              have r1 : (R : Int) < (NQ : Int) := by omega
              obtain ⟨x6, rfl, -, c2⟩ := C_f.out R (by omega)
              have c2 : (w217.drewN q).cell? (x6.add R) = some (.int .i64 (F0 R)) := c2
              rw [x2] at c2
              have g3' : (N2 : Int) < (NQ : Int) := by omega
              have g4' : decide ((N2 : Int) < (NQ : Int)) = true := decide_eq_true g3'
              have g8 : decide (N2 < NQ) = true := decide_eq_true gB
              clear x2
              obtain ⟨W, hW⟩ : ∃ W, w217.drewN q = W := ⟨_, rfl⟩
              rw [hW] at c0 c1 c2 ⊢
              have HW := Lib.hid hW
              clear hW b4 zb hR2
              go_wp2_with fail
              go_quiet (fail)
              have NQQ : ∃ t, W.drewN nq = W.drewN t := ⟨nq, rfl⟩
              clear c0 c1 c2 w1 w2 w3 w4 w5 w6
              go_wp2
              go_roundw
              case rel => exact ⟨j + 1, q + nq, by omega, by go_num, by rw [← HW.out, World.drewN_drewN]⟩
              case measure => simp [intOf]; omega
            · skip
              have g3' : ¬ (N2 : Int) < (NQ : Int) := by omega
              have g4' : decide ((N2 : Int) < (NQ : Int)) = false := decide_eq_false g3'
              have c2 := c0
              have g8 : decide (N2 < NQ) = false := decide_eq_false gB
              clear x2
              obtain ⟨W, hW⟩ : ∃ W, w217.drewN q = W := ⟨_, rfl⟩
              rw [hW] at c0 c1 c2 ⊢
              have HW := Lib.hid hW
              clear hW b4 zb hR2
              go_wp2_with fail
              go_quiet (fail)
              have NQQ : ∃ t, W.drewN nq = W.drewN t := ⟨nq, rfl⟩
              clear c0 c1 c2 w1 w2 w3 w4 w5 w6
              go_wp2
              go_roundw
              case rel => exact ⟨j + 1, q + nq, by omega, by go_num, by rw [← HW.out, World.drewN_drewN]⟩
              case measure => simp [intOf]; omega
          · skip
            have g1' : ¬ (N : Int) ≤ (j : Int) := by omega
            have g2' : decide ((N : Int) ≤ (j : Int)) = false := decide_eq_false g1'
            have g7 : decide (N ≤ j) = false := decide_eq_false gA
            clear x1
            have c1 := c0
            by_cases gB : N2 < NQ
            · skip
              have r0 : (0 : Int) ≤ (R : Int) := by omega
              have r1 : (R : Int) < (NQ : Int) := by omega
              obtain ⟨x6, rfl, -, c2⟩ := C_f.out R (by omega)
              have c2 : (w217.drewN q).cell? (x6.add R) = some (.int .i64 (F0 R)) := c2
              rw [x2] at c2
              have g3' : (N2 : Int) < (NQ : Int) := by omega
              have g4' : decide ((N2 : Int) < (NQ : Int)) = true := decide_eq_true g3'
              have g8 : decide (N2 < NQ) = true := decide_eq_true gB
              clear x2
              obtain ⟨W, hW⟩ : ∃ W, w217.drewN q = W := ⟨_, rfl⟩
              rw [hW] at c0 c1 c2 ⊢
              have HW := Lib.hid hW
              clear hW b4 zb hR2
              go_wp2_with fail
              go_quiet (fail)
              have NQQ : ∃ t, W.drewN nq = W.drewN t := ⟨nq, rfl⟩
              clear c0 c1 c2 w1 w2 w3 w4 w5
              go_wp2
              go_roundw
              case rel => exact ⟨j + 1, q + nq, by omega, by go_num, by rw [← HW.out, World.drewN_drewN]⟩
              case measure => simp [intOf]; omega
            · skip
              have g3' : ¬ (N2 : Int) < (NQ : Int) := by omega
              have g4' : decide ((N2 : Int) < (NQ : Int)) = false := decide_eq_false g3'
              have c2 := c0
              have g8 : decide (N2 < NQ) = false := decide_eq_false gB
              clear x2
              obtain ⟨W, hW⟩ : ∃ W, w217.drewN q = W := ⟨_, rfl⟩
              rw [hW] at c0 c1 c2 ⊢
              have HW := Lib.hid hW
              clear hW b4 zb hR2
              go_wp2_with fail
              go_quiet (fail)
              have NQQ : ∃ t, W.drewN nq = W.drewN t := ⟨nq, rfl⟩
              clear c0 c1 c2 w1 w2 w3 w4 w5
              go_wp2
              go_roundw
              case rel => exact ⟨j + 1, q + nq, by omega, by go_num, by rw [← HW.out, World.drewN_drewN]⟩
              case measure => simp [intOf]; omega
        · skip
          obtain rfl : Q = j := by omega
          clear C_l C_f hj hlt
          have O1124 := O220.drewN q
          clear O220
          have O1125 := O219.drewN q
          clear O219
          have Q1126 := Q221.below (below_drewN (Below.refl _ _) q) Q221.2.2
          clear Q221
          have bd := below_drewN bc q
          clear bc
          have bc := bd
          clear bd
          obtain ⟨w1123, hW⟩ : ∃ W, w217.drewN q = W := ⟨_, rfl⟩
          rw [hW] at O1124 O1125 Q1126 bc ⊢
          clear hW
          clear O1125
          obtain ⟨d0, d1, dl⟩ := id Q1126
          go_wp2_with fail
          refine (HP.out _).mono ?_
          rintro e w1127 ⟨rfl, hb1128⟩
          clear d0 d1 dl
          have O1129 := O1124.below hb1128
          clear O1124
          have Q1130 := Q1126.below hb1128 Q1126.2.2
          clear Q1126
          have b1131 := below_then bc (Nat.le_refl _) hb1128
          clear bc
          have bc := b1131
          clear b1131 hb1128
          have hcg := HCG.out
          obtain ⟨d0, d1, dl⟩ := id Q1130
          go_wp2
          go_ret
          exact ⟨rfl, bc⟩
    · skip
      obtain rfl : M = 3000 := by omega
      have z1 : (3000 : Int) < (NQ : Int) := by omega
      have z2 : min (NQ : Int) 3000 = 3000 := by omega
      obtain ⟨d0, d1, dl⟩ := id Q115
      go_wp2_with fail
      refine (HPF.out _).mono ?_
      rintro e w1232 ⟨u3, rfl, O1234, hb1233⟩
      clear d0 d1 dl
      have O1235 := O114.below hb1233
      clear O114
      have Q1236 := Q115.below hb1233 Q115.2.2
      clear Q115
      have b1237 := below_then bc (Nat.le_refl _) hb1233
      clear bc
      have bc := b1237
      clear b1237 hb1233
      clear z1 z2 nq1
      obtain ⟨fa, fc, rfl, -⟩ := O1234.form
      go_wp2_with fail
      have C_l := Lib.hid O1235.ints.cellsP
      have C_f := Lib.hid O1234.ints.cellsP
      go_loopw [13] (fun i wr => ∃ j m : Nat, j ≤ Q ∧ i = .int .i64 j ∧ wr = w1232.drewN m) (fun i _ => Q - (intOf i).toNat)
      case atStart => exact ⟨0, 0, by omega, rfl, rfl⟩
      case round =>
        obtain ⟨j, q, hj, rfl, rfl⟩ := hrel
        by_cases hlt : j < Q
        · skip
          have i0 : (0 : Int) ≤ (j : Int) := by omega
          have i1 : (j : Int) < (Q : Int) := by omega
          obtain ⟨x, rfl, -, c0⟩ := C_l.out j hlt
          have c0 : (w1232.drewN q).cell? (x.add j) = some (.int .i64 (F j)) := c0
          have b4 := E4.out j
          have s3 := E3.out j
          have x1 := fun i => E1.out i
          have x2 := E2.out j
          obtain ⟨y, hy⟩ : ∃ y, F j = y := ⟨_, rfl⟩
          have HY := Lib.hid hy
          rw [hy] at c0 b4 s3 x2
          obtain ⟨Z, hZ⟩ : ∃ Z, a * a = Z := ⟨_, rfl⟩
          have zb : 0 ≤ Z ∧ Z ≤ 1000000 := by rw [← hZ, ← s3]; exact sq_bdP b4.1 b4.2
          have w1 : IntKind.i64.wrap (y * y) = Z := by rw [s3, hZ]; exact IntWalk.i64_in _ (by omega)
          have w2 : IntKind.i64.wrap (a * a) = Z := by rw [hZ]; exact IntWalk.i64_in _ (by omega)
          clear s3 hZ hy
          obtain ⟨N1, hN1⟩ : ∃ t, N - K = t := ⟨_, rfl⟩
          have w3 : IntKind.i64.wrap ((N : Int) - (K : Int)) = (N1 : Int) := by rw [IntWalk.i64_in _ (by omega)]; omega
          obtain ⟨N2, hN2⟩ : ∃ t, N1 + j = t := ⟨_, rfl⟩
          have w4 : IntKind.i64.wrap ((N1 : Int) + (j : Int)) = (N2 : Int) := by rw [IntWalk.i64_in _ (by omega)]; omega
          obtain ⟨R, hR⟩ : ∃ t, N2 % N = t := ⟨_, rfl⟩
          have w5 : (N2 : Int).tmod (N : Int) = (R : Int) := by rw [Int.tmod_eq_emod_of_nonneg (by omega), ← hR, Int.natCast_emod]
          have hR2 : R ≤ N2 := by rw [← hR]; exact Nat.mod_le _ _
          rw [hN1, hN2, hR] at x2
          clear hN1 hN2 hR
          by_cases gA : N ≤ j
          · skip
            obtain ⟨I, hI⟩ : ∃ t, j - N = t := ⟨_, rfl⟩
            have w6 : IntKind.i64.wrap ((j : Int) - (N : Int)) = (I : Int) := by rw [IntWalk.i64_in _ (by omega)]; omega
            have hIQ : I < Q := by omega
            have i2 : (0 : Int) ≤ (I : Int) := by omega
            have i3 : (I : Int) < (Q : Int) := by omega
            have xx := x1 I
            rw [show I + N = j by omega, HY.out] at xx
            obtain ⟨x5, ex, -, c1⟩ := C_l.out I hIQ
            injection ex with ex
            subst ex
            have c1 : (w1232.drewN q).cell? (x.add I) = some (.int .i64 (F I)) := c1
            rw [← xx] at c1
            have g1' : (N : Int) ≤ (j : Int) := by omega
            have g2' : decide ((N : Int) ≤ (j : Int)) = true := decide_eq_true g1'
            have g7 : decide (N ≤ j) = true := decide_eq_true gA
            clear hI xx x1
            by_cases gB : N2 < 3000
            · skip
              have r0 : (0 : Int) ≤ (R : Int) := by omega
              have r1 : (R : Int) < 3000 := by omega
              obtain ⟨x6, rfl, -, c2⟩ := C_f.out R (by omega)
              have c2 : (w1232.drewN q).cell? (x6.add R) = some (.int .i64 (F0 R)) := c2
              rw [x2] at c2
              have g3' : (N2 : Int) < 3000 := by omega
              have g4' : decide ((N2 : Int) < 3000) = true := decide_eq_true g3'
              have g8 : decide (N2 < 3000) = true := decide_eq_true gB
              clear x2
              obtain ⟨W, hW⟩ : ∃ W, w1232.drewN q = W := ⟨_, rfl⟩
              rw [hW] at c0 c1 c2 ⊢
              have HW := Lib.hid hW
              clear hW b4 zb hR2
              go_wp2_with fail
              go_quiet (fail)
              have NQQ : ∃ t, W.drewN nq = W.drewN t := ⟨nq, rfl⟩
              clear c0 c1 c2 w1 w2 w3 w4 w5 w6
              go_wp2
              go_roundw
              case rel => exact ⟨j + 1, q + nq, by omega, by go_num, by rw [← HW.out, World.drewN_drewN]⟩
              case measure => simp [intOf]; omega
            · skip
              have g3' : ¬ (N2 : Int) < 3000 := by omega
              have g4' : decide ((N2 : Int) < 3000) = false := decide_eq_false g3'
              have c2 := c0
              have g8 : decide (N2 < 3000) = false := decide_eq_false gB
              clear x2
              obtain ⟨W, hW⟩ : ∃ W, w1232.drewN q = W := ⟨_, rfl⟩
              rw [hW] at c0 c1 c2 ⊢
              have HW := Lib.hid hW
              clear hW b4 zb hR2
              go_wp2_with fail
              go_quiet (fail)
              have NQQ : ∃ t, W.drewN nq = W.drewN t := ⟨nq, rfl⟩
              clear c0 c1 c2 w1 w2 w3 w4 w5 w6
              go_wp2
              go_roundw
              case rel => exact ⟨j + 1, q + nq, by omega, by go_num, by rw [← HW.out, World.drewN_drewN]⟩
              case measure => simp [intOf]; omega
          · skip
            have g1' : ¬ (N : Int) ≤ (j : Int) := by omega
            have g2' : decide ((N : Int) ≤ (j : Int)) = false := decide_eq_false g1'
            have g7 : decide (N ≤ j) = false := decide_eq_false gA
            clear x1
            have c1 := c0
            by_cases gB : N2 < 3000
            · skip
              have r0 : (0 : Int) ≤ (R : Int) := by omega
              have r1 : (R : Int) < 3000 := by omega
              obtain ⟨x6, rfl, -, c2⟩ := C_f.out R (by omega)
              have c2 : (w1232.drewN q).cell? (x6.add R) = some (.int .i64 (F0 R)) := c2
              rw [x2] at c2
              have g3' : (N2 : Int) < 3000 := by omega
              have g4' : decide ((N2 : Int) < 3000) = true := decide_eq_true g3'
              have g8 : decide (N2 < 3000) = true := decide_eq_true gB
              clear x2
              obtain ⟨W, hW⟩ : ∃ W, w1232.drewN q = W := ⟨_, rfl⟩
              rw [hW] at c0 c1 c2 ⊢
              have HW := Lib.hid hW
              clear hW b4 zb hR2
              go_wp2_with fail
              go_quiet (fail)
              have NQQ : ∃ t, W.drewN nq = W.drewN t := ⟨nq, rfl⟩
              clear c0 c1 c2 w1 w2 w3 w4 w5
              go_wp2
              go_roundw
              case rel => exact ⟨j + 1, q + nq, by omega, by go_num, by rw [← HW.out, World.drewN_drewN]⟩
              case measure => simp [intOf]; omega
            · skip
              have g3' : ¬ (N2 : Int) < 3000 := by omega
              have g4' : decide ((N2 : Int) < 3000) = false := decide_eq_false g3'
              have c2 := c0
              have g8 : decide (N2 < 3000) = false := decide_eq_false gB
              clear x2
              obtain ⟨W, hW⟩ : ∃ W, w1232.drewN q = W := ⟨_, rfl⟩
              rw [hW] at c0 c1 c2 ⊢
              have HW := Lib.hid hW
              clear hW b4 zb hR2
              go_wp2_with fail
              go_quiet (fail)
              have NQQ : ∃ t, W.drewN nq = W.drewN t := ⟨nq, rfl⟩
              clear c0 c1 c2 w1 w2 w3 w4 w5
              go_wp2
              go_roundw
              case rel => exact ⟨j + 1, q + nq, by omega, by go_num, by rw [← HW.out, World.drewN_drewN]⟩
              case measure => simp [intOf]; omega
        · skip
          obtain rfl : Q = j := by omega
          clear C_l C_f hj hlt
          have O2139 := O1235.drewN q
          clear O1235
          have O2140 := O1234.drewN q
          clear O1234
          have Q2141 := Q1236.below (below_drewN (Below.refl _ _) q) Q1236.2.2
          clear Q1236
          have bd := below_drewN bc q
          clear bc
          have bc := bd
          clear bd
          obtain ⟨w2138, hW⟩ : ∃ W, w1232.drewN q = W := ⟨_, rfl⟩
          rw [hW] at O2139 O2140 Q2141 bc ⊢
          clear hW
          clear O2140
          obtain ⟨d0, d1, dl⟩ := id Q2141
          go_wp2_with fail
          refine (HP.out _).mono ?_
          rintro e w2142 ⟨rfl, hb2143⟩
          clear d0 d1 dl
          have O2144 := O2139.below hb2143
          clear O2139
          have Q2145 := Q2141.below hb2143 Q2141.2.2
          clear Q2141
          have b2146 := below_then bc (Nat.le_refl _) hb2143
          clear bc
          have bc := b2146
          clear b2146 hb2143
          have hcg := HCG.out
          obtain ⟨d0, d1, dl⟩ := id Q2145
          go_wp2
          go_ret
          exact ⟨rfl, bc⟩
  · skip
    rw [(ps_no hb).1, (ps_no hb).2] at hi hv
    clear hb
    cases hpv : pilB c g with
    | false =>
      rw [show lenAns c g = -1 by unfold lenAns; rw [hpv]; rfl] at hl hm
      rw [hpv] at hp
      clear hpv
      have HI := Lib.hid hi
      have HV := Lib.hid hv
      have HL := Lib.hid hl
      have HM := Lib.hid hm
      have HP := Lib.hid hp
      clear hi hv hl hm hp
      obtain ⟨d0, d1, dl⟩ := id Q0
      rw [← HVV.out, ← HXX.out] at d0 d1
      go_wp2_with fail
      clear d0 d1 dl
      rw [HVV.out, HXX.out]
      refine (HI.out _).mono ?_
      rintro e w2347 ⟨u, rfl, O2349, hb2348⟩
      have Q2350 := Q0.below hb2348 Q0.2.2
      clear Q0
      have b2351 := below_then bc (Nat.le_refl _) hb2348
      clear bc
      have bc := b2351
      clear b2351 hb2348
      obtain ⟨d0, d1, dl⟩ := id Q2350
      go_wp2_with fail
      refine (HV.out _).mono ?_
      rintro e w2352 ⟨u2, rfl, O2354, hb2353⟩
      clear d0 d1 dl
      have O2355 := O2349.below hb2353
      clear O2349
      have Q2356 := Q2350.below hb2353 Q2350.2.2
      clear Q2350
      have b2357 := below_then bc (Nat.le_refl _) hb2353
      clear bc
      have bc := b2357
      clear b2357 hb2353
      obtain ⟨d0, d1, dl⟩ := id Q2356
      go_wp2_with fail
      have HQI : Hid (∀ t, Calls Try.prog 16 #[u, u2] (w2352.drewN t) fun e w'' => e = .returned (.bool true) ∧ ∃ m, w'' = w2352.drewN m) := Lib.hid (fun t => quiet_dr (ssInts_sameR u u2 0 _ (w2352.drewN t) (O2355.drewN t).ints (O2354.drewN t).ints (by omega)))
      go_quiet ((go_at_call 16; exact HQI.out _))
      clear d0 d1 dl HQI
      have OL2 := O2355.drewN nq
      have OS2 := O2354.drewN nq
      have Q2 := Q2356.below (below_drewN (Below.refl _ _) nq) Q2356.2.2
      have b2 := below_drewN bc nq
      obtain ⟨w5, hW⟩ : ∃ W, w2352.drewN nq = W := ⟨_, rfl⟩
      rw [hW] at OL2 OS2 Q2 b2 ⊢
      clear hW bc O2355 O2354 Q2356
      obtain ⟨d0, d1, dl⟩ := id Q2
      go_wp2_with fail
      have kk := (Below.refl w5.heap.size w5).drew
      obtain ⟨e0, e1, el⟩ := Q2.below kk Q2.2.2
      have I1 := (OL2.below kk).ints
      have I2 := (OS2.below kk).ints
      have bd := b2.drew
      go_region_held3 (fun wx => wx.cell? ⟨X, 0, none⟩ = some (.string c) ∧ wx.cell? ⟨X, 1, none⟩ = some (.int .i64 g)) (first | with_reducible exact ⟨v5_0, v5_1⟩ | with_reducible exact ⟨v4_0, v4_1⟩ | with_reducible exact ⟨v3_0, v3_1⟩ | with_reducible exact ⟨v2_0, v2_1⟩ | with_reducible exact ⟨v1_0, v1_1⟩ | with_reducible exact ⟨e0, e1⟩) (first
        | (go_at_call 17; refine (HL.out _).mono ?_; rintro e v5 ⟨rfl, hv5⟩; have kv5 := below_then kv4 (Nat.le_refl _) hv5; obtain ⟨v5_0, v5_1, v5l⟩ := Q2.below kv5 Q2.2.2; have bv5 := below_then bv4 (Nat.le_refl _) hv5)
        | (go_at_call 19; refine (HP.out _).mono ?_; rintro e v4 ⟨rfl, hv4⟩; have kv4 := below_then kv3 (Nat.le_refl _) hv4; obtain ⟨v4_0, v4_1, v4l⟩ := Q2.below kv4 Q2.2.2; have bv4 := below_then bv3 (Nat.le_refl _) hv4)
        | (go_at_call 18; refine (HM.out _).mono ?_; rintro e v3 ⟨rfl, hv3⟩; have kv3 := below_then kv2 (Nat.le_refl _) hv3; obtain ⟨v3_0, v3_1, v3l⟩ := Q2.below kv3 Q2.2.2; have bv3 := below_then bv2 (Nat.le_refl _) hv3)
        | (go_at_call 17; refine (HL.out _).mono ?_; rintro e v2 ⟨rfl, hv2⟩; have kv2 := below_then kv1 (Nat.le_refl _) hv2; obtain ⟨v2_0, v2_1, v2l⟩ := Q2.below kv2 Q2.2.2; have bv2 := below_then bv1 (Nat.le_refl _) hv2)
        | (go_at_call 16; refine (ssInts_sameR _ _ 0 _ _ I1 I2 (by omega)).mono ?_; rintro e v1 ⟨rfl, m8, h8⟩; have kv1 : Below w5.heap.size w5 v1 := (by rw [h8]; exact below_drewN kk m8); have bv1 : Below w.heap.size w v1 := (by rw [h8]; exact below_drewN bd m8); obtain ⟨v1_0, v1_1, v1l⟩ := Q2.below kv1 Q2.2.2; clear h8))
      go_wp2
      go_ret
      exact ⟨ret_bool (by simp), bv5⟩
    | true =>
      rw [show lenAns c g = (perL c g : Int) by unfold lenAns; rw [if_pos hpv]] at hl hm
      rw [hpv] at hp
      obtain ⟨G, rfl, g1, g8, -, q4, -, -, q7, p1, p2⟩ := pil_nat hpv
      obtain ⟨N, hN⟩ : ∃ N, perL c (G : Int) = N := ⟨_, rfl⟩
      rw [hN] at hl hm p1 p2
      clear hN hpv q4 q7
      have dN : decide ((0 : Int) < (N : Int)) = true := decide_eq_true (by omega)
      have dN2 : (0 : Int) < (N : Int) := by omega
      have HI := Lib.hid hi
      have HV := Lib.hid hv
      have HL := Lib.hid hl
      have HM := Lib.hid hm
      have HP := Lib.hid hp
      clear hi hv hl hm hp
      obtain ⟨d0, d1, dl⟩ := id Q0
      rw [← HVV.out, ← HXX.out] at d0 d1
      go_wp2_with fail
      clear d0 d1 dl
      rw [HVV.out, HXX.out]
      refine (HI.out _).mono ?_
      rintro e w2458 ⟨u, rfl, O2460, hb2459⟩
      have Q2461 := Q0.below hb2459 Q0.2.2
      clear Q0
      have b2462 := below_then bc (Nat.le_refl _) hb2459
      clear bc
      have bc := b2462
      clear b2462 hb2459
      obtain ⟨d0, d1, dl⟩ := id Q2461
      go_wp2_with fail
      refine (HV.out _).mono ?_
      rintro e w2463 ⟨u2, rfl, O2465, hb2464⟩
      clear d0 d1 dl
      have O2466 := O2460.below hb2464
      clear O2460
      have Q2467 := Q2461.below hb2464 Q2461.2.2
      clear Q2461
      have b2468 := below_then bc (Nat.le_refl _) hb2464
      clear bc
      have bc := b2468
      clear b2468 hb2464
      obtain ⟨d0, d1, dl⟩ := id Q2467
      go_wp2_with fail
      have HQI : Hid (∀ t, Calls Try.prog 16 #[u, u2] (w2463.drewN t) fun e w'' => e = .returned (.bool true) ∧ ∃ m, w'' = w2463.drewN m) := Lib.hid (fun t => quiet_dr (ssInts_sameR u u2 0 _ (w2463.drewN t) (O2466.drewN t).ints (O2465.drewN t).ints (by omega)))
      go_quiet ((go_at_call 16; exact HQI.out _))
      clear d0 d1 dl HQI
      have OL2 := O2466.drewN nq
      have OS2 := O2465.drewN nq
      have Q2 := Q2467.below (below_drewN (Below.refl _ _) nq) Q2467.2.2
      have b2 := below_drewN bc nq
      obtain ⟨w5, hW⟩ : ∃ W, w2463.drewN nq = W := ⟨_, rfl⟩
      rw [hW] at OL2 OS2 Q2 b2 ⊢
      clear hW bc O2466 O2465 Q2467
      obtain ⟨d0, d1, dl⟩ := id Q2
      go_wp2_with fail
      have kk := (Below.refl w5.heap.size w5).drew
      obtain ⟨e0, e1, el⟩ := Q2.below kk Q2.2.2
      have I1 := (OL2.below kk).ints
      have I2 := (OS2.below kk).ints
      have bd := b2.drew
      go_region_held3 (fun wx => wx.cell? ⟨X, 0, none⟩ = some (.string c) ∧ wx.cell? ⟨X, 1, none⟩ = some (.int .i64 (G : Int))) (first | with_reducible exact ⟨v5_0, v5_1⟩ | with_reducible exact ⟨v4_0, v4_1⟩ | with_reducible exact ⟨v3_0, v3_1⟩ | with_reducible exact ⟨v2_0, v2_1⟩ | with_reducible exact ⟨v1_0, v1_1⟩ | with_reducible exact ⟨e0, e1⟩) (first
        | (go_at_call 17; refine (HL.out _).mono ?_; rintro e v5 ⟨rfl, hv5⟩; have kv5 := below_then kv4 (Nat.le_refl _) hv5; obtain ⟨v5_0, v5_1, v5l⟩ := Q2.below kv5 Q2.2.2; have bv5 := below_then bv4 (Nat.le_refl _) hv5)
        | (go_at_call 19; refine (HP.out _).mono ?_; rintro e v4 ⟨rfl, hv4⟩; have kv4 := below_then kv3 (Nat.le_refl _) hv4; obtain ⟨v4_0, v4_1, v4l⟩ := Q2.below kv4 Q2.2.2; have bv4 := below_then bv3 (Nat.le_refl _) hv4)
        | (go_at_call 18; refine (HM.out _).mono ?_; rintro e v3 ⟨rfl, hv3⟩; have kv3 := below_then kv2 (Nat.le_refl _) hv3; obtain ⟨v3_0, v3_1, v3l⟩ := Q2.below kv3 Q2.2.2; have bv3 := below_then bv2 (Nat.le_refl _) hv3)
        | (go_at_call 17; refine (HL.out _).mono ?_; rintro e v2 ⟨rfl, hv2⟩; have kv2 := below_then kv1 (Nat.le_refl _) hv2; obtain ⟨v2_0, v2_1, v2l⟩ := Q2.below kv2 Q2.2.2; have bv2 := below_then bv1 (Nat.le_refl _) hv2)
        | (go_at_call 16; refine (ssInts_sameR _ _ 0 _ _ I1 I2 (by omega)).mono ?_; rintro e v1 ⟨rfl, m8, h8⟩; have kv1 : Below w5.heap.size w5 v1 := (by rw [h8]; exact below_drewN kk m8); have bv1 : Below w.heap.size w v1 := (by rw [h8]; exact below_drewN bd m8); obtain ⟨v1_0, v1_1, v1l⟩ := Q2.below kv1 Q2.2.2; clear h8))
      go_wp2
      go_ret
      exact ⟨ret_bool (by simp <;> omega), bv5⟩
end Go.Proofs.Ytmeooebklohdfaa
