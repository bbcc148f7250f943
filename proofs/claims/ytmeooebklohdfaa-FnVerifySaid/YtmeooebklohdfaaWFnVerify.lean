/- The walk of the law FnVerify. -/
import Derived.Test.YtmeooebklohdfaaDrawPil6
import Derived.Test.YtmeooebklohdfaaPil10
import Derived.Test.YtmeooebklohdfaaSsPil
import Derived.Deep.RegionHeld3
import Derived.BigQuiet
namespace Go.Proofs.Ytmeooebklohdfaa
open Go.RowKit
set_option linter.unusedVariables false
theorem sc_okV {n : Nat} {f : Nat → Int} {c : ByteArray} {g k : Int} {b : Bool} (h : roB n f c g k = b) : (scAns n f c g k).2 = b := by
  cases b with
  | false => rw [sc_no h]
  | true => rw [sc_yes h]
theorem vf_one {n : Nat} {f : Nat → Int} {c : ByteArray} {g k t : Int} (h : roB n f c g k = true) : vfAns n f c g k t 1 1 = decide (t ≤ (scAns n f c g k).1) := by
  rw [vf_yes h (by omega) (by omega)]
  have h2 := (roB_iff _ _ _ _ _).1 h
  have e : (scAns n f c g k).1 = scr n f c g.toNat (perL c g) k := by unfold scAns; rw [h2.1, h2.2]; rfl
  rw [e]
  show decide ((1 : Int) ≤ ((vfC n f c g.toNat (perL c g) k t 0 + if t ≤ scr (n - 0 * perL c g) (cutF (0 * perL c g) f) c g.toNat (perL c g) k then 1 else 0 : Nat) : Int)) = _
  rw [Nat.zero_mul, Nat.sub_zero, show cutF 0 f = f by funext i; unfold cutF; rw [Nat.zero_add]]
  by_cases q : t ≤ scr n f c g.toNat (perL c g) k
  · rw [if_pos q, decide_eq_true q]; rfl
  · rw [if_neg q, decide_eq_false q]; rfl
set_option maxHeartbeats 12800000 in
set_option maxRecDepth 100000 in
theorem fnVerify_walk (a0 : Option Addr) (len0 cap0 : Nat) (z0 : List Int) (w : World) (w0 : IsBytes w a0 len0 cap0 z0) :
    Calls Try.prog 8 #[.slice a0 len0 cap0] w fun e w' => e = .returned (.bool true) ∧ Below w.heap.size w w' := by
  by_cases hl0 : 1048576 < len0
  · go_enter Try.func8, Try.ntmps8
    go_wp2
    go_ret
    exact ⟨rfl, Below.refl _ _⟩
  go_enter Try.func8, Try.ntmps8
  go_wp2_with fail
  refine (drawVerify_any a0 len0 cap0 z0 _ w0).mono ?_
  rintro e W1 ⟨v, n, f, c, g, k, t, s, m, rfl, O0, hn, hf, hc, hg, hk0, ht0, hs0, hm0, bc0⟩
  obtain ⟨sa, sc, rfl, -⟩ := O0.form
  have Q0 := PilAt.new W1 24 c g
  have bc := bc0.alloc bc0.size (.cells #[.string c, .int .i64 g] 24)
  have OV := O0.alloc (.cells #[.string c, .int .i64 g] 24)
  clear w0 bc0 O0 hf
  obtain ⟨V, hV⟩ : ∃ V, W1.alloc (.cells #[.string c, .int .i64 g] 24) = V := ⟨_, rfl⟩
  obtain ⟨X, hX⟩ : ∃ X, W1.heap.size = X := ⟨_, rfl⟩
  have HVV := Lib.hid hV
  have HXX := Lib.hid hX
  rw [hV] at Q0 bc OV
  rw [hX] at Q0
  clear hV hX
  unfold FitsI at hs0 hm0 ht0
  have hi := fun w h => iVerify_any (.slice sa n sc) n f c g k t s m w h (by omega) (by omega)
  have hv := fun w h => sVerify_any (.slice sa n sc) n f c g k t s m w h (by omega) (by omega)
  have hs := fun w h => iScoreAt_any (.slice sa n sc) n f c g k w h (by omega) (by omega)
  by_cases hb : roB n f c g k = true ∧ 0 ≤ s ∧ s ≤ 200
  · skip
    obtain ⟨hr, s0, s2⟩ := hb
    obtain ⟨r1, r2⟩ := (roB_iff _ _ _ _ _).1 hr
    obtain ⟨r3, k0, k1⟩ := (offB_iff _ _ _).1 r2
    obtain ⟨G, rfl, g1, g8, -, -, -, -, -, p1, p2⟩ := pil_nat r3
    obtain ⟨T, rfl⟩ : ∃ T : Nat, s = (T : Int) := ⟨s.toNat, by omega⟩
    rw [vf_yes hr s0 s2, Int.toNat_natCast T] at hi hv
    rw [sc_okV hr] at hs
    have hl := fun w => iPLen_any c (G : Int) w (by omega)
    rw [show lenAns c (G : Int) = (perL c (G : Int) : Int) by unfold lenAns; rw [if_pos r3]] at hl
    have h3000 := ((sigB_iff _ _).1 r1).2
    have hss : ∀ (j M L : Nat) (ta : Option Addr) (tc : Nat) w, M = min (j * perL c (G : Int)) n → n - M = L → IntsC w (.slice ta L tc) L (fun i => f (M + i)) → Calls Try.prog 26 #[.slice ta L tc, .agg #[.string c, .int .i64 (G : Int)], .int .i64 k] w fun e w' => e = .returned (.int .i64 (scr (n - j * perL c (G : Int)) (cutF (j * perL c (G : Int)) f) c (G : Int).toNat (perL c (G : Int)) k)) ∧ Below w.heap.size w w' := fun j M L ta tc w hM hL h => by
      subst hL
      have h1 := ssScore_any (.slice ta (n - M) tc) (n - M) (cutF M f) c (G : Int) k w h (by omega) (by omega)
      have h2 : sigB (n - M) (cutF M f) = true := (sigB_iff _ _).2 ⟨allM_cut ((sigB_iff _ _).1 r1).1 M, by omega⟩
      rw [show (scAns (n - M) (cutF M f) c (G : Int) k).1 = scr (n - M) (cutF M f) c (G : Int).toNat (perL c (G : Int)) k by unfold scAns; rw [h2, r2]; rfl] at h1
      have e2 : scr (n - M) (cutF M f) c (G : Int).toNat (perL c (G : Int)) k = scr (n - j * perL c (G : Int)) (cutF (j * perL c (G : Int)) f) c (G : Int).toNat (perL c (G : Int)) k := by rw [hM, scr_past]
      rw [e2] at h1
      exact h1
    have h11 := fun w h => iVerify_any (.slice sa n sc) n f c (G : Int) k t 1 1 w h (by omega) (by omega)
    rw [vf_one hr] at h11
    have hs1 := fun w h => ssScore_any (.slice sa n sc) n f c (G : Int) k w h (by omega) (by omega)
    have hc0 : vfC n f c (G : Int).toNat (perL c (G : Int)) k t 0 = 0 := rfl
    have hcn : ∀ j, vfC n f c (G : Int).toNat (perL c (G : Int)) k t (j + 1) = vfC n f c (G : Int).toNat (perL c (G : Int)) k t j + if t ≤ scr (n - j * perL c (G : Int)) (cutF (j * perL c (G : Int)) f) c (G : Int).toNat (perL c (G : Int)) k then 1 else 0 := fun j => rfl
    have hcl := vfC_le n f c (G : Int).toNat (perL c (G : Int)) k t
    obtain ⟨C, hC⟩ : ∃ C, vfC n f c (G : Int).toNat (perL c (G : Int)) k t = C := ⟨_, rfl⟩
    rw [hC] at hi hv hc0 hcn hcl
    clear hC
    obtain ⟨R, hR⟩ : ∃ R : Nat → Int, (fun j => scr (n - j * perL c (G : Int)) (cutF (j * perL c (G : Int)) f) c (G : Int).toNat (perL c (G : Int)) k) = R := ⟨_, rfl⟩
    have hR1 : ∀ j, scr (n - j * perL c (G : Int)) (cutF (j * perL c (G : Int)) f) c (G : Int).toNat (perL c (G : Int)) k = R j := fun j => congrFun hR j
    simp only [hR1] at hss hcn
    clear hR hR1
    obtain ⟨Y, hY⟩ : ∃ Y, (scAns n f c (G : Int) k).1 = Y := ⟨_, rfl⟩
    rw [hY] at hs h11 hs1
    obtain ⟨N, hN⟩ : ∃ N, perL c (G : Int) = N := ⟨_, rfl⟩
    rw [hN] at hl hss p1 p2
    clear hY hN hr r1 r2 r3 k0 k1
    have HI := Lib.hid hi
    have HV := Lib.hid hv
    have HS := Lib.hid hs
    have HL := Lib.hid hl
    have HSS := Lib.hid hss
    have H11 := Lib.hid h11
    have HS1 := Lib.hid hs1
    have HCN := Lib.hid hcn
    have HCL := Lib.hid hcl
    clear hi hv hs hl hss h11 hs1 hcn hcl
    have HC0 := Lib.hid hc0
    clear hc0
    obtain ⟨d0, d1, dl⟩ := id Q0
    rw [← HVV.out, ← HXX.out] at d0 d1
    go_wp2_with fail
    clear d0 d1 dl
    rw [HVV.out, HXX.out]
    refine (HI.out _ OV.intsC).mono ?_
    rintro e w101 ⟨rfl, hb102⟩
    have O103 := OV.below hb102
    clear OV
    have Q104 := Q0.below hb102 Q0.2.2
    clear Q0
    have b105 := below_then bc (Nat.le_refl _) hb102
    clear bc
    have bc := b105
    clear b105 hb102
    obtain ⟨d0, d1, dl⟩ := id Q104
    go_wp2_with fail
    refine (HV.out _ O103.ints).mono ?_
    rintro e w106 ⟨rfl, hb107⟩
    clear d0 d1 dl
    have O108 := O103.below hb107
    clear O103
    have Q109 := Q104.below hb107 Q104.2.2
    clear Q104
    have b110 := below_then bc (Nat.le_refl _) hb107
    clear bc
    have bc := b110
    clear b110 hb107
    obtain ⟨d0, d1, dl⟩ := id Q109
    go_wp2_with fail
    refine (HS.out _ O108.intsC).mono ?_
    rintro e w111 ⟨rfl, hb112⟩
    clear d0 d1 dl
    have O113 := O108.below hb112
    clear O108
    have Q114 := Q109.below hb112 Q109.2.2
    clear Q109
    have b115 := below_then bc (Nat.le_refl _) hb112
    clear bc
    have bc := b115
    clear b115 hb112
    have l1 : ¬ ((T : Int) < 0) := by omega
    have l2 : ¬ ((200 : Int) < (T : Int)) := by omega
    go_wp2_with fail
    go_loopw [12, 13] (fun cv i wr => ∃ j : Nat, j ≤ T ∧ cv = .int .i64 (C j : Nat) ∧ i = .int .i64 (j : Int) ∧ Below w111.heap.size w111 wr) (fun _ i _ => T - (intOf i).toNat)
    case atStart => exact ⟨0, by omega, by rw [HC0.out]; rfl, rfl, Below.refl _ _⟩
    case round =>
      obtain ⟨j, hj, rfl, rfl, rb⟩ := hrel
      have O1 := O113.below rb
      have Q1 := Q114.below rb Q114.2.2
      have b1 := below_then bc (Nat.le_refl _) rb
      have HCL := HCL.out j
      clear O113 Q114 bc l1 l2
      by_cases hlt : j < T
      · skip
        obtain ⟨d0, d1, dl⟩ := id Q1
        have i1 : (j : Int) < (T : Int) := by omega
        go_wp2_with fail
        refine (HL.out _).mono ?_
        rintro e w8 ⟨rfl, hb8⟩
        clear d0 d1 dl
        have O2 := O1.below hb8
        have Q2 := Q1.below hb8 Q1.2.2
        have rb2 := below_then rb (Nat.le_refl _) hb8
        clear O1 Q1 b1 rb hb8
        have jp : j * N ≤ 200 * 2040 := Nat.mul_le_mul (by omega) p2
        obtain ⟨JP, hJP⟩ : ∃ JP, j * N = JP := ⟨_, rfl⟩
        have mj : (j : Int) * (N : Int) = (JP : Int) := by rw [← hJP, Int.natCast_mul]
        rw [hJP] at jp
        have HJP := Lib.hid hJP
        clear hJP
        have HSSJ := HSS.out j
        rw [HJP.out] at HSSJ
        have HSJ := Lib.hid HSSJ
        have HCJ := HCN.out j
        obtain ⟨y, hy⟩ : ∃ y, R j = y := ⟨_, rfl⟩
        rw [hy] at HCJ HSSJ
        have HSJ := Lib.hid HSSJ
        have HCK := Lib.hid HCJ
        obtain ⟨cj, hcj⟩ : ∃ x, C j = x := ⟨_, rfl⟩
        rw [hcj] at HCL HCJ ⊢
        replace HCK := Lib.hid HCJ
        clear hy hcj HSSJ HCJ
        by_cases hmn : JP ≤ n
        · skip
          have q1 : ¬ ((n : Int) < (JP : Int)) := by omega
          have q2 : min (JP : Int) (n : Int) = (JP : Int) := by omega
          obtain ⟨ta, tc, tr, tI⟩ := tailC O2.intsC JP (by omega)
          obtain ⟨L, hL⟩ : ∃ L, n - JP = L := ⟨_, rfl⟩
          rw [hL] at tr tI
          have HLL := Lib.hid hL
          clear hL
          go_wp2_with fail
          obtain ⟨e0, e1, el⟩ := Q2.below (Below.refl _ _).drew Q2.2.2
          have tJ := tI.below (Below.refl _ _).drew
          have rb3 := rb2.drew
          have xx := (below_drewN (Below.refl w8.heap.size w8) 1)
          go_region_held3 (fun wx => wx.cell? ⟨X, 0, none⟩ = some (.string c) ∧ wx.cell? ⟨X, 1, none⟩ = some (.int .i64 (G : Int))) (first | exact ⟨m0, m1⟩ | exact ⟨e0, e1⟩) (first
            | (go_at_call 26; refine (HSJ.out JP L ta tc _ (by omega) HLL.out tJ).mono ?_; rintro e w9 ⟨rfl, hb9⟩; obtain ⟨m0, m1, ml⟩ := Q2.below (below_then (Below.refl _ _).drew (Nat.le_refl _) hb9) Q2.2.2; have rb9 := below_then rb3 (Nat.le_refl _) hb9))
          clear e0 e1 el m0 m1 ml tr tI tJ rb2 rb3 xx hb9 O2 Q2 mj
          by_cases hge : t ≤ y
          · skip
            have HCE : Hid (C (j + 1) = cj + 1) := Lib.hid (by have h7 := HCK.out; rw [if_pos hge] at h7; omega)
            go_wp2
            go_roundw
            case rel => exact ⟨j + 1, by omega, by rw [HCE.out]; go_num, by go_num, rb9⟩
            case measure => simp [intOf]; omega
          · skip
            have HCE : Hid (C (j + 1) = cj) := Lib.hid (by have h7 := HCK.out; rw [if_neg hge] at h7; omega)
            go_wp2
            go_roundw
            case rel => exact ⟨j + 1, by omega, by rw [HCE.out], by go_num, rb9⟩
            case measure => simp [intOf]; omega
        · skip
          have q1 : (n : Int) < (JP : Int) := by omega
          have q2 : min (JP : Int) (n : Int) = (n : Int) := by omega
          obtain ⟨ta, tc, tr, tI⟩ := tailC O2.intsC n (by omega)
          obtain ⟨L, hL⟩ : ∃ L, n - n = L := ⟨_, rfl⟩
          rw [hL] at tr tI
          have HLL := Lib.hid hL
          clear hL
          go_wp2_with fail
          obtain ⟨e0, e1, el⟩ := Q2.below (Below.refl _ _).drew Q2.2.2
          have tJ := tI.below (Below.refl _ _).drew
          have rb3 := rb2.drew
          have xx := (below_drewN (Below.refl w8.heap.size w8) 1)
          go_region_held3 (fun wx => wx.cell? ⟨X, 0, none⟩ = some (.string c) ∧ wx.cell? ⟨X, 1, none⟩ = some (.int .i64 (G : Int))) (first | exact ⟨m0, m1⟩ | exact ⟨e0, e1⟩) (first
            | (go_at_call 26; refine (HSJ.out n L ta tc _ (by omega) HLL.out tJ).mono ?_; rintro e w9 ⟨rfl, hb9⟩; obtain ⟨m0, m1, ml⟩ := Q2.below (below_then (Below.refl _ _).drew (Nat.le_refl _) hb9) Q2.2.2; have rb9 := below_then rb3 (Nat.le_refl _) hb9))
          clear e0 e1 el m0 m1 ml tr tI tJ rb2 rb3 xx hb9 O2 Q2 mj
          by_cases hge : t ≤ y
          · skip
            have HCE : Hid (C (j + 1) = cj + 1) := Lib.hid (by have h7 := HCK.out; rw [if_pos hge] at h7; omega)
            go_wp2
            go_roundw
            case rel => exact ⟨j + 1, by omega, by rw [HCE.out]; go_num, by go_num, rb9⟩
            case measure => simp [intOf]; omega
          · skip
            have HCE : Hid (C (j + 1) = cj) := Lib.hid (by have h7 := HCK.out; rw [if_neg hge] at h7; omega)
            go_wp2
            go_roundw
            case rel => exact ⟨j + 1, by omega, by rw [HCE.out], by go_num, rb9⟩
            case measure => simp [intOf]; omega
      · skip
        obtain rfl : T = j := by omega
        clear hj hlt rb HCN HSS HL
        obtain ⟨cj, hcj⟩ : ∃ x, C T = x := ⟨_, rfl⟩
        rw [hcj] at HCL ⊢
        have HCJ := Lib.hid hcj
        clear hcj
        have bc := b1
        clear b1
        by_cases hm1 : m ≤ (cj : Int)
        · skip
          have dm : decide (m ≤ (cj : Int)) = true := decide_eq_true hm1
          by_cases hT : T = 0
          · skip
            have T1 : (T : Int) < 1 := by omega
            have T2 : decide ((T : Int) < 1) = true := decide_eq_true T1
            go_wp2_with fail
            go_quiet (fail)
            have bd := below_drewN bc nq
            go_wp2
            go_ret
            exact ⟨rfl, bd⟩
          · skip
            have T1 : ¬ (T : Int) < 1 := by omega
            have T2 : decide ((T : Int) < 1) = false := decide_eq_false T1
            go_wp2_with fail
            obtain ⟨e0, e1, el⟩ := Q1.below (Below.refl _ _).drew Q1.2.2
            have I1 := O1.intsC.below (Below.refl _ _).drew
            have bd := bc.drew
            go_region_held3 (fun wx => wx.cell? ⟨X, 0, none⟩ = some (.string c) ∧ wx.cell? ⟨X, 1, none⟩ = some (.int .i64 (G : Int))) (first | exact ⟨n0, n1⟩ | exact ⟨m0, m1⟩ | exact ⟨e0, e1⟩) (first
              | (go_at_call 26; refine (HS1.out _ I2).mono ?_; rintro e w10 ⟨rfl, hb10⟩; obtain ⟨n0, n1, nl⟩ := Q1.below (below_then kk9 (Nat.le_refl _) hb10) Q1.2.2; have bd10 := below_then bd9 (Nat.le_refl _) hb10)
              | (go_at_call 39; refine (H11.out _ I1).mono ?_; rintro e w9 ⟨rfl, hb9⟩; have kk9 := below_then (Below.refl wr.heap.size wr).drew (Nat.le_refl _) hb9; obtain ⟨m0, m1, ml⟩ := Q1.below kk9 Q1.2.2; have I2 := I1.below hb9; have bd9 := below_then bd (Nat.le_refl _) hb9))
            go_wp2
            go_ret
            exact ⟨ret_bool (by simp), bd10⟩
        · skip
          have dm : decide (m ≤ (cj : Int)) = false := decide_eq_false hm1
          by_cases hT : T = 0
          · skip
            have T1 : (T : Int) < 1 := by omega
            have T2 : decide ((T : Int) < 1) = true := decide_eq_true T1
            go_wp2_with fail
            go_quiet (fail)
            have bd := below_drewN bc nq
            go_wp2
            go_ret
            exact ⟨rfl, bd⟩
          · skip
            have T1 : ¬ (T : Int) < 1 := by omega
            have T2 : decide ((T : Int) < 1) = false := decide_eq_false T1
            go_wp2_with fail
            obtain ⟨e0, e1, el⟩ := Q1.below (Below.refl _ _).drew Q1.2.2
            have I1 := O1.intsC.below (Below.refl _ _).drew
            have bd := bc.drew
            go_region_held3 (fun wx => wx.cell? ⟨X, 0, none⟩ = some (.string c) ∧ wx.cell? ⟨X, 1, none⟩ = some (.int .i64 (G : Int))) (first | exact ⟨n0, n1⟩ | exact ⟨m0, m1⟩ | exact ⟨e0, e1⟩) (first
              | (go_at_call 26; refine (HS1.out _ I2).mono ?_; rintro e w10 ⟨rfl, hb10⟩; obtain ⟨n0, n1, nl⟩ := Q1.below (below_then kk9 (Nat.le_refl _) hb10) Q1.2.2; have bd10 := below_then bd9 (Nat.le_refl _) hb10)
              | (go_at_call 39; refine (H11.out _ I1).mono ?_; rintro e w9 ⟨rfl, hb9⟩; have kk9 := below_then (Below.refl wr.heap.size wr).drew (Nat.le_refl _) hb9; obtain ⟨m0, m1, ml⟩ := Q1.below kk9 Q1.2.2; have I2 := I1.below hb9; have bd9 := below_then bd (Nat.le_refl _) hb9))
            go_wp2
            go_ret
            exact ⟨ret_bool (by simp), bd10⟩
  · skip
    rw [vf_no hb] at hi hv
    have HI := Lib.hid hi
    have HV := Lib.hid hv
    have HS := Lib.hid hs
    clear hi hv hs
    obtain ⟨d0, d1, dl⟩ := id Q0
    rw [← HVV.out, ← HXX.out] at d0 d1
    go_wp2_with fail
    clear d0 d1 dl
    rw [HVV.out, HXX.out]
    refine (HI.out _ OV.intsC).mono ?_
    rintro e w1716 ⟨rfl, hb1717⟩
    have O1718 := OV.below hb1717
    clear OV
    have Q1719 := Q0.below hb1717 Q0.2.2
    clear Q0
    have b1720 := below_then bc (Nat.le_refl _) hb1717
    clear bc
    have bc := b1720
    clear b1720 hb1717
    obtain ⟨d0, d1, dl⟩ := id Q1719
    go_wp2_with fail
    refine (HV.out _ O1718.ints).mono ?_
    rintro e w1721 ⟨rfl, hb1722⟩
    clear d0 d1 dl
    have O1723 := O1718.below hb1722
    clear O1718
    have Q1724 := Q1719.below hb1722 Q1719.2.2
    clear Q1719
    have b1725 := below_then bc (Nat.le_refl _) hb1722
    clear bc
    have bc := b1725
    clear b1725 hb1722
    cases hr : roB n f c g k with
    | false =>
      have HSC := HS.out
      rw [sc_okV hr] at HSC
      have HSD := Lib.hid HSC
      clear HSC hb hr
      obtain ⟨d0, d1, dl⟩ := id Q1724
      go_wp2_with fail
      refine (HSD.out _ O1723.intsC).mono ?_
      rintro e w1826 ⟨rfl, hb1827⟩
      clear d0 d1 dl
      have O1828 := O1723.below hb1827
      clear O1723
      have Q1829 := Q1724.below hb1827 Q1724.2.2
      clear Q1724
      have b1830 := below_then bc (Nat.le_refl _) hb1827
      clear bc
      have bc := b1830
      clear b1830 hb1827
      go_wp2
      go_ret
      exact ⟨rfl, bc⟩
    | true =>
      have HSC := HS.out
      rw [sc_okV hr] at HSC
      have HSD := Lib.hid HSC
      have hs3 : s < 0 ∨ 200 < s := by
        by_cases h1 : s < 0
        · exact .inl h1
        · by_cases h2 : 200 < s
          · exact .inr h2
          · exact absurd ⟨hr, by omega, by omega⟩ hb
      clear HSC hb hr
      obtain ⟨d0, d1, dl⟩ := id Q1724
      go_wp2_with fail
      refine (HSD.out _ O1723.intsC).mono ?_
      rintro e w1931 ⟨rfl, hb1932⟩
      clear d0 d1 dl
      have O1933 := O1723.below hb1932
      clear O1723
      have Q1934 := Q1724.below hb1932 Q1724.2.2
      clear Q1724
      have b1935 := below_then bc (Nat.le_refl _) hb1932
      clear bc
      have bc := b1935
      clear b1935 hb1932
      by_cases s1 : s < 0
      · skip
        go_wp2
        go_ret
        exact ⟨rfl, bc⟩
      · skip
        have s2 : 200 < s := by omega
        go_wp2
        go_ret
        exact ⟨rfl, bc⟩
end Go.Proofs.Ytmeooebklohdfaa
