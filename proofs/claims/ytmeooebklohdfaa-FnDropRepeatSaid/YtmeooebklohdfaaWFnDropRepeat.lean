/- The walk of the law FnDropRepeat. -/
import Derived.Test.YtmeooebklohdfaaDrawDrop
import Derived.Test.YtmeooebklohdfaaDrop2
import Derived.Test.YtmeooebklohdfaaSsSharp
import Derived.Test.YtmeooebklohdfaaPilLaw
import Derived.Test.YtmeooebklohdfaaSsPilot
import Derived.Test.YtmeooebklohdfaaSsSame
import Derived.Test.YtmeooebklohdfaaSsSameR
import Derived.Deep.RegionHeld3
import Derived.BigQuiet
namespace Go.Proofs.Ytmeooebklohdfaa
open Go.RowKit
set_option linter.unusedVariables false
theorem pl_early (c : ByteArray) (G P k i : Nat) (hk : k < P) : plF c G P (((k + P - 1) % P : Nat) : Int) i = plF c G P (k : Int) (i + 1) := by
  have hP : 1 ≤ P := by omega
  rw [← modN_of_nat, pl_mod _ _ _ _ hP]
  unfold plF
  rw [show (i : Int) - ((k + P - 1 : Nat) : Int) = ((i + 1 : Nat) : Int) - (k : Int) + (P : Int) * (-1) by omega, modN_plus]
theorem drop_rep (z : Nat → Int) (k : Nat) : dpF (rpF z (k : Int)) (k : Int) = z := by
  funext i
  unfold dpF rpF
  rw [Int.toNat_natCast]
  by_cases h : i < k
  · rw [if_pos h, if_pos (by omega)]
  · rw [if_neg h, if_neg (by omega)]; congr 1
theorem drop_rep1 (z : Nat → Int) (k : Nat) : dpF (rpF z (k : Int)) ((k + 1 : Nat) : Int) = z := by
  funext i
  unfold dpF rpF
  rw [Int.toNat_natCast, Int.toNat_natCast]
  by_cases h : i < k + 1
  · rw [if_pos h, if_pos (by omega)]
  · rw [if_neg h, if_neg (by omega)]; congr 1
set_option maxHeartbeats 12800000 in
set_option maxRecDepth 100000 in
theorem fnDropRepeat_walk (a0 : Option Addr) (len0 cap0 : Nat) (z0 : List Int) (a1 : Option Addr) (len1 cap1 : Nat) (z1 : List Int) (w : World) (w0 : IsBytes w a0 len0 cap0 z0) (w1 : IsBytes w a1 len1 cap1 z1) :
    Calls Try.prog 12 #[.slice a0 len0 cap0, .slice a1 len1 cap1] w fun e w' => e = .returned (.bool true) ∧ Below w.heap.size w w' := by
  by_cases hl0 : 1048576 < len0
  · go_enter Try.func12, Try.ntmps12
    go_wp2
    go_ret
    exact ⟨rfl, Below.refl _ _⟩
  by_cases hl1 : 1048576 < len1
  · go_enter Try.func12, Try.ntmps12
    go_wp2
    go_ret
    exact ⟨rfl, Below.refl _ _⟩
  clear w1
  have HW0 := Lib.hid w0
  go_enter Try.func12, Try.ntmps12
  go_wp2_with fail
  refine (drawRep_any a0 len0 cap0 z0 _ w0).mono ?_
  rintro e W1 ⟨v, n, f, k, rfl, O0, hn, hk0, bc⟩
  clear w0
  obtain ⟨sa, sc, rfl, -⟩ := O0.form
  unfold FitsI at hk0
  have hi := fun w h => iRep_any (.slice sa n sc) n f k w h (by omega)
  have hs := fun w h => sRep_any (.slice sa n sc) n f k w h (by omega)
  have hd := fun w h => iDrop_any (.slice sa n sc) n f k w h (by omega)
  have he := fun w h => sDrop_any (.slice sa n sc) n f k w h (by omega)
  have hND : dpN n f k ≤ 1000000 := dpN_le
  obtain ⟨DB, hDB⟩ : ∃ b, dpB n f k = b := ⟨_, rfl⟩
  obtain ⟨ND, hNDD⟩ : ∃ b, dpN n f k = b := ⟨_, rfl⟩
  rw [hDB, hNDD] at hd he
  rw [hNDD] at hND
  clear hNDD
  cases hb : rpB n f k with
  | false =>
    rw [hb, show rpN n f k = 0 by unfold rpN; rw [hb]; rfl] at hi hs
    clear hb hDB
    have HI := Lib.hid hi
    have HS := Lib.hid hs
    have HD := Lib.hid hd
    have HE := Lib.hid he
    clear hi hs hd he
    go_wp2_with fail
    refine (HI.out _ O0.intsC).mono ?_
    rintro e w101 ⟨x1, rfl, O103, hb102⟩
    have O104 := O0.below hb102
    clear O0
    have b105 := below_then bc (Nat.le_refl _) hb102
    clear bc
    have bc := b105
    clear b105 hb102
    go_wp2_with fail
    refine (HS.out _ O104.intsC).mono ?_
    rintro e w106 ⟨x2, rfl, O108, hb107⟩
    have O109 := O104.below hb107
    clear O104
    have O110 := O103.below hb107
    clear O103
    have b111 := below_then bc (Nat.le_refl _) hb107
    clear bc
    have bc := b111
    clear b111 hb107
    go_wp2_with fail
    refine (HD.out _ O109.intsC).mono ?_
    rintro e w112 ⟨y1, rfl, O114, hb113⟩
    have O115 := O109.below hb113
    clear O109
    have O116 := O110.below hb113
    clear O110
    have O117 := O108.below hb113
    clear O108
    have b118 := below_then bc (Nat.le_refl _) hb113
    clear bc
    have bc := b118
    clear b118 hb113
    go_wp2_with fail
    refine (HE.out _ O115.intsC).mono ?_
    rintro e w119 ⟨y2, rfl, O121, hb120⟩
    have O122 := O115.below hb120
    clear O115
    have O123 := O116.below hb120
    clear O116
    have O124 := O117.below hb120
    clear O117
    have O125 := O114.below hb120
    clear O114
    have b126 := below_then bc (Nat.le_refl _) hb120
    clear bc
    have bc := b126
    clear b126 hb120
    go_wp2_with fail
    refine (ssInts_same _ _ _ _ 0 _ _ O123 O124 (by omega)).mono ?_
    rintro e w' ⟨rfl, m127, rfl⟩
    have O129 := O122.drewN m127
    clear O122
    have O130 := O123.drewN m127
    clear O123
    have O131 := O124.drewN m127
    clear O124
    have O132 := O125.drewN m127
    clear O125
    have O133 := O121.drewN m127
    clear O121
    have bd := below_drewN bc m127
    clear bc
    have bc := bd
    clear bd
    obtain ⟨w128, hW⟩ : ∃ W, w119.drewN m127 = W := ⟨_, rfl⟩
    rw [hW] at O129 O130 O131 O132 O133  bc ⊢
    clear hW
    go_wp2_with fail
    refine (ssInts_same _ _ _ _ ND _ _ O132 O133 (by omega)).mono ?_
    rintro e w' ⟨rfl, m134, rfl⟩
    have O136 := O129.drewN m134
    clear O129
    have O137 := O130.drewN m134
    clear O130
    have O138 := O131.drewN m134
    clear O131
    have O139 := O132.drewN m134
    clear O132
    have O140 := O133.drewN m134
    clear O133
    have bd := below_drewN bc m134
    clear bc
    have bc := bd
    clear bd
    obtain ⟨w135, hW⟩ : ∃ W, w128.drewN m134 = W := ⟨_, rfl⟩
    rw [hW] at O136 O137 O138 O139 O140  bc ⊢
    clear hW
    clear O136
    clear O137
    clear O138
    clear O139
    clear O140
    go_wp2_with fail
    refine (ssSharp_any a0 len0 cap0 z0 a1 len1 cap1 _ (HW0.out.below bc) (by omega) (by omega)).mono ?_
    rintro e w141 ⟨s, t, G, AT, ga, rfl, hs2, hs5, hr, hg, hG1, hG6, hAT, hga1, hga9, hb142⟩
    have b143 := below_then bc (Nat.le_refl _) hb142
    clear bc
    have bc := b143
    clear b143 hb142
    obtain ⟨c, hc⟩ : ∃ c, runS s t 1 (tw s - 1) = c := ⟨_, rfl⟩
    have hcs : c.size = tw s - 1 := by rw [← hc]; exact runS_size _ _ _ _
    have h31 := tw_small hs2 hs5
    have hq : seqB c = true := (seqB_iff _).2 ⟨by rw [← hc]; exact runS_okM _ _ _ _, by omega, by omega⟩
    have hp : pilB c (G : Int) = true := (pilB_iff _ _).2 ⟨hq, by omega, by omega⟩
    rw [hc]
    rw [← hcs, ← per_nat] at hAT
    have hP6 : perL c (G : Int) ≤ 31 * 6 := by rw [per_nat]; exact Nat.mul_le_mul (by omega) hG6
    clear hc hs2 hs5 hr hg hq HW0
    have hl := fun w => iPLen_any c (G : Int) w (by omega)
    rw [show lenAns c (G : Int) = (perL c (G : Int) : Int) by unfold lenAns; rw [if_pos hp]] at hl
    have hsp : ∀ (o q : Nat) w, o < perL c (G : Int) → q ≤ 3000 → Calls Try.prog 20 #[.agg #[.string c, .int .i64 (G : Int)], .int .i64 (o : Int), .int .i64 (q : Int), .int .i64 (ga : Int)] w fun e w' => ∃ u, e = .returned u ∧ OF w' w.heap.size u q (psF c (G : Int) (o : Int) (ga : Int)) ∧ Below w.heap.size w w' := fun o q w ho hq => by
      have h1 := ssPilot_any c (G : Int) (o : Int) (q : Int) (ga : Int) w (by omega)
      rw [(ps_yes ((offB_iff _ _ _).2 ⟨hp, by omega, by omega⟩) ((psB_iff _ _).2 ⟨by omega, by omega, by omega, by omega⟩)).2, Int.toNat_natCast q] at h1
      exact h1
    obtain ⟨G', eG, -, -, -, q4, -, -, q7, p1, -⟩ := pil_nat hp
    obtain rfl : G' = G := by omega
    clear eG
    have hsg : sigB (perL c (G' : Int) + 1) (psF c (G' : Int) (AT : Int) (ga : Int)) = true := (ps_sig q4 (by rw [Int.toNat_natCast]; exact q7) p1 (by omega) (by omega) (AT : Int) (by omega)).2
    have hdr : ∀ (u : Value) w, IntsC w u (perL c (G' : Int) + 1) (psF c (G' : Int) (AT : Int) (ga : Int)) → Calls Try.prog 55 #[u, .int .i64 0] w fun e w' => ∃ x, e = .returned (.tuple #[x, .bool true]) ∧ OF w' w.heap.size x (perL c (G' : Int)) (psF c (G' : Int) (((AT + perL c (G' : Int) - 1) % perL c (G' : Int) : Nat) : Int) (ga : Int)) ∧ Below w.heap.size w w' := fun u w h => by
      have h1 := iDrop_any u (perL c (G' : Int) + 1) (psF c (G' : Int) (AT : Int) (ga : Int)) 0 w h (by omega)
      have h2 := dp_yes hsg (show (0 : Int) ≤ 0 by omega) (by omega)
      rw [h2, show dpN (perL c (G' : Int) + 1) (psF c (G' : Int) (AT : Int) (ga : Int)) 0 = perL c (G' : Int) by unfold dpN; rw [if_pos h2]; rfl] at h1
      have h3 : dpF (psF c (G' : Int) (AT : Int) (ga : Int)) 0 = psF c (G' : Int) (((AT + perL c (G' : Int) - 1) % perL c (G' : Int) : Nat) : Int) (ga : Int) := by
        funext i
        unfold dpF psF scF
        rw [show (0 : Int).toNat = 0 by rfl, if_neg (Nat.not_lt_zero i), Int.toNat_natCast, pl_early _ _ _ _ _ hAT]
      rw [h3] at h1
      exact h1
    obtain ⟨N, hN⟩ : ∃ N, perL c (G' : Int) = N := ⟨_, rfl⟩
    rw [hN] at hl hAT hP6 p1 hsp hdr
    clear hN hsg hp q4 q7
    obtain ⟨R, hR⟩ : ∃ R, (AT + N - 1) % N = R := ⟨_, rfl⟩
    rw [hR] at hdr
    have hRN : R < N := by rw [← hR]; exact Nat.mod_lt _ (by omega)
    obtain ⟨A1, hA1⟩ : ∃ R, AT + N = R := ⟨_, rfl⟩
    obtain ⟨A2, hA2⟩ : ∃ R, A1 - 1 = R := ⟨_, rfl⟩
    have w1' : IntKind.i64.wrap ((AT : Int) + (N : Int)) = (A1 : Int) := by rw [IntWalk.i64_in _ (by omega)]; omega
    have w2' : IntKind.i64.wrap ((A1 : Int) - 1) = (A2 : Int) := by rw [IntWalk.i64_in _ (by omega)]; omega
    have w3' : (A2 : Int).tmod (N : Int) = (R : Int) := by rw [Int.tmod_eq_emod_of_nonneg (by omega), ← hR, ← hA2, ← hA1, Int.natCast_emod]
    have n0 : ¬ ((N : Int) = 0) := by omega
    have n1 : ((N : Int) == 0) = false := by simp; omega
    have n2 : ¬ N = 0 := by omega
    obtain ⟨N1, hN1⟩ : ∃ R, N + 1 = R := ⟨_, rfl⟩
    have w4' : (N : Int) + 1 = (N1 : Int) := by omega
    rw [hN1] at hdr
    have HX := Lib.hid (fun w => hsp AT N1 w hAT (by omega))
    have HY := Lib.hid (fun w => hsp R N w hRN (by omega))
    clear hR hA1 hA2 hN1 hsp hAT hRN h31 hcs
    have HL := Lib.hid hl
    have HDR := Lib.hid hdr
    clear hl hdr
    have Q0 := PilAt.new w141 24 c (G' : Int)
    have bc2 := bc.alloc bc.size (.cells #[.string c, .int .i64 (G' : Int)] 24)
    clear bc
    have bc := bc2
    clear bc2
    obtain ⟨V, hV⟩ : ∃ V, w141.alloc (.cells #[.string c, .int .i64 (G' : Int)] 24) = V := ⟨_, rfl⟩
    obtain ⟨X, hX⟩ : ∃ X, w141.heap.size = X := ⟨_, rfl⟩
    rw [hV] at Q0 bc
    rw [hX] at Q0
    obtain ⟨d0, d1, dl⟩ := id Q0
    go_wp2_with fail
    clear hV hX d0 d1 dl
    refine (HL.out _).mono ?_
    rintro e w144 ⟨rfl, hb145⟩
    have Q146 := Q0.below hb145 Q0.2.2
    clear Q0
    have b147 := below_then bc (Nat.le_refl _) hb145
    clear bc
    have bc := b147
    clear b147 hb145
    obtain ⟨d0, d1, dl⟩ := id Q146
    go_wp2_with fail
    refine (HX.out _).mono ?_
    rintro e w148 ⟨u7, rfl, O150, hb149⟩
    clear d0 d1 dl
    have Q151 := Q146.below hb149 Q146.2.2
    clear Q146
    have b152 := below_then bc (Nat.le_refl _) hb149
    clear bc
    have bc := b152
    clear b152 hb149
    go_wp2_with fail
    refine (HDR.out _ _ O150.intsC).mono ?_
    rintro e w153 ⟨u8, rfl, O155, hb154⟩
    have O156 := O150.below hb154
    clear O150
    have Q157 := Q151.below hb154 Q151.2.2
    clear Q151
    have b158 := below_then bc (Nat.le_refl _) hb154
    clear bc
    have bc := b158
    clear b158 hb154
    clear O156
    obtain ⟨d0, d1, dl⟩ := id Q157
    go_wp2_with fail
    have kk := (Below.refl w153.heap.size w153).drew
    obtain ⟨e0, e1, el⟩ := Q157.below kk Q157.2.2
    have IE := O155.below kk
    have bd := bc.drew
    go_region_held3 (fun wx => wx.cell? ⟨X, 0, none⟩ = some (.string c) ∧ wx.cell? ⟨X, 1, none⟩ = some (.int .i64 (G' : Int))) (first | with_reducible exact ⟨o0, o1⟩ | with_reducible exact ⟨m0, m1'⟩ | with_reducible exact ⟨e0, e1⟩) (first
      | (go_at_call 16; refine (ssInts_sameR _ _ N _ _ (IE.below hb9).ints O9.ints (by omega)).mono ?_; rintro e w10 ⟨rfl, m10, h10⟩; have kk10 : Below w153.heap.size w153 w10 := (by rw [h10]; exact below_drewN kk9 m10); have bd10 : Below w.heap.size w w10 := (by rw [h10]; exact below_drewN bd9 m10); obtain ⟨o0, o1, ol⟩ := Q157.below kk10 Q157.2.2; clear h10)
      | (go_at_call 20; refine (HY.out _).mono ?_; rintro e w9 ⟨u9, rfl, O9, hb9⟩; have kk9 := below_then kk (Nat.le_refl _) hb9; obtain ⟨m0, m1', ml⟩ := Q157.below kk9 Q157.2.2; have bd9 := below_then bd (Nat.le_refl _) hb9))
    clear d0 d1 dl e0 e1 el m0 m1' ml o0 o1 ol
    go_wp2
    go_ret
    exact ⟨rfl, bd10⟩
  | true =>
    have hb2 := hb
    unfold rpB at hb2
    rw [Bool.and_eq_true] at hb2
    obtain ⟨r1, r2⟩ := hb2
    obtain ⟨r3, k0, k1⟩ := (dpB_iff _ _ _).1 r1
    obtain ⟨K, rfl⟩ : ∃ K : Nat, k = (K : Int) := ⟨k.toNat, by omega⟩
    rw [hb, show rpN n f (K : Int) = n + 1 by unfold rpN; rw [if_pos hb]] at hi hs
    have hbk : ∀ (j : Nat) (u : Value) w, (j = K ∨ j = K + 1) → IntsC w u (n + 1) (rpF f (K : Int)) → Calls Try.prog 55 #[u, .int .i64 (j : Int)] w fun e w' => ∃ x, e = .returned (.tuple #[x, .bool true]) ∧ OF w' w.heap.size x n f ∧ Below w.heap.size w w' := fun j u w hj h => by
      have h1 := iDrop_any u (n + 1) (rpF f (K : Int)) (j : Int) w h (by omega)
      have h2 := dp_yes r2 (show (0 : Int) ≤ (j : Int) by omega) (by omega)
      rw [h2, show dpN (n + 1) (rpF f (K : Int)) (j : Int) = n by unfold dpN; rw [if_pos h2]; rfl] at h1
      have h3 : dpF (rpF f (K : Int)) (j : Int) = f := by rcases hj with rfl | rfl; exact drop_rep f _; exact drop_rep1 f _
      rw [h3] at h1
      exact h1
    have HB := Lib.hid (fun u w h => hbk K u w (.inl rfl) h)
    have HO := Lib.hid (fun u w h => hbk (K + 1) u w (.inr rfl) h)
    obtain ⟨n1', hn1⟩ : ∃ m, n + 1 = m := ⟨_, rfl⟩
    obtain ⟨RF, hRF⟩ : ∃ m, rpF f (K : Int) = m := ⟨_, rfl⟩
    obtain ⟨K1, hK1⟩ : ∃ m, K + 1 = m := ⟨_, rfl⟩
    have HB2 := HB.out
    have HO2 := HO.out
    rw [hn1, hRF] at hi hs HB2 HO2
    rw [hK1] at HO2
    replace HB := Lib.hid HB2
    replace HO := Lib.hid HO2
    have kw : (K : Int) + 1 = (K1 : Int) := by omega
    have n1b : n1' ≤ 5000 := by omega
    clear HB2 HO2 hbk hRF hK1 hn1 hb r1 r2 r3 k0 hDB
    have HI := Lib.hid hi
    have HS := Lib.hid hs
    have HD := Lib.hid hd
    have HE := Lib.hid he
    clear hi hs hd he
    go_wp2_with fail
    refine (HI.out _ O0.intsC).mono ?_
    rintro e w259 ⟨x1, rfl, O261, hb260⟩
    have O262 := O0.below hb260
    clear O0
    have b263 := below_then bc (Nat.le_refl _) hb260
    clear bc
    have bc := b263
    clear b263 hb260
    go_wp2_with fail
    refine (HS.out _ O262.intsC).mono ?_
    rintro e w264 ⟨x2, rfl, O266, hb265⟩
    have O267 := O262.below hb265
    clear O262
    have O268 := O261.below hb265
    clear O261
    have b269 := below_then bc (Nat.le_refl _) hb265
    clear bc
    have bc := b269
    clear b269 hb265
    go_wp2_with fail
    refine (HD.out _ O267.intsC).mono ?_
    rintro e w270 ⟨y1, rfl, O272, hb271⟩
    have O273 := O267.below hb271
    clear O267
    have O274 := O268.below hb271
    clear O268
    have O275 := O266.below hb271
    clear O266
    have b276 := below_then bc (Nat.le_refl _) hb271
    clear bc
    have bc := b276
    clear b276 hb271
    go_wp2_with fail
    refine (HE.out _ O273.intsC).mono ?_
    rintro e w277 ⟨y2, rfl, O279, hb278⟩
    have O280 := O273.below hb278
    clear O273
    have O281 := O274.below hb278
    clear O274
    have O282 := O275.below hb278
    clear O275
    have O283 := O272.below hb278
    clear O272
    have b284 := below_then bc (Nat.le_refl _) hb278
    clear bc
    have bc := b284
    clear b284 hb278
    go_wp2_with fail
    refine (ssInts_same _ _ _ _ n1' _ _ O281 O282 (by omega)).mono ?_
    rintro e w' ⟨rfl, m285, rfl⟩
    have O287 := O280.drewN m285
    clear O280
    have O288 := O281.drewN m285
    clear O281
    have O289 := O282.drewN m285
    clear O282
    have O290 := O283.drewN m285
    clear O283
    have O291 := O279.drewN m285
    clear O279
    have bd := below_drewN bc m285
    clear bc
    have bc := bd
    clear bd
    obtain ⟨w286, hW⟩ : ∃ W, w277.drewN m285 = W := ⟨_, rfl⟩
    rw [hW] at O287 O288 O289 O290 O291  bc ⊢
    clear hW
    clear O289
    go_wp2_with fail
    refine (ssInts_same _ _ _ _ ND _ _ O290 O291 (by omega)).mono ?_
    rintro e w' ⟨rfl, m292, rfl⟩
    have O294 := O287.drewN m292
    clear O287
    have O295 := O288.drewN m292
    clear O288
    have O296 := O290.drewN m292
    clear O290
    have O297 := O291.drewN m292
    clear O291
    have bd := below_drewN bc m292
    clear bc
    have bc := bd
    clear bd
    obtain ⟨w293, hW⟩ : ∃ W, w286.drewN m292 = W := ⟨_, rfl⟩
    rw [hW] at O294 O295 O296 O297  bc ⊢
    clear hW
    clear O296
    clear O297
    go_wp2_with fail
    refine (HB.out _ _ O295.intsC).mono ?_
    rintro e w298 ⟨z1, rfl, O300, hb299⟩
    have O301 := O294.below hb299
    clear O294
    have O302 := O295.below hb299
    clear O295
    have b303 := below_then bc (Nat.le_refl _) hb299
    clear bc
    have bc := b303
    clear b303 hb299
    go_wp2_with fail
    refine (HO.out _ _ O302.intsC).mono ?_
    rintro e w304 ⟨z2, rfl, O306, hb305⟩
    have O307 := O301.below hb305
    clear O301
    have O308 := O302.below hb305
    clear O302
    have O309 := O300.below hb305
    clear O300
    have b310 := below_then bc (Nat.le_refl _) hb305
    clear bc
    have bc := b310
    clear b310 hb305
    clear O308
    go_wp2_with fail
    refine (ssInts_same _ _ _ _ n f _ O309 O307 (by omega)).mono ?_
    rintro e w' ⟨rfl, m311, rfl⟩
    have O313 := O307.drewN m311
    clear O307
    have O314 := O309.drewN m311
    clear O309
    have O315 := O306.drewN m311
    clear O306
    have bd := below_drewN bc m311
    clear bc
    have bc := bd
    clear bd
    obtain ⟨w312, hW⟩ : ∃ W, w304.drewN m311 = W := ⟨_, rfl⟩
    rw [hW] at O313 O314 O315  bc ⊢
    clear hW
    clear O314
    go_wp2_with fail
    refine (ssInts_same _ _ _ _ n f _ O315 O313 (by omega)).mono ?_
    rintro e w' ⟨rfl, m316, rfl⟩
    have O318 := O313.drewN m316
    clear O313
    have O319 := O315.drewN m316
    clear O315
    have bd := below_drewN bc m316
    clear bc
    have bc := bd
    clear bd
    obtain ⟨w317, hW⟩ : ∃ W, w312.drewN m316 = W := ⟨_, rfl⟩
    rw [hW] at O318 O319  bc ⊢
    clear hW
    clear O318
    clear O319
    go_wp2_with fail
    refine (ssSharp_any a0 len0 cap0 z0 a1 len1 cap1 _ (HW0.out.below bc) (by omega) (by omega)).mono ?_
    rintro e w320 ⟨s, t, G, AT, ga, rfl, hs2, hs5, hr, hg, hG1, hG6, hAT, hga1, hga9, hb321⟩
    have b322 := below_then bc (Nat.le_refl _) hb321
    clear bc
    have bc := b322
    clear b322 hb321
    obtain ⟨c, hc⟩ : ∃ c, runS s t 1 (tw s - 1) = c := ⟨_, rfl⟩
    have hcs : c.size = tw s - 1 := by rw [← hc]; exact runS_size _ _ _ _
    have h31 := tw_small hs2 hs5
    have hq : seqB c = true := (seqB_iff _).2 ⟨by rw [← hc]; exact runS_okM _ _ _ _, by omega, by omega⟩
    have hp : pilB c (G : Int) = true := (pilB_iff _ _).2 ⟨hq, by omega, by omega⟩
    rw [hc]
    rw [← hcs, ← per_nat] at hAT
    have hP6 : perL c (G : Int) ≤ 31 * 6 := by rw [per_nat]; exact Nat.mul_le_mul (by omega) hG6
    clear hc hs2 hs5 hr hg hq HW0
    have hl := fun w => iPLen_any c (G : Int) w (by omega)
    rw [show lenAns c (G : Int) = (perL c (G : Int) : Int) by unfold lenAns; rw [if_pos hp]] at hl
    have hsp : ∀ (o q : Nat) w, o < perL c (G : Int) → q ≤ 3000 → Calls Try.prog 20 #[.agg #[.string c, .int .i64 (G : Int)], .int .i64 (o : Int), .int .i64 (q : Int), .int .i64 (ga : Int)] w fun e w' => ∃ u, e = .returned u ∧ OF w' w.heap.size u q (psF c (G : Int) (o : Int) (ga : Int)) ∧ Below w.heap.size w w' := fun o q w ho hq => by
      have h1 := ssPilot_any c (G : Int) (o : Int) (q : Int) (ga : Int) w (by omega)
      rw [(ps_yes ((offB_iff _ _ _).2 ⟨hp, by omega, by omega⟩) ((psB_iff _ _).2 ⟨by omega, by omega, by omega, by omega⟩)).2, Int.toNat_natCast q] at h1
      exact h1
    obtain ⟨G', eG, -, -, -, q4, -, -, q7, p1, -⟩ := pil_nat hp
    obtain rfl : G' = G := by omega
    clear eG
    have hsg : sigB (perL c (G' : Int) + 1) (psF c (G' : Int) (AT : Int) (ga : Int)) = true := (ps_sig q4 (by rw [Int.toNat_natCast]; exact q7) p1 (by omega) (by omega) (AT : Int) (by omega)).2
    have hdr : ∀ (u : Value) w, IntsC w u (perL c (G' : Int) + 1) (psF c (G' : Int) (AT : Int) (ga : Int)) → Calls Try.prog 55 #[u, .int .i64 0] w fun e w' => ∃ x, e = .returned (.tuple #[x, .bool true]) ∧ OF w' w.heap.size x (perL c (G' : Int)) (psF c (G' : Int) (((AT + perL c (G' : Int) - 1) % perL c (G' : Int) : Nat) : Int) (ga : Int)) ∧ Below w.heap.size w w' := fun u w h => by
      have h1 := iDrop_any u (perL c (G' : Int) + 1) (psF c (G' : Int) (AT : Int) (ga : Int)) 0 w h (by omega)
      have h2 := dp_yes hsg (show (0 : Int) ≤ 0 by omega) (by omega)
      rw [h2, show dpN (perL c (G' : Int) + 1) (psF c (G' : Int) (AT : Int) (ga : Int)) 0 = perL c (G' : Int) by unfold dpN; rw [if_pos h2]; rfl] at h1
      have h3 : dpF (psF c (G' : Int) (AT : Int) (ga : Int)) 0 = psF c (G' : Int) (((AT + perL c (G' : Int) - 1) % perL c (G' : Int) : Nat) : Int) (ga : Int) := by
        funext i
        unfold dpF psF scF
        rw [show (0 : Int).toNat = 0 by rfl, if_neg (Nat.not_lt_zero i), Int.toNat_natCast, pl_early _ _ _ _ _ hAT]
      rw [h3] at h1
      exact h1
    obtain ⟨N, hN⟩ : ∃ N, perL c (G' : Int) = N := ⟨_, rfl⟩
    rw [hN] at hl hAT hP6 p1 hsp hdr
    clear hN hsg hp q4 q7
    obtain ⟨R, hR⟩ : ∃ R, (AT + N - 1) % N = R := ⟨_, rfl⟩
    rw [hR] at hdr
    have hRN : R < N := by rw [← hR]; exact Nat.mod_lt _ (by omega)
    obtain ⟨A1, hA1⟩ : ∃ R, AT + N = R := ⟨_, rfl⟩
    obtain ⟨A2, hA2⟩ : ∃ R, A1 - 1 = R := ⟨_, rfl⟩
    have w1' : IntKind.i64.wrap ((AT : Int) + (N : Int)) = (A1 : Int) := by rw [IntWalk.i64_in _ (by omega)]; omega
    have w2' : IntKind.i64.wrap ((A1 : Int) - 1) = (A2 : Int) := by rw [IntWalk.i64_in _ (by omega)]; omega
    have w3' : (A2 : Int).tmod (N : Int) = (R : Int) := by rw [Int.tmod_eq_emod_of_nonneg (by omega), ← hR, ← hA2, ← hA1, Int.natCast_emod]
    have n0 : ¬ ((N : Int) = 0) := by omega
    have n1 : ((N : Int) == 0) = false := by simp; omega
    have n2 : ¬ N = 0 := by omega
    obtain ⟨N1, hN1⟩ : ∃ R, N + 1 = R := ⟨_, rfl⟩
    have w4' : (N : Int) + 1 = (N1 : Int) := by omega
    rw [hN1] at hdr
    have HX := Lib.hid (fun w => hsp AT N1 w hAT (by omega))
    have HY := Lib.hid (fun w => hsp R N w hRN (by omega))
    clear hR hA1 hA2 hN1 hsp hAT hRN h31 hcs
    have HL := Lib.hid hl
    have HDR := Lib.hid hdr
    clear hl hdr
    have Q0 := PilAt.new w320 24 c (G' : Int)
    have bc2 := bc.alloc bc.size (.cells #[.string c, .int .i64 (G' : Int)] 24)
    clear bc
    have bc := bc2
    clear bc2
    obtain ⟨V, hV⟩ : ∃ V, w320.alloc (.cells #[.string c, .int .i64 (G' : Int)] 24) = V := ⟨_, rfl⟩
    obtain ⟨X, hX⟩ : ∃ X, w320.heap.size = X := ⟨_, rfl⟩
    rw [hV] at Q0 bc
    rw [hX] at Q0
    obtain ⟨d0, d1, dl⟩ := id Q0
    go_wp2_with fail
    clear hV hX d0 d1 dl
    refine (HL.out _).mono ?_
    rintro e w323 ⟨rfl, hb324⟩
    have Q325 := Q0.below hb324 Q0.2.2
    clear Q0
    have b326 := below_then bc (Nat.le_refl _) hb324
    clear bc
    have bc := b326
    clear b326 hb324
    obtain ⟨d0, d1, dl⟩ := id Q325
    go_wp2_with fail
    refine (HX.out _).mono ?_
    rintro e w327 ⟨u7, rfl, O329, hb328⟩
    clear d0 d1 dl
    have Q330 := Q325.below hb328 Q325.2.2
    clear Q325
    have b331 := below_then bc (Nat.le_refl _) hb328
    clear bc
    have bc := b331
    clear b331 hb328
    go_wp2_with fail
    refine (HDR.out _ _ O329.intsC).mono ?_
    rintro e w332 ⟨u8, rfl, O334, hb333⟩
    have O335 := O329.below hb333
    clear O329
    have Q336 := Q330.below hb333 Q330.2.2
    clear Q330
    have b337 := below_then bc (Nat.le_refl _) hb333
    clear bc
    have bc := b337
    clear b337 hb333
    clear O335
    obtain ⟨d0, d1, dl⟩ := id Q336
    go_wp2_with fail
    have kk := (Below.refl w332.heap.size w332).drew
    obtain ⟨e0, e1, el⟩ := Q336.below kk Q336.2.2
    have IE := O334.below kk
    have bd := bc.drew
    go_region_held3 (fun wx => wx.cell? ⟨X, 0, none⟩ = some (.string c) ∧ wx.cell? ⟨X, 1, none⟩ = some (.int .i64 (G' : Int))) (first | with_reducible exact ⟨o0, o1⟩ | with_reducible exact ⟨m0, m1'⟩ | with_reducible exact ⟨e0, e1⟩) (first
      | (go_at_call 16; refine (ssInts_sameR _ _ N _ _ (IE.below hb9).ints O9.ints (by omega)).mono ?_; rintro e w10 ⟨rfl, m10, h10⟩; have kk10 : Below w332.heap.size w332 w10 := (by rw [h10]; exact below_drewN kk9 m10); have bd10 : Below w.heap.size w w10 := (by rw [h10]; exact below_drewN bd9 m10); obtain ⟨o0, o1, ol⟩ := Q336.below kk10 Q336.2.2; clear h10)
      | (go_at_call 20; refine (HY.out _).mono ?_; rintro e w9 ⟨u9, rfl, O9, hb9⟩; have kk9 := below_then kk (Nat.le_refl _) hb9; obtain ⟨m0, m1', ml⟩ := Q336.below kk9 Q336.2.2; have bd9 := below_then bd (Nat.le_refl _) hb9))
    clear d0 d1 dl e0 e1 el m0 m1' ml o0 o1 ol
    go_wp2
    go_ret
    exact ⟨rfl, bd10⟩
end Go.Proofs.Ytmeooebklohdfaa
