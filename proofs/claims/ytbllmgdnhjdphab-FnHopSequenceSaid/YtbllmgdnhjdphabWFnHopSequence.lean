/- The walk of the law FnHopSequence. -/
import Derived.Test.YtbllmgdnhjdphabDrawHop5
import Derived.Test.YtbllmgdnhjdphabSsEq
import Derived.Test.YtbllmgdnhjdphabRegStep
namespace Go.Proofs.Ytbllmgdnhjdphab
open Go.RowKit
set_option linter.unusedVariables false
set_option maxHeartbeats 3200000 in
set_option maxRecDepth 100000 in
theorem fnHopSequence_walk (a0 : Option Addr) (len0 cap0 : Nat) (z0 : List Int) (a1 : Option Addr) (len1 cap1 : Nat) (z1 : List Int) (w : World) (w0 : IsBytes w a0 len0 cap0 z0) (w1 : IsBytes w a1 len1 cap1 z1) :
    Calls Try.prog 5 #[.slice a0 len0 cap0, .slice a1 len1 cap1] w fun e w' => e = .returned (.bool true) ∧ Below w.heap.size w w' := by
  by_cases hl0 : 1048576 < len0
  · go_enter Try.func5, Try.ntmps5
    go_wp2
    go_ret
    exact ⟨rfl, Below.refl _ _⟩
  by_cases hl1 : 1048576 < len1
  · go_enter Try.func5, Try.ntmps5
    go_wp2
    go_ret
    exact ⟨rfl, Below.refl _ _⟩
  clear w1
  go_enter Try.func5, Try.ntmps5
  go_wp2_with fail
  refine (drawHopSeq_any a0 len0 cap0 z0 _ w0).mono ?_
  rintro e W1 ⟨S, T, X, C, K, rfl, fS, fT, fX, hC, hK, bc⟩
  clear w0
  clear fS fT fX hC hK
  cases hv : hsB S T X C K with
  | false =>
    have hi := fun w => iSeq_any S T X C K w
    have hs := fun w => sSeq_any S T X C K w
    rw [hv, hs_no hv] at hi hs
    clear hv
    have HI := Lib.hid hi
    have HS := Lib.hid hs
    clear hi hs
    have bd := bc.alloc bc.size (.cells #[.int .i64 S, .int .i64 T, .int .i64 X] 29)
    clear bc
    have bc := bd
    clear bd
    have O101 := BoxAt.new W1 29 S T X
    go_wp2_with fail
    refine (HI.out _).mono ?_
    rintro e w102 ⟨v1, rfl, O104, hb103⟩
    have O105 := O101.below hb103
    clear O101
    have b106 := below_then bc (Nat.le_refl _) hb103
    clear bc
    have bc := b106
    clear b106 hb103
    obtain ⟨sa107, sc107, rfl, -⟩ := O104.form
    obtain ⟨r108a, r108b, r108c, r108l⟩ := id O105
    go_wp2_with fail
    refine (HS.out _).mono ?_
    rintro e w109 ⟨v2, rfl, O111, hb110⟩
    have O112 := O105.below hb110
    clear O105
    have O113 := O104.below hb110
    clear O104
    have b114 := below_then bc (Nat.le_refl _) hb110
    clear bc
    have bc := b114
    clear b114 hb110
    clear r108a r108b r108c r108l
    go_wp2_with fail
    refine (ssInts_same _ _ _ _ 0 _ _ O113 O111 (by omega)).mono ?_
    rintro e w' ⟨rfl, m115, rfl⟩
    have O117 := O112.drewN m115
    clear O112
    have O118 := O113.drewN m115
    clear O113
    have O119 := O111.drewN m115
    clear O111
    have bd := below_drewN bc m115
    clear bc
    have bc := bd
    clear bd
    obtain ⟨w116, hW⟩ : ∃ W, w109.drewN m115 = W := ⟨_, rfl⟩
    rw [hW] at O117 O118 O119 bc ⊢
    clear hW
    go_wp2_with fail
    refine (ssInts_same _ _ _ _ 0 _ _ O118 O119 (by omega)).mono ?_
    rintro e w' ⟨rfl, m120, rfl⟩
    have O122 := O117.drewN m120
    clear O117
    have O123 := O118.drewN m120
    clear O118
    have O124 := O119.drewN m120
    clear O119
    have bd := below_drewN bc m120
    clear bc
    have bc := bd
    clear bd
    obtain ⟨w121, hW⟩ : ∃ W, w116.drewN m120 = W := ⟨_, rfl⟩
    rw [hW] at O122 O123 O124 bc ⊢
    clear hW
    go_wp2
    go_ret
    exact ⟨rfl, bc⟩
  | true =>
    obtain ⟨g1, ⟨c1, c2⟩, k1, k2⟩ := (hsB_iff _ _ _ _ _).1 hv
    obtain ⟨s, t, x, rfl, rfl, rfl, hr⟩ := RegN.of g1
    obtain ⟨c, rfl⟩ : ∃ c : Nat, C = c := ⟨C.toNat, by omega⟩
    obtain ⟨k, rfl⟩ : ∃ c : Nat, K = c := ⟨K.toNat, by omega⟩
    have hc1 : 1 ≤ c := by omega
    have hc2 : c ≤ 16 := by omega
    have hk3 : k ≤ 300 := by omega
    clear c1 c2 k1 k2 g1 hv
    obtain ⟨e1, e2⟩ := hsB_yes hr hc1 hc2 hk3
    have hi := fun w => iSeq_any s t x c k w
    have hs := fun w => sSeq_any s t x c k w
    rw [e1, e2] at hi hs
    clear e1 e2
    by_cases hk60 : 60 < k
    · skip
      clear hr
      have HI := Lib.hid hi
      have HS := Lib.hid hs
      clear hi hs
      have bd := bc.alloc bc.size (.cells #[.int .i64 (s : Int), .int .i64 (t : Int), .int .i64 (x : Int)] 29)
      clear bc
      have bc := bd
      clear bd
      have O201 := BoxAt.new W1 29 (s : Int) (t : Int) (x : Int)
      go_wp2_with fail
      refine (HI.out _).mono ?_
      rintro e w202 ⟨v1, rfl, O204, hb203⟩
      have O205 := O201.below hb203
      clear O201
      have b206 := below_then bc (Nat.le_refl _) hb203
      clear bc
      have bc := b206
      clear b206 hb203
      obtain ⟨sa207, sc207, rfl, -⟩ := O204.form
      obtain ⟨r208a, r208b, r208c, r208l⟩ := id O205
      go_wp2_with fail
      refine (HS.out _).mono ?_
      rintro e w209 ⟨v2, rfl, O211, hb210⟩
      have O212 := O205.below hb210
      clear O205
      have O213 := O204.below hb210
      clear O204
      have b214 := below_then bc (Nat.le_refl _) hb210
      clear bc
      have bc := b214
      clear b214 hb210
      clear r208a r208b r208c r208l
      go_wp2_with fail
      refine (ssInts_same _ _ _ _ k _ _ O213 O211 (by omega)).mono ?_
      rintro e w' ⟨rfl, m215, rfl⟩
      have O217 := O212.drewN m215
      clear O212
      have O218 := O213.drewN m215
      clear O213
      have O219 := O211.drewN m215
      clear O211
      have bd := below_drewN bc m215
      clear bc
      have bc := bd
      clear bd
      obtain ⟨w216, hW⟩ : ∃ W, w209.drewN m215 = W := ⟨_, rfl⟩
      rw [hW] at O217 O218 O219 bc ⊢
      clear hW
      go_wp2_with fail
      refine (ssInts_same _ _ _ _ k _ _ O218 O219 (by omega)).mono ?_
      rintro e w' ⟨rfl, m220, rfl⟩
      have O222 := O217.drewN m220
      clear O217
      have O223 := O218.drewN m220
      clear O218
      have O224 := O219.drewN m220
      clear O219
      have bd := below_drewN bc m220
      clear bc
      have bc := bd
      clear bd
      obtain ⟨w221, hW⟩ : ∃ W, w216.drewN m220 = W := ⟨_, rfl⟩
      rw [hW] at O222 O223 O224 bc ⊢
      clear hW
      go_wp2
      go_ret
      exact ⟨rfl, bc⟩
    · skip
      obtain ⟨hh, y, y1, y2, y3, y4⟩ := hs_found hr hc1 hc2 hk3
      obtain ⟨e3, e4⟩ := hsB_yes y2 hc1 hc2 hk3
      obtain ⟨M, hM⟩ : ∃ M : Nat, len1 % (k + 1) = M := ⟨_, rfl⟩
      have hMk : M ≤ k := by have := Nat.mod_lt len1 (show 0 < k + 1 by omega); omega
      have m1 : (len1 : Int).tmod ((k : Int) + 1) = (M : Int) := by rw [show (k : Int) + 1 = ((k + 1 : Nat) : Int) by omega, hop_mod, hM]
      have m2 : (len1 : Int) % ((k : Int) + 1) = (M : Int) := by rw [← Int.tmod_eq_emod_of_nonneg (by omega)]; exact m1
      have m3 : ¬ ((k : Int) + 1 = 0) := by omega
      have m4 : ((k : Int) + 1 == 0) = false := by simp; omega
      have hs8 := hr.hi
      obtain ⟨Q, hQ⟩ : ∃ Q : Nat, M * s = Q := ⟨_, rfl⟩
      have hQb : Q ≤ 480 := by rw [← hQ]; exact Nat.mul_le_mul (show M ≤ 60 by omega) hs8
      have q1 : IntKind.i64.wrap ((M : Int) * (s : Int)) = (Q : Int) := by rw [← Int.natCast_mul, hQ]; exact IntWalk.i64_in _ (by omega)
      have hj := fun w => iJump_forth s t x Q w hr (by omega)
      have hr2 := hr.steps Q
      have hjf := fun i => hs_jump s t x c M i
      rw [hQ] at hjf
      obtain ⟨x', hx'⟩ : ∃ x', stepsN s t Q x = x' := ⟨_, rfl⟩
      rw [hx'] at hj hr2 hjf
      obtain ⟨e5, e6⟩ := hsB_yes hr2 (k := k - M) hc1 hc2 (by omega)
      have hb := fun w => iSeq_any s t x' c ((k - M : Nat) : Int) w
      rw [e5, e6] at hb
      rw [show ((k - M : Nat) : Int) = (k : Int) - (M : Int) by omega] at hb
      have ha := fun w => iSeq_any s t y c k w
      rw [e3, e4] at ha
      have hy := fun v w h => iSync_any s t c v k (hsF s t x c) w h (by omega)
      rw [y3] at hy
      have hp := fun v w h => iHops_any v k (hsF s t x c) c w h (by omega)
      rw [hh] at hp
      have he := fun i (hi : i < k - M) => (hjf i)
      have EA := Lib.hid y4
      obtain ⟨F, hF⟩ : ∃ F, hsF s t x c = F := ⟨_, rfl⟩
      rw [hF] at hi hs hy hp EA he
      clear hF hh y2 y3 y4 e3 e4 e5 e6 hjf hr hr2 hx' hQ hM
      have HI := Lib.hid hi
      have HS := Lib.hid hs
      have HJ := Lib.hid hj
      have HB := Lib.hid hb
      have HA := Lib.hid ha
      have HY := Lib.hid hy
      have HP := Lib.hid hp
      have HE := Lib.hid he
      clear hi hs hj hb ha hy hp he
      have bd := bc.alloc bc.size (.cells #[.int .i64 (s : Int), .int .i64 (t : Int), .int .i64 (x : Int)] 29)
      clear bc
      have bc := bd
      clear bd
      have O201 := BoxAt.new W1 29 (s : Int) (t : Int) (x : Int)
      go_wp2_with fail
      refine (HI.out _).mono ?_
      rintro e w202 ⟨v1, rfl, O204, hb203⟩
      have O205 := O201.below hb203
      clear O201
      have b206 := below_then bc (Nat.le_refl _) hb203
      clear bc
      have bc := b206
      clear b206 hb203
      obtain ⟨sa207, sc207, rfl, -⟩ := O204.form
      obtain ⟨r208a, r208b, r208c, r208l⟩ := id O205
      go_wp2_with fail
      refine (HS.out _).mono ?_
      rintro e w209 ⟨v2, rfl, O211, hb210⟩
      have O212 := O205.below hb210
      clear O205
      have O213 := O204.below hb210
      clear O204
      have b214 := below_then bc (Nat.le_refl _) hb210
      clear bc
      have bc := b214
      clear b214 hb210
      clear r208a r208b r208c r208l
      go_wp2_with fail
      refine (ssInts_same _ _ _ _ k _ _ O213 O211 (by omega)).mono ?_
      rintro e w' ⟨rfl, m215, rfl⟩
      have O217 := O212.drewN m215
      clear O212
      have O218 := O213.drewN m215
      clear O213
      have O219 := O211.drewN m215
      clear O211
      have bd := below_drewN bc m215
      clear bc
      have bc := bd
      clear bd
      obtain ⟨w216, hW⟩ : ∃ W, w209.drewN m215 = W := ⟨_, rfl⟩
      rw [hW] at O217 O218 O219 bc ⊢
      clear hW
      clear O219
      obtain ⟨r220a, r220b, r220c, r220l⟩ := id O217
      go_wp2_with fail
      refine (HJ.out _).mono ?_
      rintro e w221 ⟨rfl, hb222⟩
      have O223 := O217.below hb222
      clear O217
      have O224 := O218.below hb222
      clear O218
      have b225 := below_then bc (Nat.le_refl _) hb222
      clear bc
      have bc := b225
      clear b225 hb222
      clear r220a r220b r220c r220l m1 m2 m3 m4 q1
      have bd := bc.alloc bc.size (.cells #[.int .i64 (s : Int), .int .i64 (t : Int), .int .i64 (x' : Int)] 29)
      clear bc
      have bc := bd
      clear bd
      have O226 := O223.alloc (.cells #[.int .i64 (s : Int), .int .i64 (t : Int), .int .i64 (x' : Int)] 29)
      clear O223
      have O227 := O224.alloc (.cells #[.int .i64 (s : Int), .int .i64 (t : Int), .int .i64 (x' : Int)] 29)
      clear O224
      have O228 := BoxAt.new w221 29 (s : Int) (t : Int) (x' : Int)
      have d1 : IntKind.i64.wrap ((k : Int) - (M : Int)) = (k : Int) - (M : Int) := IntWalk.i64_in _ (by omega)
      go_wp2_with fail
      refine (HB.out _).mono ?_
      rintro e w229 ⟨v3, rfl, O231, hb230⟩
      have O232 := O226.below hb230
      clear O226
      have O233 := O227.below hb230
      clear O227
      have O234 := O228.below hb230
      clear O228
      have b235 := below_then bc (Nat.le_refl _) hb230
      clear bc
      have bc := b235
      clear b235 hb230
      clear d1
      have O3 := O231.congr (g := fun i => F (M + i)) (fun j hj => HE.out j hj)
      clear O231
      obtain ⟨r236a, r236b, r236c, r236l⟩ := id O232
      go_wp2_with fail
      refine (HY.out _ _ O233.ints).mono ?_
      rintro e w237 ⟨rfl, hb238⟩
      have O239 := O232.below hb238
      clear O232
      have O240 := O233.below hb238
      clear O233
      have O241 := O234.below hb238
      clear O234
      have O242 := O3.below hb238
      clear O3
      have b243 := below_then bc (Nat.le_refl _) hb238
      clear bc
      have bc := b243
      clear b243 hb238
      clear r236a r236b r236c r236l
      have bd := bc.alloc bc.size (.cells #[.int .i64 (s : Int), .int .i64 (t : Int), .int .i64 (y : Int)] 29)
      clear bc
      have bc := bd
      clear bd
      have O244 := O239.alloc (.cells #[.int .i64 (s : Int), .int .i64 (t : Int), .int .i64 (y : Int)] 29)
      clear O239
      have O245 := O240.alloc (.cells #[.int .i64 (s : Int), .int .i64 (t : Int), .int .i64 (y : Int)] 29)
      clear O240
      have O246 := O241.alloc (.cells #[.int .i64 (s : Int), .int .i64 (t : Int), .int .i64 (y : Int)] 29)
      clear O241
      have O247 := O242.alloc (.cells #[.int .i64 (s : Int), .int .i64 (t : Int), .int .i64 (y : Int)] 29)
      clear O242
      have O248 := BoxAt.new w237 29 (s : Int) (t : Int) (y : Int)
      go_wp2_with fail
      refine (HA.out _).mono ?_
      rintro e w249 ⟨v5, rfl, O251, hb250⟩
      have O252 := O244.below hb250
      clear O244
      have O253 := O245.below hb250
      clear O245
      have O254 := O246.below hb250
      clear O246
      have O255 := O247.below hb250
      clear O247
      have O256 := O248.below hb250
      clear O248
      have b257 := below_then bc (Nat.le_refl _) hb250
      clear bc
      have bc := b257
      clear b257 hb250
      have O5 := O251.congr (g := F) (fun j hj => EA.out j hj)
      clear O251
      obtain ⟨ta, tc, t1, -⟩ := tailC O253.intsC M hMk
      have eqq := (eqA_iff (fun i => F (M + i)) (fun i => F (M + i)) (k - M)).2 (fun _ _ => rfl)
      have hq := fun w h1 h2 => ssInts_eq v3 (.slice ta (k - M) tc) (k - M) (fun i => F (M + i)) (fun i => F (M + i)) w h1 h2 (by omega)
      rw [eqq] at hq
      clear eqq
      have HQ := Lib.hid hq
      clear hq
      have T2 : IntsC w249 (.slice ta (k - M) tc) (k - M) (fun i => F (M + i)) := by
        obtain ⟨a', c', t3, t4⟩ := tailC O253.intsC M hMk
        have := (t3 w249).symm.trans (t1 w249)
        injection this with this _
        injection this with e1 _ e3
        rw [← e1, ← e3]; exact t4
      go_wp2_with fail
      refine (HQ.out _ O255.ints T2.ints).mono ?_
      rintro e w' ⟨rfl, m258, rfl⟩
      have O260 := O252.drewN m258
      clear O252
      have O261 := O253.drewN m258
      clear O253
      have O262 := O254.drewN m258
      clear O254
      have O263 := O255.drewN m258
      clear O255
      have O264 := O256.drewN m258
      clear O256
      have O265 := O5.drewN m258
      clear O5
      have bd := below_drewN bc m258
      clear bc
      have bc := bd
      clear bd
      obtain ⟨w259, hW⟩ : ∃ W, w249.drewN m258 = W := ⟨_, rfl⟩
      rw [hW] at O260 O261 O262 O263 O264 O265 bc ⊢
      clear hW
      clear t1
      go_wp2_with fail
      refine (HP.out _ _ O261.ints).mono ?_
      rintro e w' ⟨rfl, rfl⟩
      clear O263
      clear O262
      obtain ⟨r266a, r266b, r266c, r266l⟩ := id O260
      obtain ⟨r267a, r267b, r267c, r267l⟩ := id O264
      go_wp2_with fail
      refine (ssInts_same _ _ _ _ k _ _ O265 O261 (by omega)).mono ?_
      rintro e w' ⟨rfl, m268, rfl⟩
      have O270 := O260.drewN m268
      clear O260
      have O271 := O261.drewN m268
      clear O261
      have O272 := O264.drewN m268
      clear O264
      have O273 := O265.drewN m268
      clear O265
      have bd := below_drewN bc m268
      clear bc
      have bc := bd
      clear bd
      obtain ⟨w269, hW⟩ : ∃ W, w259.drewN m268 = W := ⟨_, rfl⟩
      rw [hW] at O270 O271 O272 O273 bc ⊢
      clear hW
      obtain ⟨r274a, r274b, r274c, r274l⟩ := id O270
      obtain ⟨r275a, r275b, r275c, r275l⟩ := id O272
      go_wp2
      go_ret
      exact ⟨rfl, bc⟩
end Go.Proofs.Ytbllmgdnhjdphab
