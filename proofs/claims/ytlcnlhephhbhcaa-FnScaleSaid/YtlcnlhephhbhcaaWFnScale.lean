/- The walk of the law FnScale. -/
import Derived.Test.YtlcnlhephhbhcaaDrawSig2
import Derived.Test.YtlcnlhephhbhcaaSeqAlg3
import Derived.Test.YtlcnlhephhbhcaaSigMath
namespace Go.Proofs.Ytlcnlhephhbhcaa
open Go.RowKit
set_option linter.unusedVariables false
set_option maxHeartbeats 1600000 in
set_option maxRecDepth 100000 in
theorem fnScale_walk (a0 : Option Addr) (len0 cap0 : Nat) (z0 : List Int) (a1 : Option Addr) (len1 cap1 : Nat) (z1 : List Int) (w : World) (w0 : IsBytes w a0 len0 cap0 z0) (w1 : IsBytes w a1 len1 cap1 z1) :
    Calls Try.prog 9 #[.slice a0 len0 cap0, .slice a1 len1 cap1] w fun e w' => e = .returned (.bool true) ∧ Below w.heap.size w w' := by
  by_cases hl0 : 1048576 < len0
  · go_enter Try.func9, Try.ntmps9
    go_wp2
    go_ret
    exact ⟨rfl, Below.refl _ _⟩
  by_cases hl1 : 1048576 < len1
  · go_enter Try.func9, Try.ntmps9
    go_wp2
    go_ret
    exact ⟨rfl, Below.refl _ _⟩
  clear w1
  go_enter Try.func9, Try.ntmps9
  go_wp2_with fail
  refine (drawScaleSig_any a0 len0 cap0 z0 _ w0).mono ?_
  rintro e W1 ⟨v, n, f, k, rfl, O0, hn, hf, hk, bc⟩
  clear w0
  obtain ⟨sa, sc, rfl, -⟩ := O0.form
  clear hf hk
  have hi := fun w h => iScale_any (.slice sa n sc) n f k w h (by omega)
  have hs := fun w h => sScale_any (.slice sa n sc) n f k w h (by omega)
  cases hv : scOK n f k with
  | false =>
    rw [hv, show scN n f k = 0 by unfold scN; rw [hv]; rfl] at hi hs
    clear hv
    have HI := Lib.hid hi
    have HS := Lib.hid hs
    clear hi hs
    go_wp2_with fail
    refine (HI.out _ O0.ints).mono ?_
    rintro e w101 ⟨v1, rfl, O103, hb102⟩
    have O104 := O0.below hb102
    clear O0
    have b105 := below_then bc (Nat.le_refl _) hb102
    clear bc
    have bc := b105
    clear b105 hb102
    go_wp2_with fail
    refine (HS.out _ O104.ints).mono ?_
    rintro e w106 ⟨v2, rfl, O108, hb107⟩
    have O109 := O104.below hb107
    clear O104
    have O110 := O103.below hb107
    clear O103
    have b111 := below_then bc (Nat.le_refl _) hb107
    clear bc
    have bc := b111
    clear b111 hb107
    go_wp2_with fail
    refine (ssInts_same _ _ _ _ 0 _ _ O110 O108 (by omega)).mono ?_
    rintro e w' ⟨rfl, m112, rfl⟩
    have O114 := O109.drewN m112
    clear O109
    have O115 := O110.drewN m112
    clear O110
    have O116 := O108.drewN m112
    clear O108
    have bd := below_drewN bc m112
    clear bc
    have bc := bd
    clear bd
    obtain ⟨w113, hW⟩ : ∃ W, w106.drewN m112 = W := ⟨_, rfl⟩
    rw [hW] at O114 O115 O116 bc ⊢
    clear hW
    go_wp2_with fail
    refine (ssInts_same _ _ _ _ 0 _ _ O115 O116 (by omega)).mono ?_
    rintro e w' ⟨rfl, m117, rfl⟩
    have O119 := O114.drewN m117
    clear O114
    have O120 := O115.drewN m117
    clear O115
    have O121 := O116.drewN m117
    clear O116
    have bd := below_drewN bc m117
    clear bc
    have bc := bd
    clear bd
    obtain ⟨w118, hW⟩ : ∃ W, w113.drewN m117 = W := ⟨_, rfl⟩
    rw [hW] at O119 O120 O121 bc ⊢
    clear hW
    go_wp2
    go_ret
    exact ⟨rfl, bc⟩
  | true =>
    rw [hv, show scN n f k = n by unfold scN; rw [hv]; rfl] at hi hs
    unfold scOK at hv
    simp only [Bool.and_eq_true] at hv
    obtain ⟨h1, h2, h3⟩ := hv
    have hkb := (inM_iff k).1 h2
    obtain ⟨k1, k2⟩ := hkb
    obtain ⟨m, hm⟩ : ∃ m : Nat, len1 % 7 = m := ⟨_, rfl⟩
    have hmm : (len1 : Int) % 7 = (m : Int) := by omega
    have hmlt : m < 7 := by omega
    clear hm
    obtain ⟨M, hM, hM1, hM2⟩ : ∃ M : Int, (m : Int) - 3 = M ∧ -3 ≤ M ∧ M ≤ 3 := ⟨_, rfl, by omega, by omega⟩
    obtain ⟨P, hP, hP1, hP2⟩ : ∃ P : Int, k * M = P ∧ -3000000 ≤ P ∧ P ≤ 3000000 := ⟨_, rfl, mul3_lo k1 k2 hM1 hM2, mul3_hi k1 k2 hM1 hM2⟩
    have hPw : IntKind.i64.wrap (k * M) = P := by rw [hP]; exact IntWalk.i64_in _ (by omega)
    have hA := fun u w h => iScale_any u n (scF k f) M w h (by omega)
    have hB := fun w h => iScale_any (.slice sa n sc) n f P w h (by omega)
    by_cases hc : P < -1000000 ∨ 1000000 < P
    · skip
      have e : scOK n f P = false := by unfold scOK; rw [show inM P = false by cases h : inM P; rfl; have := (inM_iff P).1 h; omega]; simp
      rw [e, show scN n f P = 0 by unfold scN; rw [e]; rfl] at hB
      obtain ⟨t, ht⟩ : ∃ t, scOK n (scF k f) M = t := ⟨_, rfl⟩
      obtain ⟨N, hN⟩ : ∃ t, scN n (scF k f) M = t := ⟨_, rfl⟩
      rw [ht, hN] at hA
      clear ht hN e h1 h2 h3 hP
      have HI := Lib.hid hi
      have HS := Lib.hid hs
      have HA := Lib.hid hA
      have HB := Lib.hid hB
      clear hi hs hA hB
      go_wp2_with fail
      refine (HI.out _ O0.ints).mono ?_
      rintro e w201 ⟨v1, rfl, O203, hb202⟩
      have O204 := O0.below hb202
      clear O0
      have b205 := below_then bc (Nat.le_refl _) hb202
      clear bc
      have bc := b205
      clear b205 hb202
      go_wp2_with fail
      refine (HS.out _ O204.ints).mono ?_
      rintro e w206 ⟨v2, rfl, O208, hb207⟩
      have O209 := O204.below hb207
      clear O204
      have O210 := O203.below hb207
      clear O203
      have b211 := below_then bc (Nat.le_refl _) hb207
      clear bc
      have bc := b211
      clear b211 hb207
      go_wp2_with fail
      refine (ssInts_same _ _ _ _ n _ _ O210 O208 (by omega)).mono ?_
      rintro e w' ⟨rfl, m212, rfl⟩
      have O214 := O209.drewN m212
      clear O209
      have O215 := O210.drewN m212
      clear O210
      have O216 := O208.drewN m212
      clear O208
      have bd := below_drewN bc m212
      clear bc
      have bc := bd
      clear bd
      obtain ⟨w213, hW⟩ : ∃ W, w206.drewN m212 = W := ⟨_, rfl⟩
      rw [hW] at O214 O215 O216 bc ⊢
      clear hW
      clear O216
      go_wp2_with fail
      refine (HA.out _ _ O215.ints).mono ?_
      rintro e w217 ⟨v3, rfl, O219, hb218⟩
      have O220 := O214.below hb218
      clear O214
      have O221 := O215.below hb218
      clear O215
      have b222 := below_then bc (Nat.le_refl _) hb218
      clear bc
      have bc := b222
      clear b222 hb218
      go_wp2_with fail
      refine (HB.out _ O220.ints).mono ?_
      rintro e w223 ⟨v4, rfl, O225, hb224⟩
      have O226 := O220.below hb224
      clear O220
      have O227 := O221.below hb224
      clear O221
      have O228 := O219.below hb224
      clear O219
      have b229 := below_then bc (Nat.le_refl _) hb224
      clear bc
      have bc := b229
      clear b229 hb224
      rcases hc with hc | hc
      all_goals
        go_wp2
        go_ret
        exact ⟨rfl, bc⟩
    · skip
      have hin : inM M = true := (inM_iff M).2 ⟨by omega, by omega⟩
      have hip : inM P = true := (inM_iff P).2 ⟨by omega, by omega⟩
      rw [(scN_in h3 hin).1, (scN_in h3 hin).2, sc_sc, hP] at hA
      rw [(scN_in h1 hip).1, (scN_in h1 hip).2] at hB
      have hr := resN_le n (scF P f)
      have hE := fun u w h => iEnergy_any u n (scF k f) w h (by omega)
      rw [show enAns n (scF k f) = enF (scF k f) n by unfold enAns; rw [h3]; rfl, en_scale] at hE
      have hE2 := fun u w h => iEnergy_any u n f w h (by omega)
      rw [show enAns n f = enF f n by unfold enAns; rw [h1]; rfl] at hE2
      have b1 := enF_bd ((sigB_iff _ _).1 h3).1 n (Nat.le_refl _)
      have b2 := enF_bd ((sigB_iff _ _).1 h1).1 n (Nat.le_refl _)
      rw [en_scale] at b1
      obtain ⟨E, hEE⟩ : ∃ E, enF f n = E := ⟨_, rfl⟩
      rw [hEE] at hE hE2 b1 b2
      have kk := sq_bd k1 k2
      obtain ⟨K2, hK2⟩ : ∃ K, k * k = K := ⟨_, rfl⟩
      rw [hK2] at hE b1 kk
      obtain ⟨X, hX⟩ : ∃ X, K2 * E = X := ⟨_, rfl⟩
      rw [hX] at hE b1
      have hKw : IntKind.i64.wrap (k * k) = K2 := by rw [hK2]; exact IntWalk.i64_in _ (by omega)
      have hXw : IntKind.i64.wrap (K2 * E) = X := by rw [hX]; exact IntWalk.i64_in _ (by omega)
      have kk1 := kk.1
      have kk2 := kk.2
      have bX1 := b1.1
      have bX2 : X ≤ 4000000000000000 := by have := b1.2; omega
      obtain ⟨t, ht⟩ : ∃ t, sigB n (scF P f) = t := ⟨_, rfl⟩
      obtain ⟨N, hN⟩ : ∃ t, resN n (scF P f) = t := ⟨_, rfl⟩
      rw [ht, hN] at hA hB
      rw [hN] at hr
      clear ht hN h1 h2 h3 hin hip hEE b1 b2 kk hXw hKw
      have HI := Lib.hid hi
      have HS := Lib.hid hs
      have HA := Lib.hid hA
      have HB := Lib.hid hB
      have HE := Lib.hid hE
      have HE2 := Lib.hid hE2
      clear hi hs hA hB hE hE2
      go_wp2_with fail
      refine (HI.out _ O0.ints).mono ?_
      rintro e w201 ⟨v1, rfl, O203, hb202⟩
      have O204 := O0.below hb202
      clear O0
      have b205 := below_then bc (Nat.le_refl _) hb202
      clear bc
      have bc := b205
      clear b205 hb202
      go_wp2_with fail
      refine (HS.out _ O204.ints).mono ?_
      rintro e w206 ⟨v2, rfl, O208, hb207⟩
      have O209 := O204.below hb207
      clear O204
      have O210 := O203.below hb207
      clear O203
      have b211 := below_then bc (Nat.le_refl _) hb207
      clear bc
      have bc := b211
      clear b211 hb207
      go_wp2_with fail
      refine (ssInts_same _ _ _ _ n _ _ O210 O208 (by omega)).mono ?_
      rintro e w' ⟨rfl, m212, rfl⟩
      have O214 := O209.drewN m212
      clear O209
      have O215 := O210.drewN m212
      clear O210
      have O216 := O208.drewN m212
      clear O208
      have bd := below_drewN bc m212
      clear bc
      have bc := bd
      clear bd
      obtain ⟨w213, hW⟩ : ∃ W, w206.drewN m212 = W := ⟨_, rfl⟩
      rw [hW] at O214 O215 O216 bc ⊢
      clear hW
      clear O216
      go_wp2_with fail
      refine (HA.out _ _ O215.ints).mono ?_
      rintro e w217 ⟨v3, rfl, O219, hb218⟩
      have O220 := O214.below hb218
      clear O214
      have O221 := O215.below hb218
      clear O215
      have b222 := below_then bc (Nat.le_refl _) hb218
      clear bc
      have bc := b222
      clear b222 hb218
      go_wp2_with fail
      refine (HB.out _ O220.ints).mono ?_
      rintro e w223 ⟨v4, rfl, O225, hb224⟩
      have O226 := O220.below hb224
      clear O220
      have O227 := O221.below hb224
      clear O221
      have O228 := O219.below hb224
      clear O219
      have b229 := below_then bc (Nat.le_refl _) hb224
      clear bc
      have bc := b229
      clear b229 hb224
      go_wp2_with fail
      refine (ssInts_same _ _ _ _ N _ _ O228 O225 (by omega)).mono ?_
      rintro e w' ⟨rfl, m230, rfl⟩
      have O232 := O226.drewN m230
      clear O226
      have O233 := O227.drewN m230
      clear O227
      have O234 := O228.drewN m230
      clear O228
      have O235 := O225.drewN m230
      clear O225
      have bd := below_drewN bc m230
      clear bc
      have bc := bd
      clear bd
      obtain ⟨w231, hW⟩ : ∃ W, w223.drewN m230 = W := ⟨_, rfl⟩
      rw [hW] at O232 O233 O234 O235 bc ⊢
      clear hW
      go_wp2_with fail
      refine (HE.out _ _ O233.ints).mono ?_
      rintro e w236 ⟨rfl, hb237⟩
      have O238 := O232.below hb237
      clear O232
      have O239 := O233.below hb237
      clear O233
      have O240 := O234.below hb237
      clear O234
      have O241 := O235.below hb237
      clear O235
      have b242 := below_then bc (Nat.le_refl _) hb237
      clear bc
      have bc := b242
      clear b242 hb237
      go_wp2_with fail
      refine (HE2.out _ _ O238.ints).mono ?_
      rintro e w243 ⟨rfl, hb244⟩
      have O245 := O238.below hb244
      clear O238
      have O246 := O239.below hb244
      clear O239
      have O247 := O240.below hb244
      clear O240
      have O248 := O241.below hb244
      clear O241
      have b249 := below_then bc (Nat.le_refl _) hb244
      clear bc
      have bc := b249
      clear b249 hb244
      go_wp2
      go_ret
      exact ⟨rfl, bc⟩
end Go.Proofs.Ytlcnlhephhbhcaa
