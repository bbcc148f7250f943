/- The walk of the law FnEarlyLate. -/
import Derived.Test.YtmeooebklohdfaaDrawPil6
import Derived.Test.YtmeooebklohdfaaPilT
import Derived.Test.YtmeooebklohdfaaPil9
import Derived.Test.YtmeooebklohdfaaSsPil
import Derived.Deep.RegionHeld3
import Derived.BigQuiet
namespace Go.Proofs.Ytmeooebklohdfaa
open Go.RowKit
set_option linter.unusedVariables false
theorem ro_allL {n : Nat} {f : Nat → Int} {c : ByteArray} {g k : Int} (h : roB n f c g k = true) (K : Nat) (hK : K < perL c g) : roB n f c g (K : Int) = true := by
  obtain ⟨a, b⟩ := (roB_iff _ _ _ _ _).1 h
  exact (roB_iff _ _ _ _ _).2 ⟨a, (offB_iff _ _ _).2 ⟨((offB_iff _ _ _).1 b).1, by omega, by omega⟩⟩
theorem tm_mod (x : Int) (P : Nat) (h : 1 ≤ P) : (x.tmod (P : Int) + (P : Int)).tmod (P : Int) = (modN x P : Int) := by
  have hl := modN_lt x P (by omega)
  by_cases h0 : 0 ≤ x.tmod (P : Int)
  · rw [tmod_pos x P (by omega) h0, Int.tmod_eq_emod_of_nonneg (by omega), Int.add_emod_right, Int.emod_eq_of_lt (by omega) (by omega)]
  · rw [tmod_neg x P (by omega) (by omega), Int.tmod_eq_emod_of_nonneg (by omega), Int.emod_eq_of_lt (by omega) (by omega)]
set_option maxHeartbeats 12800000 in
set_option maxRecDepth 100000 in
theorem fnEarlyLate_walk (a0 : Option Addr) (len0 cap0 : Nat) (z0 : List Int) (w : World) (w0 : IsBytes w a0 len0 cap0 z0) :
    Calls Try.prog 9 #[.slice a0 len0 cap0] w fun e w' => e = .returned (.bool true) ∧ Below w.heap.size w w' := by
  by_cases hl0 : 1048576 < len0
  · go_enter Try.func9, Try.ntmps9
    go_wp2
    go_ret
    exact ⟨rfl, Below.refl _ _⟩
  go_enter Try.func9, Try.ntmps9
  go_wp2_with fail
  refine (drawEarly_any a0 len0 cap0 z0 _ w0).mono ?_
  rintro e W1 ⟨v, n, f, c, g, k, rfl, O0, hn, hf, hc, hg, hk0, bc0⟩
  obtain ⟨sa, sc, rfl, -⟩ := O0.form
  have Q0 := PilAt.new W1 24 c g
  have bc := bc0.alloc bc0.size (.cells #[.string c, .int .i64 g] 24)
  have OV := O0.alloc (.cells #[.string c, .int .i64 g] 24)
  clear w0 bc0 O0 hf
  obtain ⟨V, hV⟩ : ∃ V, W1.alloc (.cells #[.string c, .int .i64 g] 24) = V := ⟨_, rfl⟩
  obtain ⟨X, hX⟩ : ∃ X, W1.heap.size = X := ⟨_, rfl⟩
  have HVV := Lib.hid hV
  have HXX := Lib.hid hX
  rw [hV] at Q0 bc OV
  rw [hX] at Q0
  clear hV hX
  have hi := fun w h => iEarly_any (.slice sa n sc) n f c g k w h (by omega) (by omega)
  have hv := fun w h => sEarly_any (.slice sa n sc) n f c g k w h (by omega) (by omega)
  cases hr : roB n f c g k with
  | false =>
    rw [el_no hr] at hi hv
    have HI := Lib.hid hi
    have HV := Lib.hid hv
    clear hi hv
    clear hr
    obtain ⟨d0, d1, dl⟩ := id Q0
    rw [← HVV.out, ← HXX.out] at d0 d1
    go_wp2_with fail
    clear d0 d1 dl
    rw [HVV.out, HXX.out]
    refine (HI.out _ OV.intsC).mono ?_
    rintro e w101 ⟨rfl, hb102⟩
    have O103 := OV.below hb102
    clear OV
    have Q104 := Q0.below hb102 Q0.2.2
    clear Q0
    have b105 := below_then bc (Nat.le_refl _) hb102
    clear bc
    have bc := b105
    clear b105 hb102
    obtain ⟨d0, d1, dl⟩ := id Q104
    go_wp2_with fail
    refine (HV.out _ O103.ints).mono ?_
    rintro e w106 ⟨rfl, hb107⟩
    clear d0 d1 dl
    have O108 := O103.below hb107
    clear O103
    have Q109 := Q104.below hb107 Q104.2.2
    clear Q104
    have b110 := below_then bc (Nat.le_refl _) hb107
    clear bc
    have bc := b110
    clear b110 hb107
    go_wp2
    go_ret
    exact ⟨rfl, bc⟩
  | true =>
    rw [el_yes hr] at hi hv
    obtain ⟨r1, r2⟩ := (roB_iff _ _ _ _ _).1 hr
    obtain ⟨r3, k0, k1⟩ := (offB_iff _ _ _).1 r2
    obtain ⟨G, rfl, g1, g8, -, q4, -, -, q7, p1, p2⟩ := pil_nat r3
    obtain ⟨K, rfl⟩ : ∃ K : Nat, k = (K : Int) := ⟨k.toNat, by omega⟩
    have hl := fun w => iPLen_any c (G : Int) w (by omega)
    rw [show lenAns c (G : Int) = (perL c (G : Int) : Int) by unfold lenAns; rw [if_pos r3]] at hl
    have ht := fun w h => iTrack_any (.slice sa n sc) n f c (G : Int) (K : Int) w h (by omega) (by omega)
    rw [ts_yes hr] at ht
    rw [Int.toNat_natCast] at ht hi hv
    rw [Int.toNat_natCast] at ht
    have hA := (sigB_iff _ _).1 r1
    rw [← Int.toNat_natCast G] at q7
    rw [Int.toNat_natCast] at q7
    have hb1 := fun x => scr_bd q4 q7 p1 hA.1 hA.2 x
    have hD := modN_lt ((K : Int) + (hfN G : Int)) (perL c (G : Int)) (by omega)
    have hE := modN_lt ((K : Int) - (hfN G : Int)) (perL c (G : Int)) (by omega)
    have h1 := fun w h => ssScore_any (.slice sa n sc) n f c (G : Int) ((modN ((K : Int) + (hfN G : Int)) (perL c (G : Int)) : Nat) : Int) w h (by omega) (by omega)
    rw [sc_yes (ro_allL hr _ hD), Int.toNat_natCast] at h1
    simp only [scr_mod _ _ _ _ _ _ p1] at h1
    have h2 := fun w h => ssScore_any (.slice sa n sc) n f c (G : Int) ((modN ((K : Int) - (hfN G : Int)) (perL c (G : Int)) : Nat) : Int) w h (by omega) (by omega)
    rw [sc_yes (ro_allL hr _ hE), Int.toNat_natCast] at h2
    simp only [scr_mod _ _ _ _ _ _ p1] at h2
    have he : elD n f c G (perL c (G : Int)) (K : Int) = scr n f c G (perL c (G : Int)) ((K : Int) + (hfN G : Int)) - scr n f c G (perL c (G : Int)) ((K : Int) - (hfN G : Int)) := rfl
    have b1 := hb1 ((K : Int) + (hfN G : Int))
    have b2 := hb1 ((K : Int) - (hfN G : Int))
    have st : ∀ E, elD n f c G (perL c (G : Int)) (K : Int) = E → stN n f c G (perL c (G : Int)) K = modN ((K : Int) + sgI E) (perL c (G : Int)) := fun E h => by rw [← h]; rfl
    have t1 := tm_mod ((K : Int) + (hfN G : Int)) (perL c (G : Int)) p1
    have t2 := tm_mod ((K : Int) - (hfN G : Int)) (perL c (G : Int)) p1
    have t3 := tmod_bd ((K : Int) + (hfN G : Int)) (perL c (G : Int)) (by omega)
    have t4 := tmod_bd ((K : Int) - (hfN G : Int)) (perL c (G : Int)) (by omega)
    have hH : (G / 2 ≤ 1 ∧ hfN G = 1) ∨ (1 < G / 2 ∧ hfN G = G / 2) := by unfold hfN; omega
    have hH4 : hfN G ≤ 4 ∧ 1 ≤ hfN G := by unfold hfN; omega
    have gd : (G : Int).tdiv 2 = ((G / 2 : Nat) : Int) := by rw [Int.tdiv_eq_ediv_of_nonneg (by omega)]; omega
    obtain ⟨Z, hZ⟩ : ∃ Z, G / 2 = Z := ⟨_, rfl⟩
    rw [hZ] at hH gd
    clear hZ
    obtain ⟨D, heqD⟩ : ∃ x, modN ((K : Int) + (hfN G : Int)) (perL c (G : Int)) = x := ⟨_, rfl⟩
    rw [heqD] at hD h1 t1
    clear heqD
    obtain ⟨D2, heqD2⟩ : ∃ x, modN ((K : Int) - (hfN G : Int)) (perL c (G : Int)) = x := ⟨_, rfl⟩
    rw [heqD2] at hE h2 t2
    clear heqD2
    obtain ⟨S1, heqS1⟩ : ∃ x, scr n f c G (perL c (G : Int)) ((K : Int) + (hfN G : Int)) = x := ⟨_, rfl⟩
    rw [heqS1] at h1 he b1
    clear heqS1
    obtain ⟨S2, heqS2⟩ : ∃ x, scr n f c G (perL c (G : Int)) ((K : Int) - (hfN G : Int)) = x := ⟨_, rfl⟩
    rw [heqS2] at h2 he b2
    clear heqS2
    obtain ⟨E, hEE⟩ : ∃ E, elD n f c G (perL c (G : Int)) (K : Int) = E := ⟨_, rfl⟩
    replace st := st E hEE
    rw [hEE] at hi hv he
    clear hEE hb1
    have hSt := stN_lt n f c G (perL c (G : Int)) K p1
    obtain ⟨St, heqSt⟩ : ∃ x, stN n f c G (perL c (G : Int)) K = x := ⟨_, rfl⟩
    rw [heqSt] at ht st hSt
    clear heqSt
    obtain ⟨H, heqH⟩ : ∃ x, hfN G = x := ⟨_, rfl⟩
    rw [heqH] at hH hH4 t1 t2 t3 t4
    clear heqH
    obtain ⟨N, hN⟩ : ∃ N, perL c (G : Int) = N := ⟨_, rfl⟩
    rw [hN] at hl hD hE t1 t2 t3 t4 st hSt k1 p1 p2
    clear hN hr r1 r2 r3 q4 q7 hA
    obtain ⟨X1, hX1⟩ : ∃ x, ((K : Int) + (H : Int)).tmod (N : Int) = x := ⟨_, rfl⟩
    rw [hX1] at t1 t3
    obtain ⟨X2, hX2⟩ : ∃ x, ((K : Int) - (H : Int)).tmod (N : Int) = x := ⟨_, rfl⟩
    rw [hX2] at t2 t4
    obtain ⟨Y1, hY1⟩ : ∃ x, X1 + (N : Int) = x := ⟨_, rfl⟩
    rw [hY1] at t1
    obtain ⟨Y2, hY2⟩ : ∃ x, X2 + (N : Int) = x := ⟨_, rfl⟩
    rw [hY2] at t2
    have n0 : ¬ ((N : Int) = 0) := by omega
    have n1 : ((N : Int) == 0) = false := by simp; omega
    have n2 : ¬ N = 0 := by omega
    have ST := Lib.hid st
    have HE9 := Lib.hid he
    clear st he
    have HI := Lib.hid hi
    have HV := Lib.hid hv
    have HL := Lib.hid hl
    have HT := Lib.hid ht
    have H1 := Lib.hid h1
    have H2 := Lib.hid h2
    clear hi hv hl ht h1 h2
    obtain ⟨d0, d1, dl⟩ := id Q0
    rw [← HVV.out, ← HXX.out] at d0 d1
    go_wp2_with fail
    clear d0 d1 dl
    rw [HVV.out, HXX.out]
    refine (HI.out _ OV.intsC).mono ?_
    rintro e w211 ⟨rfl, hb212⟩
    have O213 := OV.below hb212
    clear OV
    have Q214 := Q0.below hb212 Q0.2.2
    clear Q0
    have b215 := below_then bc (Nat.le_refl _) hb212
    clear bc
    have bc := b215
    clear b215 hb212
    obtain ⟨d0, d1, dl⟩ := id Q214
    go_wp2_with fail
    refine (HV.out _ O213.ints).mono ?_
    rintro e w216 ⟨rfl, hb217⟩
    clear d0 d1 dl
    have O218 := O213.below hb217
    clear O213
    have Q219 := Q214.below hb217 Q214.2.2
    clear Q214
    have b220 := below_then bc (Nat.le_refl _) hb217
    clear bc
    have bc := b220
    clear b220 hb217
    obtain ⟨d0, d1, dl⟩ := id Q219
    go_wp2_with fail
    refine (HL.out _).mono ?_
    rintro e w221 ⟨rfl, hb222⟩
    clear d0 d1 dl
    have O223 := O218.below hb222
    clear O218
    have Q224 := Q219.below hb222 Q219.2.2
    clear Q219
    have b225 := below_then bc (Nat.le_refl _) hb222
    clear bc
    have bc := b225
    clear b225 hb222
    obtain ⟨hH4, hH1⟩ := hH4
    rcases hH with ⟨u1, hz⟩ | ⟨u1, hz⟩
    · skip
      have u2 : ¬ ((1 : Int) < (Z : Int)) := by omega
      have u3 : max (1 : Int) (Z : Int) = 1 := by omega
      subst hz
      rw [show ((1 : Nat) : Int) = 1 by rfl] at hX1 hX2
      have HXS : Hid (((K : Int) + (1 : Int)).tmod (N : Int) = X1 ∧ ((K : Int) - (1 : Int)).tmod (N : Int) = X2) := Lib.hid ⟨hX1, hX2⟩
      obtain ⟨d0, d1, dl⟩ := id Q224
      go_wp2_with fail
      refine (HT.out _ O223.intsC).mono ?_
      rintro e w326 ⟨rfl, hb327⟩
      clear d0 d1 dl
      have O328 := O223.below hb327
      clear O223
      have Q329 := Q224.below hb327 Q224.2.2
      clear Q224
      have b330 := below_then bc (Nat.le_refl _) hb327
      clear bc
      have bc := b330
      clear b330 hb327
      clear u1 u2 u3
      obtain ⟨A1, hA1⟩ : ∃ A : Nat, K + 1 = A := ⟨_, rfl⟩
      have a1 : (K : Int) + (1 : Int) = (A1 : Int) := by omega
      obtain ⟨A2, hA2⟩ : ∃ A : Int, (K : Int) - (1 : Int) = A := ⟨_, rfl⟩
      rw [a1] at hX1
      rw [hA2] at hX2
      clear hA1 HXS
      obtain ⟨d0, d1, dl⟩ := id Q329
      go_wp2_with fail
      obtain ⟨e0, e1, el⟩ := Q329.below (Below.refl _ _).drew Q329.2.2
      have I1 := O328.intsC.below (Below.refl _ _).drew
      have bd := bc.drew
      have kk0 := (Below.refl w326.heap.size w326).drew
      have sw : IntKind.i64.wrap (S1 - S2) = E := by rw [IntWalk.i64_in _ (by omega), HE9.out]
      go_region_held3 (fun wx => wx.cell? ⟨X, 0, none⟩ = some (.string c) ∧ wx.cell? ⟨X, 1, none⟩ = some (.int .i64 (G : Int))) (first | with_reducible exact ⟨n0', n1'⟩ | with_reducible exact ⟨m0, m1⟩ | with_reducible exact ⟨e0, e1⟩) (first
        | (go_at_call 26; refine (H2.out _ I2).mono ?_; rintro e w10 ⟨rfl, hb10⟩; obtain ⟨n0', n1', nl⟩ := Q329.below (below_then kk9 (Nat.le_refl _) hb10) Q329.2.2; have bd10 := below_then bd9 (Nat.le_refl _) hb10)
        | (go_at_call 26; refine (H1.out _ I1).mono ?_; rintro e w9 ⟨rfl, hb9⟩; have kk9 := below_then kk0 (Nat.le_refl _) hb9; obtain ⟨m0, m1, ml⟩ := Q329.below kk9 Q329.2.2; have I2 := I1.below hb9; have bd9 := below_then bd (Nat.le_refl _) hb9))
      clear e0 e1 el m0 m1 ml n0' n1' nl I1 I2 bd9 kk9 kk0 hb9 hb10 bd d0 d1 dl bc Q329 O328
      have bc := bd10
      clear bd10 sw hY1 hY2 t1 t2 t3 t4 a1 hA2 hX1 hX2
      rcases Int.lt_trichotomy E 0 with hneg | hz | hpos
      · skip
        have z1 : ¬ (0 < E) := by omega
        have z3 : ¬ E = 0 := by omega
        have z4 : (E == 0) = false := by simp; omega
        have hs := ST.out
        rw [show sgI E = -1 by unfold sgI; rw [if_neg z1, if_pos hneg]] at hs
        obtain ⟨A, hA⟩ : ∃ A : Nat, K + N = A := ⟨_, rfl⟩
        have a1 : (K : Int) + (N : Int) = (A : Int) := by omega
        obtain ⟨B, hB⟩ : ∃ B : Nat, A - 1 = B := ⟨_, rfl⟩
        have a2 : (A : Int) - 1 = (B : Int) := by omega
        have a3 : (B : Int).tmod (N : Int) = (St : Int) := by rw [Int.tmod_eq_emod_of_nonneg (by omega), show (B : Int) = ((K : Int) + -1) + (N : Int) * 1 by omega, Int.add_mul_emod_self_left, hs, modN_eq _ _ (by omega)]
        have ab : A ≤ 10000 := by omega
        clear hA hB hs
        go_wp2
        go_ret
        exact ⟨rfl, bc⟩
      · skip
        subst hz
        have hs := ST.out
        rw [show sgI 0 = 0 by rfl, Int.add_zero, modN_id K N (by omega)] at hs
        subst hs
        go_wp2
        go_ret
        exact ⟨rfl, bc⟩
      · skip
        have z1 : ¬ (E < 0) := by omega
        have hs := ST.out
        rw [show sgI E = 1 by unfold sgI; rw [if_pos hpos]] at hs
        obtain ⟨A, hA⟩ : ∃ A : Nat, K + 1 = A := ⟨_, rfl⟩
        have a1 : (K : Int) + 1 = (A : Int) := by omega
        have a3 : (A : Int).tmod (N : Int) = (St : Int) := by rw [Int.tmod_eq_emod_of_nonneg (by omega), ← a1, hs, modN_eq _ _ (by omega)]
        have ab : A ≤ 10000 := by omega
        clear hA hs
        go_wp2
        go_ret
        exact ⟨rfl, bc⟩
    · skip
      obtain rfl : Z = H := hz.symm
      have u2 : (1 : Int) < (Z : Int) := by omega
      have u3 : max (1 : Int) (Z : Int) = (Z : Int) := by omega
      have HXS : Hid (((K : Int) + (Z : Int)).tmod (N : Int) = X1 ∧ ((K : Int) - (Z : Int)).tmod (N : Int) = X2) := Lib.hid ⟨hX1, hX2⟩
      obtain ⟨d0, d1, dl⟩ := id Q224
      go_wp2_with fail
      refine (HT.out _ O223.intsC).mono ?_
      rintro e w731 ⟨rfl, hb732⟩
      clear d0 d1 dl
      have O733 := O223.below hb732
      clear O223
      have Q734 := Q224.below hb732 Q224.2.2
      clear Q224
      have b735 := below_then bc (Nat.le_refl _) hb732
      clear bc
      have bc := b735
      clear b735 hb732
      clear u1 u2 u3
      obtain ⟨A1, hA1⟩ : ∃ A : Nat, K + Z = A := ⟨_, rfl⟩
      have a1 : (K : Int) + (Z : Int) = (A1 : Int) := by omega
      obtain ⟨A2, hA2⟩ : ∃ A : Int, (K : Int) - (Z : Int) = A := ⟨_, rfl⟩
      rw [a1] at hX1
      rw [hA2] at hX2
      clear hA1 HXS
      obtain ⟨d0, d1, dl⟩ := id Q734
      go_wp2_with fail
      obtain ⟨e0, e1, el⟩ := Q734.below (Below.refl _ _).drew Q734.2.2
      have I1 := O733.intsC.below (Below.refl _ _).drew
      have bd := bc.drew
      have kk0 := (Below.refl w731.heap.size w731).drew
      have sw : IntKind.i64.wrap (S1 - S2) = E := by rw [IntWalk.i64_in _ (by omega), HE9.out]
      go_region_held3 (fun wx => wx.cell? ⟨X, 0, none⟩ = some (.string c) ∧ wx.cell? ⟨X, 1, none⟩ = some (.int .i64 (G : Int))) (first | with_reducible exact ⟨n0', n1'⟩ | with_reducible exact ⟨m0, m1⟩ | with_reducible exact ⟨e0, e1⟩) (first
        | (go_at_call 26; refine (H2.out _ I2).mono ?_; rintro e w10 ⟨rfl, hb10⟩; obtain ⟨n0', n1', nl⟩ := Q734.below (below_then kk9 (Nat.le_refl _) hb10) Q734.2.2; have bd10 := below_then bd9 (Nat.le_refl _) hb10)
        | (go_at_call 26; refine (H1.out _ I1).mono ?_; rintro e w9 ⟨rfl, hb9⟩; have kk9 := below_then kk0 (Nat.le_refl _) hb9; obtain ⟨m0, m1, ml⟩ := Q734.below kk9 Q734.2.2; have I2 := I1.below hb9; have bd9 := below_then bd (Nat.le_refl _) hb9))
      clear e0 e1 el m0 m1 ml n0' n1' nl I1 I2 bd9 kk9 kk0 hb9 hb10 bd d0 d1 dl bc Q734 O733
      have bc := bd10
      clear bd10 sw hY1 hY2 t1 t2 t3 t4 a1 hA2 hX1 hX2
      rcases Int.lt_trichotomy E 0 with hneg | hz | hpos
      · skip
        have z1 : ¬ (0 < E) := by omega
        have z3 : ¬ E = 0 := by omega
        have z4 : (E == 0) = false := by simp; omega
        have hs := ST.out
        rw [show sgI E = -1 by unfold sgI; rw [if_neg z1, if_pos hneg]] at hs
        obtain ⟨A, hA⟩ : ∃ A : Nat, K + N = A := ⟨_, rfl⟩
        have a1 : (K : Int) + (N : Int) = (A : Int) := by omega
        obtain ⟨B, hB⟩ : ∃ B : Nat, A - 1 = B := ⟨_, rfl⟩
        have a2 : (A : Int) - 1 = (B : Int) := by omega
        have a3 : (B : Int).tmod (N : Int) = (St : Int) := by rw [Int.tmod_eq_emod_of_nonneg (by omega), show (B : Int) = ((K : Int) + -1) + (N : Int) * 1 by omega, Int.add_mul_emod_self_left, hs, modN_eq _ _ (by omega)]
        have ab : A ≤ 10000 := by omega
        clear hA hB hs
        go_wp2
        go_ret
        exact ⟨rfl, bc⟩
      · skip
        subst hz
        have hs := ST.out
        rw [show sgI 0 = 0 by rfl, Int.add_zero, modN_id K N (by omega)] at hs
        subst hs
        go_wp2
        go_ret
        exact ⟨rfl, bc⟩
      · skip
        have z1 : ¬ (E < 0) := by omega
        have hs := ST.out
        rw [show sgI E = 1 by unfold sgI; rw [if_pos hpos]] at hs
        obtain ⟨A, hA⟩ : ∃ A : Nat, K + 1 = A := ⟨_, rfl⟩
        have a1 : (K : Int) + 1 = (A : Int) := by omega
        have a3 : (A : Int).tmod (N : Int) = (St : Int) := by rw [Int.tmod_eq_emod_of_nonneg (by omega), ← a1, hs, modN_eq _ _ (by omega)]
        have ab : A ≤ 10000 := by omega
        clear hA hs
        go_wp2
        go_ret
        exact ⟨rfl, bc⟩
end Go.Proofs.Ytmeooebklohdfaa
