/- The walk of the law FnSearchFinds. -/
import Derived.Test.YtagdfohjhokgiaaSsSharp
import Derived.Test.YtagdfohjhokgiaaShapeFind
import Derived.Test.YtagdfohjhokgiaaSsPilot
import Derived.Test.YtagdfohjhokgiaaPil3
import Derived.Deep.RegionHeld3
import Derived.BigQuiet
namespace Go.Proofs.Ytagdfohjhokgiaa
open Go.RowKit
set_option linter.unusedVariables false
theorem gz_bd2 {g : Nat} {z : Int} (h1 : 1 ≤ g) (h9 : g ≤ 9) (z1 : -1000 ≤ z) (z2 : z ≤ 1000) : -10000 ≤ (g : Int) * z ∧ (g : Int) * z ≤ 10000 := by
  have : g = 1 ∨ g = 2 ∨ g = 3 ∨ g = 4 ∨ g = 5 ∨ g = 6 ∨ g = 7 ∨ g = 8 ∨ g = 9 := by omega
  rcases this with rfl | rfl | rfl | rfl | rfl | rfl | rfl | rfl | rfl <;> omega
set_option maxHeartbeats 12800000 in
set_option maxRecDepth 100000 in
theorem fnSearchFinds_walk (a0 : Option Addr) (len0 cap0 : Nat) (z0 : List Int) (a1 : Option Addr) (len1 cap1 : Nat) (z1 : List Int) (w : World) (w0 : IsBytes w a0 len0 cap0 z0) (w1 : IsBytes w a1 len1 cap1 z1) :
    Calls Try.prog 4 #[.slice a0 len0 cap0, .slice a1 len1 cap1] w fun e w' => e = .returned (.bool true) ∧ Below w.heap.size w w' := by
  by_cases hl0 : 1048576 < len0
  · go_enter Try.func4, Try.ntmps4
    go_wp2
    go_ret
    exact ⟨rfl, Below.refl _ _⟩
  by_cases hl1 : 1048576 < len1
  · go_enter Try.func4, Try.ntmps4
    go_wp2
    go_ret
    exact ⟨rfl, Below.refl _ _⟩
  clear w1
  go_enter Try.func4, Try.ntmps4
  go_wp2_with fail
  refine (ssSharp_any a0 len0 cap0 z0 a1 len1 cap1 _ w0 (by omega) (by omega)).mono ?_
  rintro e W1 ⟨s, t, G, AT, ga, rfl, hs2, hs5, hr, hgd, hG1, hG6, hAT, hga1, hga9, bc0⟩
  clear w0
  have hV := twoV_of hs2 hs5 hgd
  have hqb := runS_okM s t 1 (tw s - 1)
  obtain ⟨c, hc⟩ : ∃ c, runS s t 1 (tw s - 1) = c := ⟨_, rfl⟩
  obtain ⟨n, hn⟩ : ∃ n, tw s - 1 = n := ⟨_, rfl⟩
  rw [hc] at hV hqb ⊢
  rw [hn] at hV hAT
  obtain ⟨hcs, hn3, hn31, hau0, hau1⟩ := id hV
  clear hc hn hs2 hs5 hr hgd hau0 hau1
  have hp : pilB c (G : Int) = true := (pilB_iff _ _).2 ⟨(seqB_iff _).2 ⟨hqb, by omega, by omega⟩, by omega, by omega⟩
  have hPn : n * G = perL c (G : Int) := by rw [per_nat, hcs]
  rw [hPn] at hAT
  have hP6 : perL c (G : Int) ≤ 31 * 6 := by rw [← hPn]; exact Nat.mul_le_mul hn31 hG6
  have hP3 : 3 * G ≤ perL c (G : Int) := by rw [← hPn]; exact Nat.mul_le_mul_right G hn3
  have hP1 : 1 ≤ perL c (G : Int) := by omega
  have hl := fun w => iPLen_any c (G : Int) w (by omega)
  rw [show lenAns c (G : Int) = (perL c (G : Int) : Int) by unfold lenAns; rw [if_pos hp]] at hl
  have hoff : ∀ j : Nat, j < perL c (G : Int) → offB c (G : Int) (j : Int) = true := fun j hj => (offB_iff _ _ _).2 ⟨hp, by omega, by omega⟩
  have hsg : sigB (perL c (G : Int)) (psF c (G : Int) (AT : Int) (ga : Int)) = true := (ps_sig (G := (G : Int).toNat) (by rw [hcs] at hqb ⊢; exact hqb) (by rw [Int.toNat_natCast, hcs]; exact hPn) hP1 (by omega) (by omega) (AT : Int) (by omega)).2
  have hrd : rdB (perL c (G : Int)) (psF c (G : Int) (AT : Int) (ga : Int)) c (G : Int) = true := (rdB_iff _ _ _ _).2 ⟨hsg, hp⟩
  have hps : ∀ w, Calls Try.prog 8 #[.agg #[.string c, .int .i64 (G : Int)], .int .i64 (AT : Int), .int .i64 (perL c (G : Int) : Int), .int .i64 (ga : Int)] w fun e w' => ∃ u, e = .returned u ∧ OF w' w.heap.size u (perL c (G : Int)) (psF c (G : Int) (AT : Int) (ga : Int)) ∧ Below w.heap.size w w' := fun w => by
    have h1 := ssPilot_any c (G : Int) (AT : Int) (perL c (G : Int) : Int) (ga : Int) w (by omega)
    rw [(ps_yes (hoff AT hAT) ((psB_iff _ _).2 ⟨by omega, by omega, by omega, by omega⟩)).2, Int.toNat_natCast (perL c (G : Int))] at h1
    exact h1
  have hshape : ∀ o : Nat, o < perL c (G : Int) → stF (perL c (G : Int)) (psF c (G : Int) (AT : Int) (ga : Int)) c (G : Int) o = (ga : Int) * shV n G (dsN (perL c (G : Int)) AT o) := fun o ho => by
    unfold stF psF
    rw [Int.toNat_natCast]
    exact scr_shape (ga : Int) hV (by omega) hPn hAT ho
  obtain ⟨J, hJn, hJP, hJd, hJA⟩ := search_chip hrd hG1 (by omega) hn3 hPn rfl hAT hga1 hshape
  have hone := search_one hrd hG1 hn3 hPn rfl hAT hga1 hshape
  have hf := fun (t : Int) (s : Nat) v w h => iFirst_any v (perL c (G : Int)) (psF c (G : Int) (AT : Int) (ga : Int)) c (G : Int) (s : Int) t w h (by omega) (by omega)
  have hfs := fun (t : Int) (s : Nat) v w h => sFirst_any v (perL c (G : Int)) (psF c (G : Int) (AT : Int) (ga : Int)) c (G : Int) (s : Int) t w h (by omega) (by omega)
  have ht := fun (t : Int) (s : Nat) v w h => iTime_any v (perL c (G : Int)) (psF c (G : Int) (AT : Int) (ga : Int)) c (G : Int) (s : Int) t w h (by omega) (by omega)
  have hd : ∀ w, Calls Try.prog 10 #[.agg #[.string c, .int .i64 (G : Int)], .int .i64 ((J * G : Nat) : Int), .int .i64 (AT : Int)] w fun e w' => e = .returned (.int .i64 (dsN (perL c (G : Int)) (J * G) AT : Nat)) ∧ Below w.heap.size w w' := fun w => by
    have h1 := iDist_any c (G : Int) ((J * G : Nat) : Int) (AT : Int) w (by omega)
    rw [ds_yes (hoff (J * G) hJP) (hoff AT hAT)] at h1
    exact h1
  obtain ⟨TH, hTH⟩ : ∃ T, (ga : Int) * (((n * G : Nat) : Int) - ((G / 2 : Nat) : Int) * ((n : Int) + 1)) = T := ⟨_, rfl⟩
  rw [hTH] at hJA
  have h1f := fun v w h => hf TH G v w h
  have h1s := fun v w h => hfs TH G v w h
  have h1t := fun v w h => ht TH G v w h
  rw [hJA] at h1f h1s h1t
  have h2f := fun v w h => hf ((ga : Int) * (perL c (G : Int) : Int)) 1 v w h
  have h2t := fun v w h => ht ((ga : Int) * (perL c (G : Int) : Int)) 1 v w h
  rw [hone] at h2f h2t
  rw [show ((1 : Nat) : Int) = 1 by rfl] at h2f h2t
  obtain ⟨F, hF⟩ : ∃ F, psF c (G : Int) (AT : Int) (ga : Int) = F := ⟨_, rfl⟩
  rw [hF] at hps h1f h1s h1t h2f h2t
  obtain ⟨N, hN⟩ : ∃ N, perL c (G : Int) = N := ⟨_, rfl⟩
  rw [hN] at hl hps hd h1f h1s h1t h2f h2t hAT hP6 hP3 hP1 hPn hJP hJd
  have hcz : (c.size : Int) = (n : Int) := by rw [hcs]
  clear hF hN hshape hrd hsg hoff hp hV hqb hcs hf hfs ht hJA hone
  obtain ⟨K, hK⟩ : ∃ K, J * G = K := ⟨_, rfl⟩
  rw [hK] at hd h1f h1s hJP hJd
  clear hK
  obtain ⟨D, hD⟩ : ∃ D, dsN N K AT = D := ⟨_, rfl⟩
  rw [hD] at hd hJd
  clear hD
  obtain ⟨H2, hH2⟩ : ∃ x, G / 2 = x := ⟨_, rfl⟩
  have gd : (G : Int).tdiv 2 = (H2 : Int) := by rw [Int.tdiv_eq_ediv_of_nonneg (by omega)]; omega
  have hH3 : H2 ≤ 3 := by omega
  rw [hH2] at hTH hJd
  rw [hPn] at hTH
  obtain ⟨n1, hn1⟩ : ∃ x, n + 1 = x := ⟨_, rfl⟩
  have e1 : (n : Int) + 1 = (n1 : Int) := by omega
  have hn1b : n1 ≤ 32 := by omega
  rw [e1] at hTH
  have dn : H2 * n1 ≤ 3 * 32 := Nat.mul_le_mul hH3 hn1b
  obtain ⟨M, hM⟩ : ∃ x, H2 * n1 = x := ⟨_, rfl⟩
  have e2 : (H2 : Int) * (n1 : Int) = (M : Int) := by rw [← hM, Int.natCast_mul]
  rw [hM] at dn
  rw [e2] at hTH
  obtain ⟨Z, hZ⟩ : ∃ z : Int, (N : Int) - (M : Int) = z := ⟨_, rfl⟩
  rw [hZ] at hTH
  have tb : -10000 ≤ TH ∧ TH ≤ 10000 := by rw [← hTH]; exact gz_bd2 hga1 hga9 (by omega) (by omega)
  have gn : ga * N ≤ 9 * 186 := Nat.mul_le_mul hga9 hP6
  obtain ⟨gN, hgN⟩ : ∃ x, ga * N = x := ⟨_, rfl⟩
  rw [hgN] at gn
  have e3 : (ga : Int) * (N : Int) = (gN : Int) := by rw [← hgN, Int.natCast_mul]
  rw [e3] at h2f h2t
  have e4 : IntKind.i64.wrap (gN : Int) = (gN : Int) := IntWalk.i64_in _ (by omega)
  clear hH2 hM hgN hn1
  have HL := Lib.hid hl
  have HPS := Lib.hid hps
  have HD := Lib.hid hd
  have H1F := Lib.hid h1f
  have H1S := Lib.hid h1s
  have H1T := Lib.hid h1t
  have H2F := Lib.hid h2f
  have H2T := Lib.hid h2t
  clear hl hps hd h1f h1s h1t h2f h2t
  have HPN := Lib.hid hPn
  clear hPn
  have Q0 := PilAt.new W1 24 c (G : Int)
  have bc := bc0.alloc bc0.size (.cells #[.string c, .int .i64 (G : Int)] 24)
  clear bc0
  obtain ⟨V, hV9⟩ : ∃ V, W1.alloc (.cells #[.string c, .int .i64 (G : Int)] 24) = V := ⟨_, rfl⟩
  obtain ⟨X, hX9⟩ : ∃ X, W1.heap.size = X := ⟨_, rfl⟩
  rw [hV9] at Q0 bc
  rw [hX9] at Q0
  obtain ⟨d0, d1, dl⟩ := id Q0
  go_wp2_with fail
  clear hV9 hX9 d0 d1 dl
  refine (HL.out _).mono ?_
  rintro e w1 ⟨rfl, hb2⟩
  have Q3 := Q0.below hb2 Q0.2.2
  clear Q0
  have b4 := below_then bc (Nat.le_refl _) hb2
  clear bc
  have bc := b4
  clear b4 hb2
  obtain ⟨d0, d1, dl⟩ := id Q3
  go_wp2_with fail
  refine (HPS.out _).mono ?_
  rintro e w5 ⟨u, rfl, O7, hb6⟩
  clear d0 d1 dl
  have Q8 := Q3.below hb6 Q3.2.2
  clear Q3
  have b9 := below_then bc (Nat.le_refl _) hb6
  clear bc
  have bc := b9
  clear b9 hb6
  obtain ⟨ua, uc, rfl, -⟩ := O7.form
  obtain ⟨d0, d1, dl⟩ := id Q8
  go_wp2_with fail
  refine (H1F.out _ _ O7.intsC).mono ?_
  rintro e w10 ⟨rfl, hb11⟩
  clear d0 d1 dl
  have O12 := O7.below hb11
  clear O7
  have Q13 := Q8.below hb11 Q8.2.2
  clear Q8
  have b14 := below_then bc (Nat.le_refl _) hb11
  clear bc
  have bc := b14
  clear b14 hb11
  obtain ⟨d0, d1, dl⟩ := id Q13
  go_wp2_with fail
  refine (H1S.out _ _ O12.ints).mono ?_
  rintro e w15 ⟨rfl, hb16⟩
  clear d0 d1 dl
  have O17 := O12.below hb16
  clear O12
  have Q18 := Q13.below hb16 Q13.2.2
  clear Q13
  have b19 := below_then bc (Nat.le_refl _) hb16
  clear bc
  have bc := b19
  clear b19 hb16
  obtain ⟨d0, d1, dl⟩ := id Q18
  go_wp2_with fail
  refine (H2F.out _ _ O17.intsC).mono ?_
  rintro e w20 ⟨rfl, hb21⟩
  clear d0 d1 dl
  have O22 := O17.below hb21
  clear O17
  have Q23 := Q18.below hb21 Q18.2.2
  clear Q18
  have b24 := below_then bc (Nat.le_refl _) hb21
  clear bc
  have bc := b24
  clear b24 hb21
  have dd1 : decide ((D : Int) ≤ (H2 : Int)) = true := decide_eq_true (by omega)
  have dd2 : decide (D ≤ H2) = true := decide_eq_true hJd
  have dd3 : (D : Int) ≤ (H2 : Int) := by omega
  have hw2 : IntKind.i64.wrap (H2 : Int) = (H2 : Int) := IntWalk.i64_in _ (by omega)
  have ja : IntKind.i64.wrap ((AT : Int) + 1) = (AT : Int) + 1 := IntWalk.i64_in _ (by omega)
  have jb : decide ((J : Int) + 1 ≤ (n : Int)) = true := decide_eq_true (by omega)
  obtain ⟨d0, d1, dl⟩ := id Q23
  go_wp2_with fail
  have kk := (Below.refl w20.heap.size w20).drew
  obtain ⟨e0, e1', el⟩ := Q23.below kk Q23.2.2
  have I1 := O22.intsC.below kk
  have bd := bc.drew
  go_region_held3 (fun wx => wx.cell? ⟨X, 0, none⟩ = some (.string c) ∧ wx.cell? ⟨X, 1, none⟩ = some (.int .i64 (G : Int))) (first | with_reducible exact ⟨p0, p1'⟩ | with_reducible exact ⟨o0, o1⟩ | with_reducible exact ⟨m0, m1'⟩ | with_reducible exact ⟨e0, e1'⟩) (first
    | (go_at_call 16; refine (H1T.out _ _ I3).mono ?_; rintro e v3 ⟨rfl, hv3⟩; have kk3 := below_then kk2 (Nat.le_refl _) hv3; obtain ⟨p0, p1', pl⟩ := Q23.below kk3 Q23.2.2; have bd3 := below_then bd2 (Nat.le_refl _) hv3)
    | (go_at_call 16; refine (H2T.out _ _ I2).mono ?_; rintro e v2 ⟨rfl, hv2⟩; have kk2 := below_then kk1 (Nat.le_refl _) hv2; obtain ⟨o0, o1, ol⟩ := Q23.below kk2 Q23.2.2; have I3 := I2.below hv2; have bd2 := below_then bd1 (Nat.le_refl _) hv2)
    | (go_at_call 10; refine (HD.out _).mono ?_; rintro e v1 ⟨rfl, hv1⟩; have kk1 := below_then kk (Nat.le_refl _) hv1; obtain ⟨m0, m1', ml⟩ := Q23.below kk1 Q23.2.2; have I2 := I1.below hv1; have bd1 := below_then bd (Nat.le_refl _) hv1))
  go_wp2
  go_ret
  exact ⟨ret_bool (by simp <;> omega), bd3⟩
end Go.Proofs.Ytagdfohjhokgiaa
