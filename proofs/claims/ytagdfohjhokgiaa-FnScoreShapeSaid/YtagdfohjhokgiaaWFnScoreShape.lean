/- The walk of the law FnScoreShape. -/
import Derived.Test.YtagdfohjhokgiaaSsSharp
import Derived.Test.YtagdfohjhokgiaaShape
import Derived.Test.YtagdfohjhokgiaaSsPil
import Derived.Test.YtagdfohjhokgiaaPil12
import Derived.Test.YtagdfohjhokgiaaPil3
namespace Go.Proofs.Ytagdfohjhokgiaa
open Go.RowKit
set_option linter.unusedVariables false
theorem gz_bd {g : Nat} {z : Int} (h1 : 1 ≤ g) (h9 : g ≤ 9) (z1 : -1000 ≤ z) (z2 : z ≤ 1000) : -10000 ≤ (g : Int) * z ∧ (g : Int) * z ≤ 10000 := by
  have : g = 1 ∨ g = 2 ∨ g = 3 ∨ g = 4 ∨ g = 5 ∨ g = 6 ∨ g = 7 ∨ g = 8 ∨ g = 9 := by omega
  rcases this with rfl | rfl | rfl | rfl | rfl | rfl | rfl | rfl | rfl <;> omega
set_option maxHeartbeats 12800000 in
set_option maxRecDepth 100000 in
theorem fnScoreShape_walk (a0 : Option Addr) (len0 cap0 : Nat) (z0 : List Int) (a1 : Option Addr) (len1 cap1 : Nat) (z1 : List Int) (w : World) (w0 : IsBytes w a0 len0 cap0 z0) (w1 : IsBytes w a1 len1 cap1 z1) :
    Calls Try.prog 3 #[.slice a0 len0 cap0, .slice a1 len1 cap1] w fun e w' => e = .returned (.bool true) ∧ Below w.heap.size w w' := by
  by_cases hl0 : 1048576 < len0
  · go_enter Try.func3, Try.ntmps3
    go_wp2
    go_ret
    exact ⟨rfl, Below.refl _ _⟩
  by_cases hl1 : 1048576 < len1
  · go_enter Try.func3, Try.ntmps3
    go_wp2
    go_ret
    exact ⟨rfl, Below.refl _ _⟩
  clear w1
  go_enter Try.func3, Try.ntmps3
  go_wp2_with fail
  refine (ssSharp_any a0 len0 cap0 z0 a1 len1 cap1 _ w0 (by omega) (by omega)).mono ?_
  rintro e W1 ⟨s, t, G, AT, ga, rfl, hs2, hs5, hr, hgd, hG1, hG6, hAT, hga1, hga9, bc0⟩
  clear w0
  have hV := twoV_of hs2 hs5 hgd
  have hqb := runS_okM s t 1 (tw s - 1)
  obtain ⟨c, hc⟩ : ∃ c, runS s t 1 (tw s - 1) = c := ⟨_, rfl⟩
  obtain ⟨n, hn⟩ : ∃ n, tw s - 1 = n := ⟨_, rfl⟩
  rw [hc] at hV hqb ⊢
  rw [hn] at hV hAT
  obtain ⟨hcs, hn3, hn31, hau0, hau1⟩ := id hV
  clear hc hn hs2 hs5 hr hgd hau0 hau1
  have hp : pilB c (G : Int) = true := (pilB_iff _ _).2 ⟨(seqB_iff _).2 ⟨hqb, by omega, by omega⟩, by omega, by omega⟩
  have hPn : n * G = perL c (G : Int) := by rw [per_nat, hcs]
  rw [hPn] at hAT
  have hP6 : perL c (G : Int) ≤ 31 * 6 := by rw [← hPn]; exact Nat.mul_le_mul hn31 hG6
  have hP3 : 3 * G ≤ perL c (G : Int) := by rw [← hPn]; exact Nat.mul_le_mul_right G hn3
  have hP1 : 1 ≤ perL c (G : Int) := by omega
  have hl := fun w => iPLen_any c (G : Int) w (by omega)
  rw [show lenAns c (G : Int) = (perL c (G : Int) : Int) by unfold lenAns; rw [if_pos hp]] at hl
  have hoff : ∀ j : Nat, j < perL c (G : Int) → offB c (G : Int) (j : Int) = true := fun j hj => (offB_iff _ _ _).2 ⟨hp, by omega, by omega⟩
  have hsg : sigB (perL c (G : Int)) (psF c (G : Int) (AT : Int) (ga : Int)) = true := (ps_sig (G := (G : Int).toNat) (by rw [hcs] at hqb ⊢; exact hqb) (by rw [Int.toNat_natCast, hcs]; exact hPn) hP1 (by omega) (by omega) (AT : Int) (by omega)).2
  have hrd : rdB (perL c (G : Int)) (psF c (G : Int) (AT : Int) (ga : Int)) c (G : Int) = true := (rdB_iff _ _ _ _).2 ⟨hsg, hp⟩
  have hps : ∀ w, Calls Try.prog 8 #[.agg #[.string c, .int .i64 (G : Int)], .int .i64 (AT : Int), .int .i64 (perL c (G : Int) : Int), .int .i64 (ga : Int)] w fun e w' => ∃ u, e = .returned u ∧ OF w' w.heap.size u (perL c (G : Int)) (psF c (G : Int) (AT : Int) (ga : Int)) ∧ Below w.heap.size w w' := fun w => by
    have h1 := ssPilot_any c (G : Int) (AT : Int) (perL c (G : Int) : Int) (ga : Int) w (by omega)
    rw [(ps_yes (hoff AT hAT) ((psB_iff _ _).2 ⟨by omega, by omega, by omega, by omega⟩)).2, Int.toNat_natCast (perL c (G : Int))] at h1
    exact h1
  have hshape : ∀ o : Nat, o < perL c (G : Int) → stF (perL c (G : Int)) (psF c (G : Int) (AT : Int) (ga : Int)) c (G : Int) o = (ga : Int) * shV n G (dsN (perL c (G : Int)) AT o) := fun o ho => by
    unfold stF psF
    rw [Int.toNat_natCast]
    exact scr_shape (ga : Int) hV (by omega) hPn hAT ho
  have hsm := fun w => sPLen_any c (G : Int) w (by omega)
  rw [show lenAns c (G : Int) = (perL c (G : Int) : Int) by unfold lenAns; rw [if_pos hp]] at hsm
  have hd : ∀ (o : Nat) w, o < perL c (G : Int) → Calls Try.prog 10 #[.agg #[.string c, .int .i64 (G : Int)], .int .i64 (AT : Int), .int .i64 (o : Int)] w fun e w' => e = .returned (.int .i64 (dsN (perL c (G : Int)) AT o : Nat)) ∧ Below w.heap.size w w' := fun o w ho => by
    have h1 := iDist_any c (G : Int) (AT : Int) (o : Int) w (by omega)
    rw [ds_yes (hoff AT hAT) (hoff o ho)] at h1
    exact h1
  have hsc : ∀ (o : Nat) (v : Value) w, o < perL c (G : Int) → IntsC w v (perL c (G : Int)) (psF c (G : Int) (AT : Int) (ga : Int)) → Calls Try.prog 11 #[v, .agg #[.string c, .int .i64 (G : Int)], .int .i64 (o : Int)] w fun e w' => e = .returned (.int .i64 ((ga : Int) * shV n G (dsN (perL c (G : Int)) AT o))) ∧ Below w.heap.size w w' := fun o v w ho h => by
    have h1 := ssScore_any v (perL c (G : Int)) (psF c (G : Int) (AT : Int) (ga : Int)) c (G : Int) (o : Int) w h (by omega) (by omega)
    rw [sc_yes ((roB_iff _ _ _ _ _).2 ⟨hsg, hoff o ho⟩)] at h1
    rw [← hshape o ho]
    exact h1
  have hamx : amx (stF (perL c (G : Int)) (psF c (G : Int) (AT : Int) (ga : Int)) c (G : Int)) (perL c (G : Int)) = AT := amx_uniq hAT (fun i hi hne => by
    rw [hshape i hi, hshape AT hAT]
    have e0 : dsN (perL c (G : Int)) AT AT = 0 := by unfold dsN; omega
    have e1 : 1 ≤ dsN (perL c (G : Int)) AT i := by unfold dsN; omega
    rw [e0]
    exact Int.mul_lt_mul_of_pos_left (shV_top (by omega) e1 hn3) (by omega))
  have hb := fun v w h => iBest_any v (perL c (G : Int)) (psF c (G : Int) (AT : Int) (ga : Int)) c (G : Int) w h (by omega) (by omega)
  have hbs := fun v w h => sBest_any v (perL c (G : Int)) (psF c (G : Int) (AT : Int) (ga : Int)) c (G : Int) w h (by omega) (by omega)
  rw [bo_yes hrd, hamx] at hb hbs
  obtain ⟨F, hF⟩ : ∃ F, psF c (G : Int) (AT : Int) (ga : Int) = F := ⟨_, rfl⟩
  rw [hF] at hps hsc hb hbs
  obtain ⟨N, hN⟩ : ∃ N, perL c (G : Int) = N := ⟨_, rfl⟩
  rw [hN] at hl hsm hps hd hsc hb hbs hAT hP6 hP3 hP1 hPn
  have hcz : (c.size : Int) = (n : Int) := by rw [hcs]
  clear hF hN hamx hshape hrd hsg hoff hp hV hqb hcs
  have HL := Lib.hid hl
  have HSM := Lib.hid hsm
  have HPS := Lib.hid hps
  have HD := Lib.hid hd
  have HSC := Lib.hid hsc
  have HB := Lib.hid hb
  have HBS := Lib.hid hbs
  clear hl hsm hps hd hsc hb hbs
  have HPN := Lib.hid hPn
  clear hPn
  have Q0 := PilAt.new W1 24 c (G : Int)
  have bc := bc0.alloc bc0.size (.cells #[.string c, .int .i64 (G : Int)] 24)
  clear bc0
  obtain ⟨V, hV9⟩ : ∃ V, W1.alloc (.cells #[.string c, .int .i64 (G : Int)] 24) = V := ⟨_, rfl⟩
  obtain ⟨X, hX9⟩ : ∃ X, W1.heap.size = X := ⟨_, rfl⟩
  rw [hV9] at Q0 bc
  rw [hX9] at Q0
  obtain ⟨d0, d1, dl⟩ := id Q0
  go_wp2_with fail
  clear hV9 hX9 d0 d1 dl
  refine (HL.out _).mono ?_
  rintro e w1 ⟨rfl, hb2⟩
  have Q3 := Q0.below hb2 Q0.2.2
  clear Q0
  have b4 := below_then bc (Nat.le_refl _) hb2
  clear bc
  have bc := b4
  clear b4 hb2
  obtain ⟨d0, d1, dl⟩ := id Q3
  go_wp2_with fail
  refine (HPS.out _).mono ?_
  rintro e w5 ⟨u, rfl, O7, hb6⟩
  clear d0 d1 dl
  have Q8 := Q3.below hb6 Q3.2.2
  clear Q3
  have b9 := below_then bc (Nat.le_refl _) hb6
  clear bc
  have bc := b9
  clear b9 hb6
  obtain ⟨ua, uc, rfl, -⟩ := O7.form
  obtain ⟨d0, d1, dl⟩ := id Q8
  go_wp2_with fail
  refine (HSM.out _).mono ?_
  rintro e w10 ⟨rfl, hb11⟩
  clear d0 d1 dl
  have O12 := O7.below hb11
  clear O7
  have Q13 := Q8.below hb11 Q8.2.2
  clear Q8
  have b14 := below_then bc (Nat.le_refl _) hb11
  clear bc
  have bc := b14
  clear b14 hb11
  obtain ⟨d0, d1, dl⟩ := id Q13
  go_wp2_with fail
  clear d0 d1 dl
  go_loopw [11] (fun i wr => ∃ j : Nat, j ≤ N ∧ i = .int .i64 (j : Int) ∧ Below w10.heap.size w10 wr) (fun i _ => N - (intOf i).toNat)
  case atStart => exact ⟨0, by omega, rfl, Below.refl _ _⟩
  case round =>
    obtain ⟨j, hj, rfl, rb⟩ := hrel
    have O1 := O12.below rb
    have Q1 := Q13.below rb Q13.2.2
    have b1 := below_then bc (Nat.le_refl _) rb
    clear O12 Q13 bc
    have bc := b1
    clear b1
    have rb0 := rb
    clear rb
    by_cases hlt : j < N
    · skip
      have i0 : (0 : Int) ≤ (j : Int) := by omega
      have i1 : (j : Int) < (N : Int) := by omega
      have HDJ := HD.out j
      have HSJ := HSC.out j
      obtain ⟨D, hD⟩ : ∃ D, dsN N AT j = D := ⟨_, rfl⟩
      rw [hD] at HDJ HSJ
      have HDK := Lib.hid (fun w => HDJ w hlt)
      have hDN : D ≤ N := by rw [← hD]; unfold dsN; omega
      clear HDJ hD
      obtain ⟨d0, d1, dl⟩ := id Q1
      go_wp2_with fail
      refine (HDK.out _).mono ?_
      rintro e w215 ⟨rfl, hb216⟩
      clear d0 d1 dl
      have O217 := O1.below hb216
      clear O1
      have Q218 := Q1.below hb216 Q1.2.2
      clear Q1
      have bq := below_then bc (Nat.le_refl _) hb216
      clear bc
      have bc := bq
      clear bq
      have rq := below_then rb0 (Nat.le_refl _) hb216
      clear rb0
      have rb0 := rq
      clear rq hb216
      obtain ⟨y, hy⟩ : ∃ y, (ga : Int) * shV n G D = y := ⟨_, rfl⟩
      rw [hy] at HSJ
      have HSK := Lib.hid (fun v w h => HSJ v w hlt h)
      clear HSJ
      have ng : -(ga : Int) * (G : Int) = -((ga * G : Nat) : Int) := by rw [Int.neg_mul, Int.natCast_mul]
      have gG : ga * G ≤ 9 * 6 := Nat.mul_le_mul hga9 hG6
      obtain ⟨gg, hgg⟩ : ∃ x, ga * G = x := ⟨_, rfl⟩
      rw [hgg] at ng gG
      by_cases hDG : D < G
      · skip
        have dg : (D : Int) < (G : Int) := by omega
        obtain ⟨n1, hn1⟩ : ∃ x, n + 1 = x := ⟨_, rfl⟩
        have e1 : (n : Int) + 1 = (n1 : Int) := by omega
        have dn : D * n1 ≤ 6 * 32 := Nat.mul_le_mul (by omega) (by omega)
        obtain ⟨M, hM⟩ : ∃ x, D * n1 = x := ⟨_, rfl⟩
        have e2 : (D : Int) * (n1 : Int) = (M : Int) := by rw [← hM, Int.natCast_mul]
        rw [hM] at dn
        obtain ⟨Z, hZ⟩ : ∃ z : Int, (N : Int) - (M : Int) = z := ⟨_, rfl⟩
        have e4 : (ga : Int) * Z = y := by rw [← hy, ← hZ]; unfold shV; rw [if_pos hDG, HPN.out, e1, e2]
        have yb : -10000 ≤ y ∧ y ≤ 10000 := by rw [← e4]; exact gz_bd hga1 hga9 (by omega) (by omega)
        clear hM hn1 hy hgg hDG
        obtain ⟨d0, d1, dl⟩ := id Q218
        go_wp2_with fail
        refine (HSK.out _ _ O217.intsC).mono ?_
        rintro e w319 ⟨rfl, hb320⟩
        clear d0 d1 dl
        have O321 := O217.below hb320
        clear O217
        have Q322 := Q218.below hb320 Q218.2.2
        clear Q218
        have bq := below_then bc (Nat.le_refl _) hb320
        clear bc
        have bc := bq
        clear bq
        have rq := below_then rb0 (Nat.le_refl _) hb320
        clear rb0
        have rb0 := rq
        clear rq hb320
        clear ng gG
        go_wp2
        go_roundw
        case rel => exact ⟨j + 1, by omega, by go_num, rb0⟩
        case measure => simp [intOf]; omega
      · skip
        have dg : ¬ (D : Int) < (G : Int) := by omega
        have hyy : y = -(gg : Int) := by rw [← hy, ← hgg]; unfold shV; rw [if_neg hDG, Int.mul_neg, Int.natCast_mul]
        subst hyy
        clear hy hgg hDG
        obtain ⟨d0, d1, dl⟩ := id Q218
        go_wp2_with fail
        refine (HSK.out _ _ O217.intsC).mono ?_
        rintro e w423 ⟨rfl, hb424⟩
        clear d0 d1 dl
        have O425 := O217.below hb424
        clear O217
        have Q426 := Q218.below hb424 Q218.2.2
        clear Q218
        have bq := below_then bc (Nat.le_refl _) hb424
        clear bc
        have bc := bq
        clear bq
        have rq := below_then rb0 (Nat.le_refl _) hb424
        clear rb0
        have rb0 := rq
        clear rq hb424
        clear ng gG
        go_wp2
        go_roundw
        case rel => exact ⟨j + 1, by omega, by go_num, rb0⟩
        case measure => simp [intOf]; omega
    · skip
      obtain rfl : N = j := by omega
      clear hlt hj rb0
      obtain ⟨d0, d1, dl⟩ := id Q1
      go_wp2_with fail
      refine (HB.out _ _ O1.intsC).mono ?_
      rintro e w527 ⟨rfl, hb528⟩
      clear d0 d1 dl
      have O529 := O1.below hb528
      clear O1
      have Q530 := Q1.below hb528 Q1.2.2
      clear Q1
      have b531 := below_then bc (Nat.le_refl _) hb528
      clear bc
      have bc := b531
      clear b531 hb528
      obtain ⟨d0, d1, dl⟩ := id Q530
      go_wp2_with fail
      refine (HBS.out _ _ O529.ints).mono ?_
      rintro e w532 ⟨rfl, hb533⟩
      clear d0 d1 dl
      have O534 := O529.below hb533
      clear O529
      have Q535 := Q530.below hb533 Q530.2.2
      clear Q530
      have b536 := below_then bc (Nat.le_refl _) hb533
      clear bc
      have bc := b536
      clear b536 hb533
      go_wp2
      go_ret
      exact ⟨rfl, bc⟩
end Go.Proofs.Ytagdfohjhokgiaa
