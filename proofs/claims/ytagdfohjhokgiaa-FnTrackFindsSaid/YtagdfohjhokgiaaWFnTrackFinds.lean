/- The walk of the law FnTrackFinds. -/
import Derived.Test.YtagdfohjhokgiaaSsSharp
import Derived.Test.YtagdfohjhokgiaaShapeTrack
import Derived.Test.YtagdfohjhokgiaaSsPilot
import Derived.Test.YtagdfohjhokgiaaPil3
import Derived.Test.YtagdfohjhokgiaaPilP
import Derived.Deep.RegionHeld3
import Derived.BigQuiet
namespace Go.Proofs.Ytagdfohjhokgiaa
open Go.RowKit
set_option linter.unusedVariables false
theorem cell_belowK {w w' : World} {B : Nat} {x : Addr} {v : Value} (h : w.cell? x = some v) (hb : Below B w w') (hx : x.block < B) : w'.cell? x = some v := by rw [hb.cell hx]; exact h
set_option maxHeartbeats 12800000 in
set_option maxRecDepth 100000 in
theorem fnTrackFinds_walk (a0 : Option Addr) (len0 cap0 : Nat) (z0 : List Int) (a1 : Option Addr) (len1 cap1 : Nat) (z1 : List Int) (w : World) (w0 : IsBytes w a0 len0 cap0 z0) (w1 : IsBytes w a1 len1 cap1 z1) :
    Calls Try.prog 5 #[.slice a0 len0 cap0, .slice a1 len1 cap1] w fun e w' => e = .returned (.bool true) ∧ Below w.heap.size w w' := by
  by_cases hl0 : 1048576 < len0
  · go_enter Try.func5, Try.ntmps5
    go_wp2
    go_ret
    exact ⟨rfl, Below.refl _ _⟩
  by_cases hl1 : 1048576 < len1
  · go_enter Try.func5, Try.ntmps5
    go_wp2
    go_ret
    exact ⟨rfl, Below.refl _ _⟩
  clear w1
  go_enter Try.func5, Try.ntmps5
  go_wp2_with fail
  refine (ssSharp_any a0 len0 cap0 z0 a1 len1 cap1 _ w0 (by omega) (by omega)).mono ?_
  rintro e W1 ⟨s, t, G, AT, ga, rfl, hs2, hs5, hr, hgd, hG1, hG6, hAT, hga1, hga9, bc0⟩
  clear w0
  have hV := twoV_of hs2 hs5 hgd
  have hqb := runS_okM s t 1 (tw s - 1)
  obtain ⟨c, hc⟩ : ∃ c, runS s t 1 (tw s - 1) = c := ⟨_, rfl⟩
  obtain ⟨n, hn⟩ : ∃ n, tw s - 1 = n := ⟨_, rfl⟩
  rw [hc] at hV hqb ⊢
  rw [hn] at hV hAT
  obtain ⟨hcs, hn3, hn31, hau0, hau1⟩ := id hV
  clear hc hn hs2 hs5 hr hgd hau0 hau1
  have hp : pilB c (G : Int) = true := (pilB_iff _ _).2 ⟨(seqB_iff _).2 ⟨hqb, by omega, by omega⟩, by omega, by omega⟩
  have hPn : n * G = perL c (G : Int) := by rw [per_nat, hcs]
  rw [hPn] at hAT
  have hP6 : perL c (G : Int) ≤ 31 * 6 := by rw [← hPn]; exact Nat.mul_le_mul hn31 hG6
  have hP3 : 3 * G ≤ perL c (G : Int) := by rw [← hPn]; exact Nat.mul_le_mul_right G hn3
  have hP1 : 1 ≤ perL c (G : Int) := by omega
  have hl := fun w => iPLen_any c (G : Int) w (by omega)
  rw [show lenAns c (G : Int) = (perL c (G : Int) : Int) by unfold lenAns; rw [if_pos hp]] at hl
  have hoff : ∀ j : Nat, j < perL c (G : Int) → offB c (G : Int) (j : Int) = true := fun j hj => (offB_iff _ _ _).2 ⟨hp, by omega, by omega⟩
  have hsg : sigB (perL c (G : Int)) (psF c (G : Int) (AT : Int) (ga : Int)) = true := (ps_sig (G := (G : Int).toNat) (by rw [hcs] at hqb ⊢; exact hqb) (by rw [Int.toNat_natCast, hcs]; exact hPn) hP1 (by omega) (by omega) (AT : Int) (by omega)).2
  have hrd : rdB (perL c (G : Int)) (psF c (G : Int) (AT : Int) (ga : Int)) c (G : Int) = true := (rdB_iff _ _ _ _).2 ⟨hsg, hp⟩
  have hps : ∀ w, Calls Try.prog 8 #[.agg #[.string c, .int .i64 (G : Int)], .int .i64 (AT : Int), .int .i64 (perL c (G : Int) : Int), .int .i64 (ga : Int)] w fun e w' => ∃ u, e = .returned u ∧ OF w' w.heap.size u (perL c (G : Int)) (psF c (G : Int) (AT : Int) (ga : Int)) ∧ Below w.heap.size w w' := fun w => by
    have h1 := ssPilot_any c (G : Int) (AT : Int) (perL c (G : Int) : Int) (ga : Int) w (by omega)
    rw [(ps_yes (hoff AT hAT) ((psB_iff _ _).2 ⟨by omega, by omega, by omega, by omega⟩)).2, Int.toNat_natCast (perL c (G : Int))] at h1
    exact h1
  have hshape : ∀ o : Nat, o < perL c (G : Int) → stF (perL c (G : Int)) (psF c (G : Int) (AT : Int) (ga : Int)) c (G : Int) o = (ga : Int) * shV n G (dsN (perL c (G : Int)) AT o) := fun o ho => by
    unfold stF psF
    rw [Int.toNat_natCast]
    exact scr_shape (ga : Int) hV (by omega) hPn hAT ho
  have hro : ∀ j : Nat, j < (perL c (G : Int)) → roB (perL c (G : Int)) (psF c (G : Int) (AT : Int) (ga : Int)) c (G : Int) (j : Int) = true := fun j hj => (roB_iff _ _ _ _ _).2 ⟨hsg, hoff j hj⟩
  have hpath := fun (u : Int) hu i => path_track hG1 hn3 hPn rfl hAT hga1 hshape u hu i
  have hpt : ∀ (u : Int) (v : Value) w, u.natAbs ≤ G → IntsC w v (perL c (G : Int)) (psF c (G : Int) (AT : Int) (ga : Int)) → Calls Try.prog 17 #[v, .agg #[.string c, .int .i64 (G : Int)], .int .i64 (modN ((AT : Int) + u) (perL c (G : Int)) : Nat), .int .i64 ((G + 2 : Nat) : Int)] w fun e w' => ∃ x, e = .returned x ∧ OF w' w.heap.size x (G + 3) (fun i => (modN ((AT : Int) + tz u i) (perL c (G : Int)) : Int)) ∧ Below w.heap.size w w' := fun u v w hu h => by
    have h1 := iPath_any v (perL c (G : Int)) (psF c (G : Int) (AT : Int) (ga : Int)) c (G : Int) (modN ((AT : Int) + u) (perL c (G : Int)) : Nat) ((G + 2 : Nat) : Int) w h (by omega) (by omega)
    rw [tp_yes (hro _ (modN_lt _ _ (by omega))) (by omega) (by omega), Int.toNat_natCast (G + 2)] at h1
    have e9 : tpF (perL c (G : Int)) (psF c (G : Int) (AT : Int) (ga : Int)) c (G : Int) ((modN ((AT : Int) + u) (perL c (G : Int)) : Nat) : Int) = fun i => (modN ((AT : Int) + tz u i) (perL c (G : Int)) : Int) := by
      funext i
      unfold tpF
      rw [Int.toNat_natCast, Int.toNat_natCast, hpath u hu i]
    rw [e9] at h1
    exact h1
  have hd : ∀ (u : Int) w, u.natAbs ≤ G → Calls Try.prog 10 #[.agg #[.string c, .int .i64 (G : Int)], .int .i64 (modN ((AT : Int) + u) (perL c (G : Int)) : Nat), .int .i64 (AT : Int)] w fun e w' => e = .returned (.int .i64 (u.natAbs : Nat)) ∧ Below w.heap.size w w' := fun u w hu => by
    have h1 := iDist_any c (G : Int) (modN ((AT : Int) + u) (perL c (G : Int)) : Nat) (AT : Int) w (by omega)
    rw [ds_yes (hoff _ (modN_lt _ _ (by omega))) (hoff AT hAT), away_ds hn3 hG1 hPn hAT u hu] at h1
    exact h1
  have hst := step_track hG1 hn3 hPn rfl hAT hga1 hshape 0 (by simp)
  rw [Int.add_zero, show (0 : Int) - sgI 0 = 0 by rfl, Int.add_zero, modN_id AT _ hAT] at hst
  have hsc0 := hshape AT hAT
  rw [show dsN (perL c (G : Int)) AT AT = 0 by unfold dsN; omega, show shV n G 0 = ((perL c (G : Int)) : Int) by unfold shV; rw [if_pos (by omega), hPn]; omega] at hsc0
  unfold stF at hsc0
  have hla : ∀ t, laAns (perL c (G : Int)) (psF c (G : Int) (AT : Int) (ga : Int)) c (G : Int) (AT : Int) t = decide (t ≤ (ga : Int) * ((perL c (G : Int)) : Int)) := fun t => by
    rw [la_yes (hro AT hAT), hsc0, Int.toNat_natCast, Int.toNat_natCast, hst, decide_eq_true rfl, Bool.true_and]
  have hlk := fun t v w h => iLocked_any v (perL c (G : Int)) (psF c (G : Int) (AT : Int) (ga : Int)) c (G : Int) (AT : Int) t w h (by omega) (by omega)
  have hls := fun t v w h => sLocked_any v (perL c (G : Int)) (psF c (G : Int) (AT : Int) (ga : Int)) c (G : Int) (AT : Int) t w h (by omega) (by omega)
  simp only [hla] at hlk hls
  have hR0 : ∀ u, modN ((AT : Int) + tz u 0) (perL c (G : Int)) = modN ((AT : Int) + u) (perL c (G : Int)) := fun u => by rw [tz_zero]
  have hRe : ∀ u : Int, u.natAbs ≤ G → modN ((AT : Int) + tz u (G + 2)) (perL c (G : Int)) = AT := fun u hu => by rw [tz_end hu, Int.add_zero, modN_id AT _ hAT]
  have hRn : ∀ u : Int, u.natAbs ≤ G → u ≠ 0 → modN ((AT : Int) + tz u 1) (perL c (G : Int)) ≠ modN ((AT : Int) + u) (perL c (G : Int)) := fun u hu h0 => away_ne hn3 hG1 hPn hAT u hu h0
  have htm := fun x => tm_modT x (perL c (G : Int)) hP1
  have htb := fun x => tmod_bd x (perL c (G : Int)) (by omega)
  obtain ⟨F, hF⟩ : ∃ F, (psF c (G : Int) (AT : Int) (ga : Int)) = F := ⟨_, rfl⟩
  rw [hF] at hps
  simp only [hF] at hpt hlk hls
  obtain ⟨N, hN⟩ : ∃ N, (perL c (G : Int)) = N := ⟨_, rfl⟩
  rw [hN] at hl hps hAT hP6 hP3 hP1
  simp only [hN] at hpt hd hlk hls hR0 hRe hRn htm htb
  have gn : ga * N ≤ 9 * 186 := Nat.mul_le_mul hga9 hP6
  obtain ⟨gN, hgN⟩ : ∃ x, ga * N = x := ⟨_, rfl⟩
  rw [hgN] at gn
  have e3 : (ga : Int) * (N : Int) = (gN : Int) := by rw [← hgN, Int.natCast_mul]
  simp only [e3] at hlk hls
  clear hF hN hro hpath hst hsc0 hla hshape hrd hsg hoff hp hV hqb hcs hPn hgN
  have HL := Lib.hid hl
  have HPS := Lib.hid hps
  have HPT := Lib.hid hpt
  have HD := Lib.hid hd
  have HLK := Lib.hid hlk
  have HLS := Lib.hid hls
  clear hl hps hpt hd hlk hls
  have HR0 := Lib.hid hR0
  have HRE := Lib.hid hRe
  have HRN := Lib.hid hRn
  have HTM := Lib.hid htm
  have HTB := Lib.hid htb
  clear hR0 hRe hRn htm htb
  have n0 : ¬ ((N : Int) = 0) := by omega
  have n1 : ((N : Int) == 0) = false := by simp; omega
  have n2 : ¬ N = 0 := by omega
  have Q0 := PilAt.new W1 24 c (G : Int)
  have bc := bc0.alloc bc0.size (.cells #[.string c, .int .i64 (G : Int)] 24)
  clear bc0
  obtain ⟨V, hV9⟩ : ∃ V, W1.alloc (.cells #[.string c, .int .i64 (G : Int)] 24) = V := ⟨_, rfl⟩
  obtain ⟨X, hX9⟩ : ∃ X, W1.heap.size = X := ⟨_, rfl⟩
  rw [hV9] at Q0 bc
  rw [hX9] at Q0
  obtain ⟨d0, d1, dl⟩ := id Q0
  go_wp2_with fail
  clear hV9 hX9 d0 d1 dl
  refine (HL.out _).mono ?_
  rintro e w1 ⟨rfl, hb2⟩
  have Q3 := Q0.below hb2 Q0.2.2
  clear Q0
  have b4 := below_then bc (Nat.le_refl _) hb2
  clear bc
  have bc := b4
  clear b4 hb2
  obtain ⟨d0, d1, dl⟩ := id Q3
  go_wp2_with fail
  refine (HPS.out _).mono ?_
  rintro e w5 ⟨u, rfl, O7, hb6⟩
  clear d0 d1 dl
  have Q8 := Q3.below hb6 Q3.2.2
  clear Q3
  have b9 := below_then bc (Nat.le_refl _) hb6
  clear bc
  have bc := b9
  clear b9 hb6
  obtain ⟨ua, uc, rfl, -⟩ := O7.form
  obtain ⟨d0, d1, dl⟩ := id Q8
  go_wp2_with fail
  clear d0 d1 dl
  go_loopw [10] (fun d wr => ∃ D : Int, -(G : Int) ≤ D ∧ D ≤ (G : Int) + 1 ∧ d = .int .i64 D ∧ Below w5.heap.size w5 wr) (fun d _ => ((G : Int) + 1 - intOf d).toNat)
  case atStart => exact ⟨-(G : Int), by omega, by omega, rfl, Below.refl _ _⟩
  case round =>
    obtain ⟨D, hD0, hD1, rfl, rb⟩ := hrel
    have O1 := O7.below rb
    have Q1 := Q8.below rb Q8.2.2
    have b1 := below_then bc (Nat.le_refl _) rb
    clear O7 Q8 bc
    have bc := b1
    clear b1
    obtain ⟨d0, d1, dl⟩ := id Q1
    by_cases hle : D ≤ (G : Int)
    · skip
      have hu : D.natAbs ≤ G := by omega
      obtain ⟨Y, hY⟩ : ∃ y : Int, (AT : Int) + D = y := ⟨_, rfl⟩
      have y1 := HTM.out Y
      have y2 := HTB.out Y
      have HPD := HPT.out D
      have HDD := HD.out D
      have hR0 := HR0.out D
      have hRE := HRE.out D hu
      have hRN := HRN.out D hu
      rw [hY] at HPD HDD hR0 hRN
      obtain ⟨FR, hFR⟩ : ∃ x, modN Y N = x := ⟨_, rfl⟩
      rw [hFR] at y1 HPD HDD hR0 hRN
      have hFN : FR < N := by rw [← hFR]; exact modN_lt _ _ (by omega)
      obtain ⟨X1, hX1⟩ : ∃ x, Y.tmod (N : Int) = x := ⟨_, rfl⟩
      rw [hX1] at y1 y2
      obtain ⟨X2, hX2⟩ : ∃ x, X1 + (N : Int) = x := ⟨_, rfl⟩
      rw [hX2] at y1
      obtain ⟨G2, hG2⟩ : ∃ x, G + 2 = x := ⟨_, rfl⟩
      have g2 : (G : Int) + 2 = (G2 : Int) := by omega
      obtain ⟨G3, hG3⟩ : ∃ x, G + 3 = x := ⟨_, rfl⟩
      have g3 : (G : Int) + 3 = (G3 : Int) := by omega
      rw [hG2, hG3] at HPD
      rw [hG2] at hRE
      have hG23 : G2 + 1 = G3 := by omega
      have g4 : (G3 : Int) - 1 = (G2 : Int) := by omega
      have hG3b : G3 ≤ 9 := by omega
      obtain ⟨R, hR⟩ : ∃ R : Nat → Nat, (fun i => modN ((AT : Int) + tz D i) N) = R := ⟨_, rfl⟩
      have hRi : ∀ i, modN ((AT : Int) + tz D i) N = R i := fun i => congrFun hR i
      have hde : ∀ i w, Calls Try.prog 10 #[.agg #[.string c, .int .i64 (G : Int)], .int .i64 (R i : Nat), .int .i64 (AT : Int)] w fun e w' => e = .returned (.int .i64 ((tz D i).natAbs : Nat)) ∧ Below w.heap.size w w' := fun i w => by rw [← hRi i]; exact HD.out (tz D i) w (tz_abs hu i)
      simp only [hRi] at HPD hR0 hRE hRN
      clear hR hRi hFR hG2 hG3
      have HDE := Lib.hid hde
      have HPE := Lib.hid (fun v w h => HPD v w hu h)
      have HDF := Lib.hid (fun w => HDD w hu)
      clear hde HPD HDD
      have HRNN := Lib.hid hRN
      have HRE2 := Lib.hid hRE
      clear hRN hRE hR0
      obtain ⟨U, hU⟩ : ∃ x, D.natAbs = x := ⟨_, rfl⟩
      go_wp2_with fail
      refine (HPE.out _ _ O1.intsC).mono ?_
      rintro e w210 ⟨x, rfl, O212, hb211⟩
      clear d0 d1 dl
      have O213 := O1.below hb211
      clear O1
      have Q214 := Q1.below hb211 Q1.2.2
      clear Q1
      have bq := below_then bc (Nat.le_refl _) hb211
      clear bc
      have bc := bq
      clear bq
      have rq := below_then rb (Nat.le_refl _) hb211
      clear rb
      have rb := rq
      clear rq hb211
      clear g2 y1 hX1 hX2 y2
      obtain ⟨la, lc, rfl, -⟩ := O212.form
      obtain ⟨x, rfl, -, c2⟩ := O212.ints.cellsP G2 (by omega)
      rw [HRE2.out] at c2
      have j0 : (0 : Int) ≤ (G2 : Int) := by omega
      have j1 : (G2 : Int) < (G3 : Int) := by omega
      obtain ⟨d0, d1, dl⟩ := id Q214
      have hUU : Hid (D.natAbs = 0 ↔ D = 0) := Lib.hid (by omega)
      obtain ⟨U, hU⟩ : ∃ x, D.natAbs = x := ⟨_, rfl⟩
      have HDG := HDF.out
      rw [hU] at HDG
      have HDH := Lib.hid HDG
      have hUb : U ≤ G := by omega
      have HUD : Hid (U = 0 ↔ D = 0) := Lib.hid (by rw [← hU]; exact hUU.out)
      clear HDG hU
      go_wp2_with fail
      refine (HDH.out _).mono ?_
      rintro e w215 ⟨rfl, hb216⟩
      clear d0 d1 dl
      have O217 := O213.below hb216
      clear O213
      have O218 := O212.below hb216
      clear O212
      have Q219 := Q214.below hb216 Q214.2.2
      clear Q214
      have bq := below_then bc (Nat.le_refl _) hb216
      clear bc
      have bc := bq
      clear bq
      have rq := below_then rb (Nat.le_refl _) hb216
      clear rb
      have rb := rq
      clear rq hb216
      clear c2
      by_cases hz : D = 0
      · skip
        have u0 : U = 0 := HUD.out.2 hz
        have z1 : ¬ ((0 : Int) < (U : Int)) := by omega
        have z2 : decide ((0 : Int) < (U : Int)) = false := decide_eq_false z1
        have z3 : decide (0 < U) = false := decide_eq_false (by omega)
        have HU0 := Lib.hid u0
        have HZ := Lib.hid hz
        clear u0 hz
        obtain ⟨d0, d1, dl⟩ := id Q219
        go_wp2_with fail
        clear d0 d1 dl
        go_loopw [13] (fun i wr => ∃ j : Nat, 1 ≤ j ∧ j ≤ G3 ∧ i = .int .i64 (j : Int) ∧ Below w215.heap.size w215 wr) (fun i _ => G3 - (intOf i).toNat)
        case atStart => exact ⟨1, by omega, by omega, rfl, Below.refl _ _⟩
        case round =>
          obtain ⟨j, hj1, hj, rfl, rj⟩ := hrel
          have I1 := O218.below rj
          have Qj := Q219.below rj Q219.2.2
          have bj := below_then bc (Nat.le_refl _) rj
          have rbj := below_then rb (Nat.le_refl _) rj
          clear O218 O217 Q219 bc rb
          by_cases hlt : j < G3
          · skip
            obtain ⟨J, hJ⟩ : ∃ J, j - 1 = J := ⟨_, rfl⟩
            have hJL : J < G3 := by omega
            have jw : IntKind.i64.wrap ((j : Int) - 1) = (J : Int) := by rw [IntWalk.i64_in _ (by omega)]; omega
            have i0 : (0 : Int) ≤ (j : Int) := by omega
            have i1 : (j : Int) < (G3 : Int) := by omega
            have i2 : (0 : Int) ≤ (J : Int) := by omega
            have i3 : (J : Int) < (G3 : Int) := by omega
            obtain ⟨xx, ex, hxl, c0⟩ := I1.ints.cellsP j hlt
            injection ex with ex
            subst ex
            obtain ⟨xx, ex, -, c1⟩ := I1.ints.cellsP J hJL
            injection ex with ex
            subst ex
            have hA9 := HDE.out j
            have hB9 := HDE.out J
            have hle9 := tz_less D J
            rw [show J + 1 = j by omega] at hle9
            obtain ⟨A, hA⟩ : ∃ A, R j = A := ⟨_, rfl⟩
            obtain ⟨B, hB⟩ : ∃ A, R J = A := ⟨_, rfl⟩
            rw [hA] at c0 hA9
            rw [hB] at c1 hB9
            obtain ⟨ua9, hua⟩ : ∃ x, (tz D j).natAbs = x := ⟨_, rfl⟩
            obtain ⟨ub9, hub⟩ : ∃ x, (tz D J).natAbs = x := ⟨_, rfl⟩
            rw [hua] at hA9 hle9
            rw [hub] at hB9 hle9
            have HA9 := Lib.hid hA9
            have HB9 := Lib.hid hB9
            have dq1 : decide ((ub9 : Int) < (ua9 : Int)) = false := decide_eq_false (by omega)
            have dq2 : ¬ (ub9 : Int) < (ua9 : Int) := by omega
            have dq3 : decide (ub9 < ua9) = false := decide_eq_false (by omega)
            have dq4 : ¬ ub9 < ua9 := by omega
            clear hJ hA hB hua hub hA9 hB9 hle9
            have hx1 : (x.add j).block < wr.heap.size := by unfold Addr.add; split <;> exact hxl
            have hx2 : (x.add J).block < wr.heap.size := by unfold Addr.add; split <;> exact hxl
            have kk := (Below.refl wr.heap.size wr).drew
            obtain ⟨e0, e1', el⟩ := Qj.below kk Qj.2.2
            have e2 := cell_belowK c0 kk hx1
            have e5 := cell_belowK c1 kk hx2
            have rb3 := rj.drew
            obtain ⟨dd0, dd1, dl⟩ := id Qj
            go_wp2_with fail
            go_region_held3 (fun wx => wx.cell? ⟨X, 0, none⟩ = some (.string c) ∧ wx.cell? ⟨X, 1, none⟩ = some (.int .i64 (G : Int)) ∧ wx.cell? (x.add j) = some (.int .i64 (A : Int)) ∧ wx.cell? (x.add J) = some (.int .i64 (B : Int))) (first | with_reducible exact ⟨o0, o1, o2, o3⟩ | with_reducible exact ⟨m0, m1', m2, m3⟩ | with_reducible exact ⟨e0, e1', e2, e5⟩) (first
              | (go_at_call 10; refine (HB9.out v1).mono ?_; rintro e v2 ⟨rfl, hb10⟩; have kk10 := below_then kk9 (Nat.le_refl _) hb10; obtain ⟨o0, o1, ol⟩ := Qj.below kk10 Qj.2.2; have o2 := cell_belowK c0 kk10 hx1; have o3 := cell_belowK c1 kk10 hx2; have rb10 := below_then rb9 (Nat.le_refl _) hb10)
              | (go_at_call 10; refine (HA9.out _).mono ?_; rintro e v1 ⟨rfl, hb9⟩; have kk9 := below_then kk (Nat.le_refl _) hb9; obtain ⟨m0, m1', ml⟩ := Qj.below kk9 Qj.2.2; have m2 := cell_belowK c0 kk9 hx1; have m3 := cell_belowK c1 kk9 hx2; have rb9 := below_then rb3 (Nat.le_refl _) hb9))
            clear e0 e1' e2 e5 el m0 m1' m2 m3 ml o0 o1 o2 o3 ol c0 c1 dd0 dd1 dl jw
            go_wp2
            go_roundw
            case rel => exact ⟨j + 1, by omega, by omega, by go_num, rb10⟩
            case measure => simp [intOf]; omega
          · skip
            obtain rfl : j = G3 := by omega
            clear hlt hj hj1 I1
            obtain ⟨d0, d1, dl⟩ := id Qj
            go_wp2
            go_roundw
            case rel => exact ⟨D + 1, by omega, by omega, rfl, rbj⟩
            case measure => simp [intOf]; omega
      · skip
        have u0 : ¬ U = 0 := fun e => hz (HUD.out.1 e)
        have z1 : (0 : Int) < (U : Int) := by omega
        have z2 : decide ((0 : Int) < (U : Int)) = true := decide_eq_true z1
        have z3 : decide (0 < U) = true := decide_eq_true (by omega)
        obtain ⟨xx, ex, -, c1⟩ := O218.ints.cellsP 1 (by omega)
        injection ex with ex
        subst ex
        have hne := HRNN.out hz
        obtain ⟨A1, hA1⟩ : ∃ x, R 1 = x := ⟨_, rfl⟩
        rw [hA1] at c1 hne
        have c3 : w215.cell? ⟨x.block, x.off + 1, none⟩ = some (.int .i64 (A1 : Int)) := c1
        have z4 : ((A1 : Int) == (FR : Int)) = false := by simp; omega
        have j3 : (1 : Int) < (G3 : Int) := by omega
        clear hA1 hne
        obtain ⟨d0, d1, dl⟩ := id Q219
        go_wp2_with fail
        clear d0 d1 dl
        go_loopw [13] (fun i wr => ∃ j : Nat, 1 ≤ j ∧ j ≤ G3 ∧ i = .int .i64 (j : Int) ∧ Below w215.heap.size w215 wr) (fun i _ => G3 - (intOf i).toNat)
        case atStart => exact ⟨1, by omega, by omega, rfl, Below.refl _ _⟩
        case round =>
          obtain ⟨j, hj1, hj, rfl, rj⟩ := hrel
          have I1 := O218.below rj
          have Qj := Q219.below rj Q219.2.2
          have bj := below_then bc (Nat.le_refl _) rj
          have rbj := below_then rb (Nat.le_refl _) rj
          clear O218 O217 Q219 bc rb
          by_cases hlt : j < G3
          · skip
            obtain ⟨J, hJ⟩ : ∃ J, j - 1 = J := ⟨_, rfl⟩
            have hJL : J < G3 := by omega
            have jw : IntKind.i64.wrap ((j : Int) - 1) = (J : Int) := by rw [IntWalk.i64_in _ (by omega)]; omega
            have i0 : (0 : Int) ≤ (j : Int) := by omega
            have i1 : (j : Int) < (G3 : Int) := by omega
            have i2 : (0 : Int) ≤ (J : Int) := by omega
            have i3 : (J : Int) < (G3 : Int) := by omega
            obtain ⟨xx, ex, hxl, c0⟩ := I1.ints.cellsP j hlt
            injection ex with ex
            subst ex
            obtain ⟨xx, ex, -, c1⟩ := I1.ints.cellsP J hJL
            injection ex with ex
            subst ex
            have hA9 := HDE.out j
            have hB9 := HDE.out J
            have hle9 := tz_less D J
            rw [show J + 1 = j by omega] at hle9
            obtain ⟨A, hA⟩ : ∃ A, R j = A := ⟨_, rfl⟩
            obtain ⟨B, hB⟩ : ∃ A, R J = A := ⟨_, rfl⟩
            rw [hA] at c0 hA9
            rw [hB] at c1 hB9
            obtain ⟨ua9, hua⟩ : ∃ x, (tz D j).natAbs = x := ⟨_, rfl⟩
            obtain ⟨ub9, hub⟩ : ∃ x, (tz D J).natAbs = x := ⟨_, rfl⟩
            rw [hua] at hA9 hle9
            rw [hub] at hB9 hle9
            have HA9 := Lib.hid hA9
            have HB9 := Lib.hid hB9
            have dq1 : decide ((ub9 : Int) < (ua9 : Int)) = false := decide_eq_false (by omega)
            have dq2 : ¬ (ub9 : Int) < (ua9 : Int) := by omega
            have dq3 : decide (ub9 < ua9) = false := decide_eq_false (by omega)
            have dq4 : ¬ ub9 < ua9 := by omega
            clear hJ hA hB hua hub hA9 hB9 hle9
            have hx1 : (x.add j).block < wr.heap.size := by unfold Addr.add; split <;> exact hxl
            have hx2 : (x.add J).block < wr.heap.size := by unfold Addr.add; split <;> exact hxl
            have kk := (Below.refl wr.heap.size wr).drew
            obtain ⟨e0, e1', el⟩ := Qj.below kk Qj.2.2
            have e2 := cell_belowK c0 kk hx1
            have e5 := cell_belowK c1 kk hx2
            have rb3 := rj.drew
            obtain ⟨dd0, dd1, dl⟩ := id Qj
            go_wp2_with fail
            go_region_held3 (fun wx => wx.cell? ⟨X, 0, none⟩ = some (.string c) ∧ wx.cell? ⟨X, 1, none⟩ = some (.int .i64 (G : Int)) ∧ wx.cell? (x.add j) = some (.int .i64 (A : Int)) ∧ wx.cell? (x.add J) = some (.int .i64 (B : Int))) (first | with_reducible exact ⟨o0, o1, o2, o3⟩ | with_reducible exact ⟨m0, m1', m2, m3⟩ | with_reducible exact ⟨e0, e1', e2, e5⟩) (first
              | (go_at_call 10; refine (HB9.out v1).mono ?_; rintro e v2 ⟨rfl, hb10⟩; have kk10 := below_then kk9 (Nat.le_refl _) hb10; obtain ⟨o0, o1, ol⟩ := Qj.below kk10 Qj.2.2; have o2 := cell_belowK c0 kk10 hx1; have o3 := cell_belowK c1 kk10 hx2; have rb10 := below_then rb9 (Nat.le_refl _) hb10)
              | (go_at_call 10; refine (HA9.out _).mono ?_; rintro e v1 ⟨rfl, hb9⟩; have kk9 := below_then kk (Nat.le_refl _) hb9; obtain ⟨m0, m1', ml⟩ := Qj.below kk9 Qj.2.2; have m2 := cell_belowK c0 kk9 hx1; have m3 := cell_belowK c1 kk9 hx2; have rb9 := below_then rb3 (Nat.le_refl _) hb9))
            clear e0 e1' e2 e5 el m0 m1' m2 m3 ml o0 o1 o2 o3 ol c0 c1 dd0 dd1 dl jw
            go_wp2
            go_roundw
            case rel => exact ⟨j + 1, by omega, by omega, by go_num, rb10⟩
            case measure => simp [intOf]; omega
          · skip
            obtain rfl : j = G3 := by omega
            clear hlt hj hj1 I1
            obtain ⟨d0, d1, dl⟩ := id Qj
            go_wp2
            go_roundw
            case rel => exact ⟨D + 1, by omega, by omega, rfl, rbj⟩
            case measure => simp [intOf]; omega
    · skip
      clear hD0 hD1 rb d0 d1 dl
      have ja : IntKind.i64.wrap ((gN : Int) + 1) = (gN : Int) + 1 := IntWalk.i64_in _ (by omega)
      have jb : decide ((gN : Int) + 1 ≤ (gN : Int)) = false := decide_eq_false (by omega)
      have jc : decide ((gN : Int) ≤ (gN : Int)) = true := decide_eq_true (Int.le_refl _)
      have HL1 := HLK.out (gN : Int)
      have HL2 := HLK.out ((gN : Int) + 1)
      have HL3 := HLS.out (gN : Int)
      rw [jc] at HL1 HL3
      rw [jb] at HL2
      have K1 := Lib.hid HL1
      have K2 := Lib.hid HL2
      have K3 := Lib.hid HL3
      clear HL1 HL2 HL3 jb jc
      obtain ⟨d0, d1, dl⟩ := id Q1
      go_wp2_with fail
      refine (K1.out _ _ O1.intsC).mono ?_
      rintro e w1120 ⟨rfl, hb1121⟩
      clear d0 d1 dl
      have O1122 := O1.below hb1121
      clear O1
      have Q1123 := Q1.below hb1121 Q1.2.2
      clear Q1
      have b1124 := below_then bc (Nat.le_refl _) hb1121
      clear bc
      have bc := b1124
      clear b1124 hb1121
      obtain ⟨d0, d1, dl⟩ := id Q1123
      go_wp2_with fail
      refine (K2.out _ _ O1122.intsC).mono ?_
      rintro e w1125 ⟨rfl, hb1126⟩
      clear d0 d1 dl
      have O1127 := O1122.below hb1126
      clear O1122
      have Q1128 := Q1123.below hb1126 Q1123.2.2
      clear Q1123
      have b1129 := below_then bc (Nat.le_refl _) hb1126
      clear bc
      have bc := b1129
      clear b1129 hb1126
      obtain ⟨d0, d1, dl⟩ := id Q1128
      go_wp2_with fail
      refine (K3.out _ _ O1127.ints).mono ?_
      rintro e w1130 ⟨rfl, hb1131⟩
      clear d0 d1 dl
      have O1132 := O1127.below hb1131
      clear O1127
      have Q1133 := Q1128.below hb1131 Q1128.2.2
      clear Q1128
      have b1134 := below_then bc (Nat.le_refl _) hb1131
      clear bc
      have bc := b1134
      clear b1134 hb1131
      go_wp2
      go_ret
      exact ⟨rfl, bc⟩
end Go.Proofs.Ytagdfohjhokgiaa
