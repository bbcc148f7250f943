/- The walk of the law FnPowerStep. -/
import Derived.Test.YtjnipbopimpggaaPowMath
import Derived.Test.YtjnipbopimpggaaDrawCel2
import Derived.Deep.Cut
namespace Go.Proofs.Ytjnipbopimpggaa
open Go.RowKit
set_option linter.unusedVariables false
theorem psF_bdI {T : Int} {u : Usr} (h : u.stn = true) (ht : tgB T = true) : -2000 ≤ u.gain ∧ u.gain ≤ 2000 ∧ -2000 ≤ T * u.delay ∧ T * u.delay ≤ 2000 := by
  obtain ⟨-, -, g0, g1, d0, d1⟩ := (stnB_iff _ _ _ _).1 h
  obtain ⟨t0, t1⟩ := (tg_iff T).1 ht
  obtain ⟨m0, m1⟩ := mul_goal t0 t1 d0 d1
  omega
set_option maxHeartbeats 6400000 in
set_option maxRecDepth 100000 in
theorem fnPowerStep_walk (a0 : Option Addr) (len0 cap0 : Nat) (z0 : List Int) (w : World) (w0 : IsBytes w a0 len0 cap0 z0) :
    Calls Try.prog 12 #[.slice a0 len0 cap0] w fun e w' => e = .returned (.bool true) ∧ Below w.heap.size w w' := by
  by_cases hl0 : 1048576 < len0
  · go_enter Try.func12, Try.ntmps12
    go_wp2
    go_ret
    exact ⟨rfl, Below.refl _ _⟩
  go_enter Try.func12, Try.ntmps12
  go_wp2_with fail
  refine (drawPowerStep_any a0 len0 cap0 z0 _ w0).mono ?_
  rintro e w1 ⟨v, n, f, T, rfl, O1, hn, hf, hT, bc⟩
  have hsz := DrT.sz hf
  have HSZ := Lib.hid hsz
  have V1 := O1.stationsC
  clear hf O1 w0 hT
  have HI := Lib.hid (fun w h => iStep_any v n f T w h (by omega) hsz)
  have HS := Lib.hid (fun w h => sStep_any v n f T w h (by omega) hsz)
  have HT1 := Lib.hid (fun w h => iTime_any v n f T w h (by omega) hsz)
  have HT2 := Lib.hid (fun w h => sTime_any v n f T w h (by omega) hsz)
  have hnone := fun h => tm_none (n := n) (f := f) (T := T) h
  have hparts := fun h => ps_parts (n := n) (f := f) (T := T) h
  unfold psN at HI HS
  obtain ⟨K, hK⟩ : ∃ K, psB n f T = K := ⟨_, rfl⟩
  rw [hK] at HI HS hnone hparts
  obtain ⟨N, hN⟩ : ∃ N, tmV n f T = N := ⟨_, rfl⟩
  rw [hN] at HT1 HT2 hnone
  have HN := Lib.hid hN
  clear hK hN hsz
  obtain ⟨av, cv, rfl, -⟩ := id V1
  cases K with
  | false =>
    have hN1 := hnone rfl
    subst hN1
    rw [if_neg (by simp)] at HI HS
    clear hnone hparts
    go_wp2_with fail
    refine (HI.out _ V1).mono ?_
    rintro e w2 ⟨vx, rfl, Ox, n2⟩
    have V2 := V1.below n2
    have b2 := below_then bc (Nat.le_refl _) n2
    clear V1 bc n2
    go_wp2_with fail
    refine (HS.out _ V2).mono ?_
    rintro e w3 ⟨vy, rfl, Oy, n3⟩
    have V3 := V2.below n3
    have Ox3 := Ox.below n3
    have b3 := below_then b2 (Nat.le_refl _) n3
    clear V2 Ox b2 n3
    obtain ⟨ax, cx, rfl, -⟩ := Ox3.form
    obtain ⟨ay, cy, rfl, -⟩ := Oy.form
    go_wp2_with fail
    refine (HT1.out _ V3).mono ?_
    rintro e w4 ⟨rfl, n4⟩
    have V4 := V3.below n4
    have Ox4 := Ox3.below n4
    have Oy4 := Oy.below n4
    have b4 := below_then b3 (Nat.le_refl _) n4
    clear V3 Ox3 Oy b3 n4
    have HC := Lib.hid (fun W hx hy => ssCells_same (.slice ax 0 cx) (.slice ay 0 cy) 0 (psF T f) W hx hy (by omega))
    go_wp2_with fail
    refine (HC.out _ Ox4.stations Oy4.stations).mono ?_
    rintro e w' ⟨rfl, m5, rfl⟩
    have V5 := V4.below (below_drewN (Below.refl _ _) m5)
    have Ox5 := Ox4.drewN m5
    have Oy5 := Oy4.drewN m5
    have b5 := below_drewN b4 m5
    clear V4 Ox4 Oy4 b4
    obtain ⟨w5, hW⟩ : ∃ W, w4.drewN m5 = W := ⟨_, rfl⟩
    rw [hW] at V5 Ox5 Oy5 b5 ⊢
    clear hW
    go_wp2_with fail
    refine (HT2.out _ V5).mono ?_
    rintro e w6 ⟨rfl, n6⟩
    have V6 := V5.below n6
    have Ox6 := Ox5.below n6
    have Oy6 := Oy5.below n6
    have b6 := below_then b5 (Nat.le_refl _) n6
    clear V5 Ox5 Oy5 b5 n6
    go_wp2_with fail
    refine (HC.out _ Ox6.stations Oy6.stations).mono ?_
    rintro e w' ⟨rfl, m7, rfl⟩
    have V7 := V6.below (below_drewN (Below.refl _ _) m7)
    have b7 := below_drewN b6 m7
    clear V6 Ox6 Oy6 b6
    obtain ⟨w7, hW⟩ : ∃ W, w6.drewN m7 = W := ⟨_, rfl⟩
    rw [hW] at V7 b7 ⊢
    clear hW
    go_wp2_with fail
    refine (HT2.out _ V7).mono ?_
    rintro e w8 ⟨rfl, n8⟩
    have b8 := below_then b7 (Nat.le_refl _) n8
    clear V7 b7 n8
    go_wp2
    go_ret
    exact ⟨rfl, b8⟩
  | true =>
    obtain ⟨h1, h2⟩ := hparts rfl
    have hN0 := tm_nonneg h1 h2
    rw [HN.out] at hN0
    have HCV := Lib.hid (fun u W h => iCell_any u n (psF T f) W h (by omega) (psF_sz HSZ.out))
    rw [psF_cell h1 h2] at HCV
    have HTM := Lib.hid (fun u W h => iTime_any u n (psF T f) T W h (by omega) (psF_sz HSZ.out))
    rw [psF_time h1 h2, HN.out] at HTM
    have HSM := Lib.hid (fun u u2 W hx hy => ssCells_gain u u2 n (psF T f) f W hx hy (fun i _ => ⟨rfl, rfl, rfl⟩) (by omega))
    rw [psF_still h1 h2, HN.out] at HSM
    have HST := Lib.hid (fun k (hk : k < n) => celN_at (k := k) n (by unfold cellB at h1; simp only [Bool.and_eq_true] at h1; exact h1.1) hk)
    have HBD := Lib.hid (fun k (hk : k < n) => psF_bdI (HST.out k hk) h2)
    have HGV := Lib.hid (fun k (hk : k < n) => goV_yes (HST.out k hk) h2)
    have HG := Lib.hid (fun k (hk : k < n) w => iGoal_any (f k).code (f k).data (f k).gain (f k).delay T w (by have := (HSZ.out k hk).1; omega) (by have := (HSZ.out k hk).2; omega))
    rw [if_pos rfl] at HI HS
    clear hnone hparts h1 h2
    go_wp2_with fail
    refine (HI.out _ V1).mono ?_
    rintro e w2 ⟨vx, rfl, Ox, n2⟩
    have V2 := V1.below n2
    have b2 := below_then bc (Nat.le_refl _) n2
    clear V1 bc n2
    go_wp2_with fail
    refine (HS.out _ V2).mono ?_
    rintro e w3 ⟨vy, rfl, Oy, n3⟩
    have V3 := V2.below n3
    have Ox3 := Ox.below n3
    have b3 := below_then b2 (Nat.le_refl _) n3
    clear V2 Ox b2 n3
    obtain ⟨ax, cx, rfl, -⟩ := Ox3.form
    obtain ⟨ay, cy, rfl, -⟩ := Oy.form
    go_wp2_with fail
    refine (HT1.out _ V3).mono ?_
    rintro e w4 ⟨rfl, n4⟩
    have V4 := V3.below n4
    have Ox4 := Ox3.below n4
    have Oy4 := Oy.below n4
    have b4 := below_then b3 (Nat.le_refl _) n4
    clear V3 Ox3 Oy b3 n4
    have HC := Lib.hid (fun W hx hy => ssCells_same (.slice ax n cx) (.slice ay n cy) n (psF T f) W hx hy (by omega))
    go_wp2_with fail
    refine (HC.out _ Ox4.stations Oy4.stations).mono ?_
    rintro e w' ⟨rfl, m5, rfl⟩
    have V5 := V4.below (below_drewN (Below.refl _ _) m5)
    have Ox5 := Ox4.drewN m5
    have b5 := below_drewN b4 m5
    clear V4 Ox4 Oy4 b4
    obtain ⟨w5, hW⟩ : ∃ W, w4.drewN m5 = W := ⟨_, rfl⟩
    rw [hW] at V5 Ox5 b5 ⊢
    clear hW
    go_wp2_with fail
    refine (HT2.out _ V5).mono ?_
    rintro e w6 ⟨rfl, n6⟩
    have V6 := V5.below n6
    have X6 := (Ox5.below n6).stationsC
    have b6 := below_then b5 (Nat.le_refl _) n6
    clear V5 Ox5 b5 n6
    go_wp2
    go_loopw [10] (fun i wr => ∃ k : Nat, k ≤ n ∧ i = .int .i64 k ∧ UsrsC wr (.slice ax n cx) n (psF T f) ∧ UsrsC wr (.slice av n cv) n f ∧ Below w.heap.size w wr) (fun i _ => n - (intOf i).toNat)
    case atStart => exact ⟨0, by omega, rfl, X6, V6, b6⟩
    case round =>
      obtain ⟨k, hk, rfl, rX, rV, rb⟩ := hrel
      clear X6 V6 b6
      by_cases hlt : k < n
      · obtain ⟨a1, c1, e1, -, hcX⟩ := id rX
        injection e1 with e1 _ e2
        subst e1 e2
        obtain ⟨bx, ox, rfl, hx, hcx⟩ := hcX k hlt
        obtain ⟨a2, c2, e1, -, hcV⟩ := id rV
        injection e1 with e1 _ e2
        subst e1 e2
        obtain ⟨bv, ov, rfl, hv, hcv⟩ := hcV k hlt
        clear hcX hcV
        obtain ⟨x0, x1, x2, x3⟩ := hcx
        obtain ⟨y0, y1, y2, y3⟩ := hcv
        have i0 : (0 : Int) ≤ (k : Int) := by omega
        have i1 : (k : Int) < (n : Int) := by omega
        have hps : psF T f k = ⟨(f k).code, (f k).data, (f k).gain + stepI (T * (f k).delay) (f k).gain, (f k).delay⟩ := rfl
        rw [hps] at x0 x1 x2 x3
        clear hps
        dsimp only at x0 x1 x2 x3
        obtain ⟨t1, t2, t3, t4⟩ := HBD.out k hlt
        have hg := HG.out k hlt
        rw [← HGV.out k hlt] at hg
        have hcs := stepI_cases (g := (f k).gain) (M := T * (f k).delay)
        obtain ⟨C, hC⟩ : ∃ C, (f k).code = C := ⟨_, rfl⟩
        obtain ⟨D, hD⟩ : ∃ C, (f k).data = C := ⟨_, rfl⟩
        obtain ⟨X, hX⟩ : ∃ C, (f k).gain = C := ⟨_, rfl⟩
        obtain ⟨Y, hY⟩ : ∃ C, (f k).delay = C := ⟨_, rfl⟩
        rw [hC, hD, hX, hY] at hg
        rw [hX, hY] at hcs
        rw [hX] at t1 t2
        rw [hY] at t3 t4
        rw [hC] at x0 y0
        rw [hD] at x1 y1
        rw [hX, hY] at x2
        rw [hX] at y2
        rw [hY] at x3 y3
        obtain ⟨M, hM⟩ : ∃ M, T * Y = M := ⟨_, rfl⟩
        rw [hM] at hg hcs t3 t4 x2
        obtain ⟨S, hS⟩ : ∃ S, stepI M X = S := ⟨_, rfl⟩
        rw [hS] at hcs x2
        obtain ⟨Z, hZ⟩ : ∃ Z, X + S = Z := ⟨_, rfl⟩
        rw [hZ] at x2
        have HGk := Lib.hid hg
        have HXU := Lib.hid rX
        have HVU := Lib.hid rV
        clear hg hC hD hX hY hM hS rX rV
        rcases hcs with ⟨q1, q2⟩ | ⟨q1, q2⟩ | ⟨q1, q2⟩
        · have ms : IntKind.i64.wrap (Z - X) = 0 := by rw [← hZ, q2]; rw [show X + 0 - X = 0 by omega]; rfl
          have q3 := q1.symm
          subst q3
          clear q2 hZ
          go_wp2_with fail
          go_quiet (fail)
          clear ms
          obtain ⟨W, hW⟩ : ∃ W, wr.drewN nq = W := ⟨_, rfl⟩
          have rb2 := below_drewN rb nq
          have rX2 := HXU.out.below (below_drewN (Below.refl wr.heap.size wr) nq)
          have rV2 := HVU.out.below (below_drewN (Below.refl wr.heap.size wr) nq)
          have hbx : bx < (wr.drewN nq).heap.size := hx
          have hbv : bv < (wr.drewN nq).heap.size := hv
          have x0' : (wr.drewN nq).cell? ⟨bx, ox + k * 4, none⟩ = some (.string C) := x0
          have x1' : (wr.drewN nq).cell? ⟨bx, ox + k * 4 + 1, none⟩ = some (.string D) := x1
          have y0' : (wr.drewN nq).cell? ⟨bv, ov + k * 4, none⟩ = some (.string C) := y0
          have y1' : (wr.drewN nq).cell? ⟨bv, ov + k * 4 + 1, none⟩ = some (.string D) := y1
          have y2' : (wr.drewN nq).cell? ⟨bv, ov + k * 4 + 2, none⟩ = some (.int .i64 X) := y2
          have y3' : (wr.drewN nq).cell? ⟨bv, ov + k * 4 + 3, none⟩ = some (.int .i64 Y) := y3
          rw [hW] at rb2 rX2 rV2 hbx hbv x0' x1' y0' y1' y2' y3' ⊢
          clear x0 x1 x2 x3 y0 y1 y2 y3 hW rb HXU HVU
          have HX2 := Lib.hid rX2
          have HV2 := Lib.hid rV2
          clear rX2 rV2
          go_wp2_with fail
          refine (HGk.out _).mono ?_
          rintro e w8 ⟨rfl, n8⟩
          have r8 := below_then rb2 (Nat.le_refl _) n8
          have X8 := Lib.hid (HX2.out.below n8)
          have V8 := Lib.hid (HV2.out.below n8)
          have x0 := (n8.cell (p := ⟨bx, ox + k * 4, none⟩) hbx).trans x0'
          have x1 := (n8.cell (p := ⟨bx, ox + k * 4 + 1, none⟩) hbx).trans x1'
          have y0 := (n8.cell (p := ⟨bv, ov + k * 4, none⟩) hbv).trans y0'
          have y1 := (n8.cell (p := ⟨bv, ov + k * 4 + 1, none⟩) hbv).trans y1'
          have y2 := (n8.cell (p := ⟨bv, ov + k * 4 + 2, none⟩) hbv).trans y2'
          clear x0' x1' y0' y1' y2' y3' n8 rb2 HX2 HV2 hbx hbv
          go_upto_region 14 with (fail)
          dsimp only [List.append_eq, List.cons_append, List.nil_append]
          go_quiet (fail)
          have r9 := below_drewN r8 nq
          have X9 := Lib.hid (X8.out.below (below_drewN (Below.refl w8.heap.size w8) nq))
          have V9 := Lib.hid (V8.out.below (below_drewN (Below.refl w8.heap.size w8) nq))
          clear x0 x1 y0 y1 y2 r8 X8 V8
          go_wp2
          go_roundw
          case rel => exact ⟨k + 1, by omega, by go_num, X9.out, V9.out, r9⟩
          case measure => simp [intOf]; omega
        · have ms : IntKind.i64.wrap (Z - X) = 1 := by rw [← hZ, q2]; rw [show X + 1 - X = 1 by omega]; rfl
          have e1 : (X == M) = false := by rw [beq_eq_false_iff_ne]; omega
          have e2 : ¬ M < X := by omega
          have e3 : decide (M < X) = false := decide_eq_false e2
          clear q2 hZ
          go_wp2_with fail
          go_quiet (fail)
          clear ms
          obtain ⟨W, hW⟩ : ∃ W, wr.drewN nq = W := ⟨_, rfl⟩
          have rb2 := below_drewN rb nq
          have rX2 := HXU.out.below (below_drewN (Below.refl wr.heap.size wr) nq)
          have rV2 := HVU.out.below (below_drewN (Below.refl wr.heap.size wr) nq)
          have hbx : bx < (wr.drewN nq).heap.size := hx
          have hbv : bv < (wr.drewN nq).heap.size := hv
          have x0' : (wr.drewN nq).cell? ⟨bx, ox + k * 4, none⟩ = some (.string C) := x0
          have x1' : (wr.drewN nq).cell? ⟨bx, ox + k * 4 + 1, none⟩ = some (.string D) := x1
          have y0' : (wr.drewN nq).cell? ⟨bv, ov + k * 4, none⟩ = some (.string C) := y0
          have y1' : (wr.drewN nq).cell? ⟨bv, ov + k * 4 + 1, none⟩ = some (.string D) := y1
          have y2' : (wr.drewN nq).cell? ⟨bv, ov + k * 4 + 2, none⟩ = some (.int .i64 X) := y2
          have y3' : (wr.drewN nq).cell? ⟨bv, ov + k * 4 + 3, none⟩ = some (.int .i64 Y) := y3
          rw [hW] at rb2 rX2 rV2 hbx hbv x0' x1' y0' y1' y2' y3' ⊢
          clear x0 x1 x2 x3 y0 y1 y2 y3 hW rb HXU HVU
          have HX2 := Lib.hid rX2
          have HV2 := Lib.hid rV2
          clear rX2 rV2
          go_wp2_with fail
          refine (HGk.out _).mono ?_
          rintro e w8 ⟨rfl, n8⟩
          have r8 := below_then rb2 (Nat.le_refl _) n8
          have X8 := Lib.hid (HX2.out.below n8)
          have V8 := Lib.hid (HV2.out.below n8)
          have x0 := (n8.cell (p := ⟨bx, ox + k * 4, none⟩) hbx).trans x0'
          have x1 := (n8.cell (p := ⟨bx, ox + k * 4 + 1, none⟩) hbx).trans x1'
          have y0 := (n8.cell (p := ⟨bv, ov + k * 4, none⟩) hbv).trans y0'
          have y1 := (n8.cell (p := ⟨bv, ov + k * 4 + 1, none⟩) hbv).trans y1'
          have y2 := (n8.cell (p := ⟨bv, ov + k * 4 + 2, none⟩) hbv).trans y2'
          clear x0' x1' y0' y1' y2' y3' n8 rb2 HX2 HV2 hbx hbv
          go_upto_region 14 with (fail)
          dsimp only [List.append_eq, List.cons_append, List.nil_append]
          go_quiet (fail)
          have r9 := below_drewN r8 nq
          have X9 := Lib.hid (X8.out.below (below_drewN (Below.refl w8.heap.size w8) nq))
          have V9 := Lib.hid (V8.out.below (below_drewN (Below.refl w8.heap.size w8) nq))
          clear x0 x1 y0 y1 y2 r8 X8 V8
          go_wp2
          go_roundw
          case rel => exact ⟨k + 1, by omega, by go_num, X9.out, V9.out, r9⟩
          case measure => simp [intOf]; omega
        · have ms : IntKind.i64.wrap (Z - X) = -1 := by rw [← hZ, q2]; rw [show X + -1 - X = -1 by omega]; rfl
          have e1 : (X == M) = false := by rw [beq_eq_false_iff_ne]; omega
          have e2 : ¬ X < M := by omega
          have e3 : decide (X < M) = false := decide_eq_false e2
          clear q2 hZ
          go_wp2_with fail
          go_quiet (fail)
          clear ms
          obtain ⟨W, hW⟩ : ∃ W, wr.drewN nq = W := ⟨_, rfl⟩
          have rb2 := below_drewN rb nq
          have rX2 := HXU.out.below (below_drewN (Below.refl wr.heap.size wr) nq)
          have rV2 := HVU.out.below (below_drewN (Below.refl wr.heap.size wr) nq)
          have hbx : bx < (wr.drewN nq).heap.size := hx
          have hbv : bv < (wr.drewN nq).heap.size := hv
          have x0' : (wr.drewN nq).cell? ⟨bx, ox + k * 4, none⟩ = some (.string C) := x0
          have x1' : (wr.drewN nq).cell? ⟨bx, ox + k * 4 + 1, none⟩ = some (.string D) := x1
          have y0' : (wr.drewN nq).cell? ⟨bv, ov + k * 4, none⟩ = some (.string C) := y0
          have y1' : (wr.drewN nq).cell? ⟨bv, ov + k * 4 + 1, none⟩ = some (.string D) := y1
          have y2' : (wr.drewN nq).cell? ⟨bv, ov + k * 4 + 2, none⟩ = some (.int .i64 X) := y2
          have y3' : (wr.drewN nq).cell? ⟨bv, ov + k * 4 + 3, none⟩ = some (.int .i64 Y) := y3
          rw [hW] at rb2 rX2 rV2 hbx hbv x0' x1' y0' y1' y2' y3' ⊢
          clear x0 x1 x2 x3 y0 y1 y2 y3 hW rb HXU HVU
          have HX2 := Lib.hid rX2
          have HV2 := Lib.hid rV2
          clear rX2 rV2
          go_wp2_with fail
          refine (HGk.out _).mono ?_
          rintro e w8 ⟨rfl, n8⟩
          have r8 := below_then rb2 (Nat.le_refl _) n8
          have X8 := Lib.hid (HX2.out.below n8)
          have V8 := Lib.hid (HV2.out.below n8)
          have x0 := (n8.cell (p := ⟨bx, ox + k * 4, none⟩) hbx).trans x0'
          have x1 := (n8.cell (p := ⟨bx, ox + k * 4 + 1, none⟩) hbx).trans x1'
          have y0 := (n8.cell (p := ⟨bv, ov + k * 4, none⟩) hbv).trans y0'
          have y1 := (n8.cell (p := ⟨bv, ov + k * 4 + 1, none⟩) hbv).trans y1'
          have y2 := (n8.cell (p := ⟨bv, ov + k * 4 + 2, none⟩) hbv).trans y2'
          clear x0' x1' y0' y1' y2' y3' n8 rb2 HX2 HV2 hbx hbv
          go_upto_region 14 with (fail)
          dsimp only [List.append_eq, List.cons_append, List.nil_append]
          go_quiet (fail)
          have r9 := below_drewN r8 nq
          have X9 := Lib.hid (X8.out.below (below_drewN (Below.refl w8.heap.size w8) nq))
          have V9 := Lib.hid (V8.out.below (below_drewN (Below.refl w8.heap.size w8) nq))
          clear x0 x1 y0 y1 y2 r8 X8 V8
          go_wp2
          go_roundw
          case rel => exact ⟨k + 1, by omega, by go_num, X9.out, V9.out, r9⟩
          case measure => simp [intOf]; omega
      · obtain rfl : n = k := by omega
        go_wp2_with fail
        refine (HCV.out _ _ rX).mono ?_
        rintro e w8 ⟨rfl, n8⟩
        have X8 := rX.below n8
        have V8 := rV.below n8
        have b8 := below_then rb (Nat.le_refl _) n8
        clear rX rV rb n8
        go_wp2_with fail
        refine (HTM.out _ _ X8).mono ?_
        rintro e w9 ⟨rfl, n9⟩
        have X9 := X8.below n9
        have V9 := V8.below n9
        have b9 := below_then b8 (Nat.le_refl _) n9
        clear X8 V8 b8 n9
        by_cases hz : N = 0
        · subst hz
          go_wp2_with fail
          refine (HSM.out _ _ _ X9.usrs V9.usrs).mono ?_
          rintro e w' ⟨rfl, m10, rfl⟩
          have b10 := below_drewN b9 m10
          go_wp2
          go_ret
          exact ⟨rfl, b10⟩
        · have q1 : 1 ≤ N := by omega
          have q2 : (N == 0) = false := by simpa using hz
          have q3 : max (N - 1) 0 = N - 1 := by omega
          have q4 : decide (N = 0) = false := by simpa using hz
          go_wp2_with fail
          refine (HSM.out _ _ _ X9.usrs V9.usrs).mono ?_
          rintro e w' ⟨rfl, m10, rfl⟩
          have b10 := below_drewN b9 m10
          go_wp2
          go_ret
          exact ⟨rfl, b10⟩
end Go.Proofs.Ytjnipbopimpggaa
