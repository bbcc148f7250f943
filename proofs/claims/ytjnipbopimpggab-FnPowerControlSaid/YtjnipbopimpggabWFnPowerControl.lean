/- The walk of the law FnPowerControl. -/
import Derived.Test.YtjnipbopimpggabPowMath
import Derived.Test.YtjnipbopimpggabDrawCel2
import Derived.Deep.RegionHeld3
namespace Go.Proofs.Ytjnipbopimpggab
open Go.RowKit
set_option linter.unusedVariables false
/-- A cell after some steps. -/
def psK (T : Int) (f : Nat → Usr) : Nat → Nat → Usr
  | 0 => f
  | j + 1 => psF T (psK T f j)
theorem psK_cell {n : Nat} {T : Int} {f : Nat → Usr} (h : cellB n f = true) (ht : tgB T = true) : ∀ j, cellB n (psK T f j) = true
  | 0 => h
  | j + 1 => psF_cell (psK_cell h ht j) ht
theorem psK_time {n : Nat} {T : Int} {f : Nat → Usr} (h : cellB n f = true) (ht : tgB T = true) : ∀ j : Nat, tmV n (psK T f j) T = max (tmV n f T - (j : Int)) 0
  | 0 => by
    have := (tm_nonneg h ht).1
    show tmV n f T = _
    omega
  | j + 1 => by
    show tmV n (psF T (psK T f j)) T = _
    rw [psF_time (psK_cell h ht j) ht, psK_time h ht j]
    omega
theorem psK_sz {n : Nat} {T : Int} {f : Nat → Usr} (h : UsrSz n f) : ∀ j, UsrSz n (psK T f j)
  | 0 => h
  | j + 1 => psF_sz (psK_sz h j)
theorem psK_same (T : Int) (f : Nat → Usr) (i : Nat) : ∀ j, (psK T f j i).code = (f i).code ∧ (psK T f j i).data = (f i).data ∧ (psK T f j i).delay = (f i).delay
  | 0 => ⟨rfl, rfl, rfl⟩
  | j + 1 => psK_same T f i j
theorem mxA_zero {g : Nat → Int} : ∀ n, mxA 0 g n = 0 → ∀ k, k < n → g k = 0
  | 0, _, k, hk => absurd hk (Nat.not_lt_zero k)
  | n + 1, h, k, hk => by
    simp only [mxA] at h
    have h0 := mxA_le 0 g n
    have h1 := abI_nonneg (g n)
    by_cases e : k = n
    · subst e; unfold abI at h h1; omega
    · exact mxA_zero n (by omega) k (by omega)
theorem psK_goal {n : Nat} {T : Int} {f : Nat → Usr} {N : Nat} (h : cellB n f = true) (ht : tgB T = true) (hN : tmV n f T = (N : Int)) (k : Nat) (hk : k < n) : (psK T f N k).gain = T * (f k).delay := by
  have h1 := psK_time h ht N
  rw [hN] at h1
  rw [← tmV_yes (psK_cell h ht N) ht] at h1
  have h3 : mxA 0 (dfF (psK T f N) T) n = 0 := by omega
  have h2 := mxA_zero n h3 k hk
  unfold dfF at h2
  rw [(psK_same T f k N).2.2] at h2
  omega
theorem sgV_goal {c p : ByteArray} {g d T : Int} (h : stnB c p g d = true) (ht : tgB T = true) : sgV c p (T * d) d = T := by
  obtain ⟨a1, a2, -, -, d0, d1⟩ := (stnB_iff _ _ _ _).1 h
  obtain ⟨t0, t1⟩ := (tg_iff T).1 ht
  obtain ⟨m0, m1⟩ := mul_goal t0 t1 d0 d1
  rw [← sgV_yes ((stnB_iff _ _ _ _).2 ⟨a1, a2, m0, by omega, d0, d1⟩)]
  exact Int.mul_ediv_cancel T (by omega)
theorem tm_ok {n : Nat} {T : Int} {f : Nat → Usr} (h : 0 ≤ tmV n f T) : cellB n f = true ∧ tgB T = true := by
  cases h1 : psB n f T with
  | false => rw [tm_none h1] at h; omega
  | true => exact ps_parts h1
set_option maxHeartbeats 6400000 in
set_option maxRecDepth 100000 in
theorem fnPowerControl_walk (a0 : Option Addr) (len0 cap0 : Nat) (z0 : List Int) (w : World) (w0 : IsBytes w a0 len0 cap0 z0) :
    Calls Try.prog 3 #[.slice a0 len0 cap0] w fun e w' => e = .returned (.bool true) ∧ Below w.heap.size w w' := by
  by_cases hl0 : 1048576 < len0
  · go_enter Try.func3, Try.ntmps3
    go_wp2
    go_ret
    exact ⟨rfl, Below.refl _ _⟩
  go_enter Try.func3, Try.ntmps3
  go_wp2_with fail
  refine (drawPowerTime_any a0 len0 cap0 z0 _ w0).mono ?_
  rintro e w1 ⟨v, n, f, T, rfl, O1, hn, hf, hT, bc⟩
  have hsz := DrT.sz hf
  have HSZ := Lib.hid hsz
  have V1 := O1.stationsC
  clear hf O1 w0 hT
  have HT1 := Lib.hid (fun u g W (h : UsrsC W u n g) (hg : UsrSz n g) => iTime_any u n g T W h (by omega) hg)
  have HT2 := Lib.hid (fun w h => sTime_any v n f T w h (by omega) hsz)
  have hT1 := fun w h => iTime_any v n f T w h (by omega) hsz
  have hok := fun h => tm_ok (n := n) (f := f) (T := T) h
  have hneg : ¬ 0 ≤ tmV n f T → tmV n f T = -1 := fun h => by
    cases h1 : psB n f T with
    | false => exact tm_none h1
    | true => obtain ⟨p1, p2⟩ := ps_parts h1; exact absurd (tm_nonneg p1 p2).1 h
  obtain ⟨N, hN⟩ : ∃ N, tmV n f T = N := ⟨_, rfl⟩
  rw [hN] at hT1 HT2 hok hneg
  have HTA := Lib.hid hT1
  have HN := Lib.hid hN
  clear hN hsz hT1
  obtain ⟨av, cv, rfl, -⟩ := id V1
  go_wp2_with fail
  refine (HTA.out _ V1).mono ?_
  rintro e w2 ⟨rfl, n2⟩
  have V2 := V1.below n2
  have b2 := below_then bc (Nat.le_refl _) n2
  clear V1 bc n2
  have e0 : (N != N) = false := by simp
  by_cases hz : 0 ≤ N
  rotate_left
  · have e1 := hneg (by omega)
    subst e1
    clear hok hneg
    go_wp2_with fail
    refine (HT2.out _ V2).mono ?_
    rintro e w3 ⟨rfl, n3⟩
    have V3 := V2.below n3
    have b3 := below_then b2 (Nat.le_refl _) n3
    clear V2 b2 n3
    go_wp2_with fail
    refine (HT2.out _ V3).mono ?_
    rintro e w4 ⟨rfl, n4⟩
    have b4 := below_then b3 (Nat.le_refl _) n4
    go_wp2
    go_ret
    exact ⟨rfl, b4⟩
  · obtain ⟨h1, h2⟩ := hok hz
    have hNle := (tm_nonneg h1 h2).2
    rw [HN.out] at hNle
    obtain ⟨M, rfl⟩ := Int.eq_ofNat_of_zero_le hz
    have z1 : ¬ (M : Int) < 0 := by omega
    have HSTEP := Lib.hid (fun (j : Nat) u W (h : UsrsC W u n (psK T f j)) => iStep_any u n (psK T f j) T W h (by omega) (psK_sz HSZ.out j))
    have HPB := Lib.hid (fun (j : Nat) => ps_yes (psK_cell h1 h2 j) h2)
    have HTL := Lib.hid (fun u W (h : UsrsC W u n (psK T f M)) => HT1.out u (psK T f M) W h (psK_sz HSZ.out M))
    rw [psK_time h1 h2 M, HN.out, show max ((M : Int) - (M : Int)) 0 = 0 by omega] at HTL
    have HST := Lib.hid (fun k (hk : k < n) => cellC_at h1 hk)
    have HGL := Lib.hid (fun k (hk : k < n) => psK_goal h1 h2 HN.out k hk)
    have HGV := Lib.hid (fun k (hk : k < n) => goV_yes (HST.out k hk) h2)
    have HSG := Lib.hid (fun k (hk : k < n) => sgV_goal (HST.out k hk) h2)
    have HG := Lib.hid (fun k (hk : k < n) w => iGoal_any (f k).code (f k).data (f k).gain (f k).delay T w (by have := (HSZ.out k hk).1; omega) (by have := (HSZ.out k hk).2; omega))
    have HS := Lib.hid (fun k (hk : k < n) w => iStrength_any (f k).code (f k).data (T * (f k).delay) (f k).delay w (by have := (HSZ.out k hk).1; omega) (by have := (HSZ.out k hk).2; omega))
    clear hok hneg h1 h2 hz
    go_wp2_with fail
    refine (HT2.out _ V2).mono ?_
    rintro e w3 ⟨rfl, n3⟩
    have V3 := V2.below n3
    have b3 := below_then b2 (Nat.le_refl _) n3
    clear V2 b2 n3
    go_wp2
    go_loopw [7, 6] (fun i x wr => ∃ j : Nat, j ≤ M ∧ i = .int .i64 j ∧ UsrsC wr x n (psK T f j) ∧ UsrsC wr (.slice av n cv) n f ∧ Below w.heap.size w wr) (fun i _ _ => M - (intOf i).toNat)
    case atStart => exact ⟨0, by omega, rfl, V3, V3, b3⟩
    case round =>
      obtain ⟨j, hj, rfl, rX, rV, rb⟩ := hrel
      clear V3 b3
      obtain ⟨ax, cx, rfl, -⟩ := id rX
      by_cases hlt : j < M
      · have hst := HSTEP.out j (.slice ax n cx) _ rX
        unfold psN at hst
        rw [HPB.out j, if_pos rfl] at hst
        have HST2 := Lib.hid hst
        clear hst
        go_wp2_with fail
        refine HST2.out.mono ?_
        rintro e w4 ⟨vx, rfl, Ox, n4⟩
        have V4 := rV.below n4
        have X4 := Lib.hid Ox.stationsC
        have b4 := below_then rb (Nat.le_refl _) n4
        clear rV rX rb n4 Ox HST2
        go_wp2
        go_roundw
        case rel => exact ⟨j + 1, by omega, by go_num, X4.out, V4, b4⟩
        case measure => simp [intOf]; omega
      · obtain rfl : j = M := by omega
        have XX := Lib.hid rX
        go_wp2
        go_loopw [8] (fun i wr => ∃ k : Nat, k ≤ n ∧ i = .int .i64 k ∧ UsrsC wr (.slice ax n cx) n (psK T f j) ∧ UsrsC wr (.slice av n cv) n f ∧ Below w.heap.size w wr) (fun i _ => n - (intOf i).toNat)
        case atStart => exact ⟨0, by omega, rfl, rX, rV, rb⟩
        case round =>
          clear rX rV rb XX
          obtain ⟨k, hk, rfl, rX, rV, rb⟩ := hrel
          by_cases hlt2 : k < n
          · obtain ⟨a1, c1, e1, -, hcX⟩ := id rX
            injection e1 with e1 _ e2
            subst e1 e2
            obtain ⟨bx, ox, rfl, hx, hcx⟩ := hcX k hlt2
            obtain ⟨a2, c2, e1, -, hcV⟩ := id rV
            injection e1 with e1 _ e2
            subst e1 e2
            obtain ⟨bv, ov, rfl, hv, hcv⟩ := hcV k hlt2
            clear hcX hcV
            obtain ⟨x0, x1, x2, x3⟩ := hcx
            obtain ⟨y0, y1, y2, y3⟩ := hcv
            obtain ⟨s1, s2, s3⟩ := psK_same T f k j
            rw [s1] at x0
            rw [s2] at x1
            rw [HGL.out k hlt2] at x2
            rw [s3] at x3
            have i0 : (0 : Int) ≤ (k : Int) := by omega
            have i1 : (k : Int) < (n : Int) := by omega
            have hg := HG.out k hlt2
            have hs := HS.out k hlt2
            rw [← HGV.out k hlt2] at hg
            rw [HSG.out k hlt2] at hs
            obtain ⟨C, hC⟩ : ∃ C, (f k).code = C := ⟨_, rfl⟩
            obtain ⟨D, hD⟩ : ∃ C, (f k).data = C := ⟨_, rfl⟩
            obtain ⟨X, hX⟩ : ∃ C, (f k).gain = C := ⟨_, rfl⟩
            obtain ⟨Y, hY⟩ : ∃ C, (f k).delay = C := ⟨_, rfl⟩
            obtain ⟨P, hP⟩ : ∃ M, T * (f k).delay = M := ⟨_, rfl⟩
            rw [hP] at x2 hg hs
            rw [hC, hD, hX, hY] at hg
            rw [hC, hD, hY] at hs
            rw [hC] at x0 y0
            rw [hD] at x1 y1
            rw [hX] at y2
            rw [hY] at x3 y3
            have HGk := Lib.hid hg
            have HSk := Lib.hid hs
            have HXU := Lib.hid rX
            have HVU := Lib.hid rV
            have r0 := Below.refl wr.heap.size wr
            clear hg hs hC hD hX hY hP rX rV s1 s2 s3
            go_wp2_with fail
            go_region_held3 (fun wx => Below wr.heap.size wr wx ∧ (wx.cell? ⟨bx, ox + k * 4, none⟩ = some (.string C) ∧ wx.cell? ⟨bx, ox + k * 4 + 1, none⟩ = some (.string D) ∧ wx.cell? ⟨bx, ox + k * 4 + 2, none⟩ = some (.int .i64 P) ∧ wx.cell? ⟨bx, ox + k * 4 + 3, none⟩ = some (.int .i64 Y)) ∧ (wx.cell? ⟨bv, ov + k * 4, none⟩ = some (.string C) ∧ wx.cell? ⟨bv, ov + k * 4 + 1, none⟩ = some (.string D) ∧ wx.cell? ⟨bv, ov + k * 4 + 2, none⟩ = some (.int .i64 X) ∧ wx.cell? ⟨bv, ov + k * 4 + 3, none⟩ = some (.int .i64 Y))) (first | exact ⟨k2, ⟨(k2.cell (p := ⟨bx, ox + k * 4, none⟩) hx).trans x0, (k2.cell (p := ⟨bx, ox + k * 4 + 1, none⟩) hx).trans x1, (k2.cell (p := ⟨bx, ox + k * 4 + 2, none⟩) hx).trans x2, (k2.cell (p := ⟨bx, ox + k * 4 + 3, none⟩) hx).trans x3⟩, ⟨(k2.cell (p := ⟨bv, ov + k * 4, none⟩) hv).trans y0, (k2.cell (p := ⟨bv, ov + k * 4 + 1, none⟩) hv).trans y1, (k2.cell (p := ⟨bv, ov + k * 4 + 2, none⟩) hv).trans y2, (k2.cell (p := ⟨bv, ov + k * 4 + 3, none⟩) hv).trans y3⟩⟩ | exact ⟨k1, ⟨(k1.cell (p := ⟨bx, ox + k * 4, none⟩) hx).trans x0, (k1.cell (p := ⟨bx, ox + k * 4 + 1, none⟩) hx).trans x1, (k1.cell (p := ⟨bx, ox + k * 4 + 2, none⟩) hx).trans x2, (k1.cell (p := ⟨bx, ox + k * 4 + 3, none⟩) hx).trans x3⟩, ⟨(k1.cell (p := ⟨bv, ov + k * 4, none⟩) hv).trans y0, (k1.cell (p := ⟨bv, ov + k * 4 + 1, none⟩) hv).trans y1, (k1.cell (p := ⟨bv, ov + k * 4 + 2, none⟩) hv).trans y2, (k1.cell (p := ⟨bv, ov + k * 4 + 3, none⟩) hv).trans y3⟩⟩ | exact ⟨r0.drew, ⟨x0, x1, x2, x3⟩, ⟨y0, y1, y2, y3⟩⟩) (first
              | (go_at_call 11; refine (HGk.out _).mono ?_; rintro e w5 ⟨rfl, hB⟩; have k1 := below_then r0.drew (Nat.le_refl _) hB; clear hB)
              | (go_at_call 12; refine (HSk.out _).mono ?_; rintro e w6 ⟨rfl, hB⟩; have k2 := below_then k1 (Nat.le_refl _) hB; clear hB))
            all_goals
              have X8 := Lib.hid (HXU.out.below k2)
              have V8 := Lib.hid (HVU.out.below k2)
              have r8 := below_then rb (Nat.le_refl _) k2
              clear x0 x1 x2 x3 y0 y1 y2 y3 k1 k2 r0 rb HXU HVU
              go_wp2
              go_roundw
              case rel => exact ⟨k + 1, by omega, by go_num, X8.out, V8.out, r8⟩
              case measure => simp [intOf]; omega
          · obtain rfl : n = k := by omega
            go_wp2_with fail
            refine (HTL.out _ _ rX).mono ?_
            rintro e w8 ⟨rfl, n8⟩
            have b8 := below_then rb (Nat.le_refl _) n8
            go_wp2
            go_ret
            exact ⟨rfl, b8⟩
end Go.Proofs.Ytjnipbopimpggab
