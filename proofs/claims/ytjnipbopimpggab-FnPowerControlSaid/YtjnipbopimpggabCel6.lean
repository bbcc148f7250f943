/- PowerTime of both sides. -/
import Derived.Test.YtjnipbopimpggabCel4
import Derived.Test.YtjnipbopimpggabCel5
import Derived.Test.YtjnipbopimpggabGrt
import Derived.Test.YtjnipbopimpggabIntsBig
import Derived.Deep.RegionHeld3
namespace Go.Proofs.Ytjnipbopimpggab
open Go.RowKit
set_option linter.unusedVariables false
set_option maxRecDepth 100000
theorem cell_iff {n : Nat} {f : Nat → Usr} (h : cellB n f = true) : celN f n = true ∧ n ≤ 8 := by
  unfold cellB at h
  simp only [Bool.and_eq_true, decide_eq_true_eq] at h
  exact h
theorem cell_at {n k : Nat} {f : Nat → Usr} (h : cellB n f = true) (hk : k < n) : stnB (f k).code (f k).data (f k).gain (f k).delay = true := celN_at n (cell_iff h).1 hk
/-- How far a station is from its goal. -/
def dfF (f : Nat → Usr) (T : Int) (i : Nat) : Int := T * (f i).delay - (f i).gain
theorem dfF_bd {n k : Nat} {f : Nat → Usr} {T : Int} (h : cellB n f = true) (ht : tgB T = true) (hk : k < n) : -1000 ≤ dfF f T k ∧ dfF f T k ≤ 1000 := by
  obtain ⟨-, -, g0, g1, d0, d1⟩ := (stnB_iff _ _ _ _).1 (cell_at h hk)
  obtain ⟨t0, t1⟩ := (tg_iff T).1 ht
  obtain ⟨m0, m1⟩ := mul_goal t0 t1 d0 d1
  unfold dfF; omega
/-- How many steps are needed; -1 if there is no cell or no target. -/
def tmV (n : Nat) (f : Nat → Usr) (T : Int) : Int := if cellB n f = true then (if tgB T = true then mxA 0 (dfF f T) n else -1) else -1
theorem tmV_no {n : Nat} {f : Nat → Usr} {T : Int} (h : cellB n f = false) : -1 = tmV n f T := by unfold tmV; rw [h]; rfl
theorem tmV_out {n : Nat} {f : Nat → Usr} {T : Int} (h : tgB T = false) : -1 = tmV n f T := by unfold tmV; rw [h]; split <;> rfl
theorem tmV_yes {n : Nat} {f : Nat → Usr} {T : Int} (h : cellB n f = true) (ht : tgB T = true) : mxA 0 (dfF f T) n = tmV n f T := by unfold tmV; rw [h, ht]; rfl
theorem UsrAt.drew {w : World} {b : Nat} {c p : ByteArray} {g d : Int} (h : UsrAt w b c p g d) : UsrAt w.drew b c p g d := h
set_option maxHeartbeats 3200000 in
theorem iTime_any (v : Value) (n : Nat) (f : Nat → Usr) (T : Int) (w : World) (h : UsrsC w v n f) (hn : n ≤ 1048576) (hf : UsrSz n f) :
    Calls Try.prog 8 #[v, .int .i64 T] w fun e w' => e = .returned (.int .i64 (tmV n f T)) ∧ Below w.heap.size w w' := by
  have hv := fun w h => iCell_any v n f w h hn hf
  have ht := fun w => targetValid_any T w
  rw [target_tg] at ht
  have HI := Lib.hid h
  obtain ⟨a, cap, rfl, hm, hc⟩ := id h
  have HC := Lib.hid hc
  clear hc hm h
  cases h1 : cellB n f with
  | false =>
    have HB := Lib.hid (tmV_no (T := T) h1)
    rw [h1] at hv
    have HV := Lib.hid hv
    clear hv ht h1
    go_enter Try.func8, Try.ntmps8
    go_wp2_with fail
    refine (HV.out _ HI.out).mono ?_
    rintro e w1 ⟨rfl, b1⟩
    go_wp2
    go_ret
    exact ⟨ret_int HB.out, b1⟩
  | true =>
    rw [h1] at hv
    have HV := Lib.hid hv
    clear hv
    cases h2 : tgB T with
    | false =>
      have HB := Lib.hid (tmV_out (n := n) (f := f) h2)
      rw [h2] at ht
      have HT := Lib.hid ht
      clear ht h1 h2
      go_enter Try.func8, Try.ntmps8
      go_wp2_with fail
      refine (HV.out _ HI.out).mono ?_
      rintro e w1 ⟨rfl, b1⟩
      go_wp2_with fail
      refine (HT.out _).mono ?_
      rintro e w' ⟨rfl, rfl⟩
      go_wp2
      go_ret
      exact ⟨ret_int HB.out, b1⟩
    | true =>
      have HB := Lib.hid (tmV_yes h1 h2)
      have HD := Lib.hid (fun k hk => dfF_bd (k := k) h1 h2 hk)
      have HY := Lib.hid (fun k (hk : k < n) => goV_yes (cell_at h1 hk) h2)
      have HG := Lib.hid (fun k (hk : k < n) w => iGoal_any (f k).code (f k).data (f k).gain (f k).delay T w (by have := hf k hk; omega) (by have := hf k hk; omega))
      rw [h2] at ht
      have HT := Lib.hid ht
      have n8 := (cell_iff h1).2
      have hmk := Lib.hid (make_ints_big n (by omega))
      clear ht h1 h2
      go_enter Try.func8, Try.ntmps8
      go_wp2_with fail
      refine (HV.out _ HI.out).mono ?_
      rintro e w1 ⟨rfl, b1⟩
      go_wp2_with fail
      refine (HT.out _).mono ?_
      rintro e w' ⟨rfl, rfl⟩
      have hmk2 := hmk.out
      have O1 := OF.made_big w1 n (by omega)
      have b2 := b1.alloc b1.size (.cells (madeCells #[.int .i64 0] n) 3)
      have hB1 := b1.size
      obtain ⟨B, hB⟩ : ∃ B, w1.heap.size = B := ⟨_, rfl⟩
      have HB1 := Lib.hid hB
      go_wp2
      obtain ⟨V, hV⟩ : ∃ V, w1.alloc (.cells (madeCells #[.int .i64 0] n) 3) = V := ⟨_, rfl⟩
      rw [hB] at O1 hB1
      rw [hV] at O1 b2 ⊢
      have HBW := Lib.hid hB1
      clear hmk2 hB hV b1 hB1
      go_loopw [21] (fun i wr => ∃ k : Nat, k ≤ n ∧ i = .int .i64 k ∧ OF wr B (.slice (some ⟨B, 0, none⟩) n n) n (fun j => if j < k then dfF f T j else 0) ∧ Below w.heap.size w wr) (fun i _ => n - (intOf i).toNat)
      case atStart => exact ⟨0, by omega, rfl, O1.congr (fun j _ => by simp), b2⟩
      case round =>
        obtain ⟨k, hk, rfl, rO, rb⟩ := hrel
        clear O1 b2
        by_cases hlt : k < n
        · obtain ⟨b, o, rfl, hx, hcc⟩ := HC.out k hlt
          obtain ⟨c0, c1, c2, c3⟩ := hcc.below rb hx
          have i0 : (0 : Int) ≤ (k : Int) := by omega
          have i1 : (k : Int) < (n : Int) := by omega
          have hg := HG.out k hlt
          have hy := HY.out k hlt
          obtain ⟨d0, d1⟩ := HD.out k hlt
          have hdf : T * (f k).delay - (f k).gain = dfF f T k := rfl
          obtain ⟨C, hC⟩ : ∃ C, (f k).code = C := ⟨_, rfl⟩
          obtain ⟨D, hDD⟩ : ∃ C, (f k).data = C := ⟨_, rfl⟩
          obtain ⟨X, hX⟩ : ∃ C, (f k).gain = C := ⟨_, rfl⟩
          obtain ⟨Y, hYY⟩ : ∃ C, (f k).delay = C := ⟨_, rfl⟩
          rw [hC, hDD, hX, hYY] at hg hy
          rw [hX, hYY] at hdf
          rw [hC] at c0
          rw [hDD] at c1
          rw [hX] at c2
          rw [hYY] at c3
          rw [← hy] at hg
          obtain ⟨M, hM⟩ : ∃ M, T * Y = M := ⟨_, rfl⟩
          rw [hM] at hg hdf
          obtain ⟨Z, hZ⟩ : ∃ Z, dfF f T k = Z := ⟨_, rfl⟩
          rw [hZ] at hdf d0 d1
          have HGk := Lib.hid hg
          have HZ := Lib.hid hZ
          have hdf' := Lib.hid hdf
          have ms : IntKind.i64.wrap (M - X) = M - X := IntWalk.i64_in _ (by omega)
          have r1 := rb.alloc rb.size (.cells #[.string C, .string D, .int .i64 X, .int .i64 Y] 30)
          have u0 := UsrAt.new wr 30 C D X Y
          have O1 := rO.alloc (.cells #[.string C, .string D, .int .i64 X, .int .i64 Y] 30)
          clear hg hy hC hDD hX hYY hM hZ hdf hcc rO rb
          go_wp2_with fail
          clear c0 c1 c2 c3
          obtain ⟨V2, hV⟩ : ∃ V, wr.alloc (.cells #[.string C, .string D, .int .i64 X, .int .i64 Y] 30) = V := ⟨_, rfl⟩
          obtain ⟨G, hGG⟩ : ∃ G, wr.heap.size = G := ⟨_, rfl⟩
          rw [hGG] at u0 ⊢
          rw [hV] at u0 O1 r1 ⊢
          clear hV hGG
          obtain ⟨x0, x1, x2, x3, x4⟩ := id u0
          go_region_with ((go_at_call 11; refine (HGk.out _).mono ?_; rintro e w5 ⟨rfl, hb5⟩; have n5 := below_then (below_drew (Below.refl V2.heap.size V2)) (Nat.le_refl _) hb5; obtain ⟨y0, y1, y2, y3, y4⟩ := u0.below n5 x4; have O5 := O1.below n5; obtain ⟨cc, fr⟩ := O5.at k hlt))
          all_goals
            have O6 : Hid (OF (w5.setCell ⟨B, k, none⟩ (.int .i64 (M - X))) B (.slice (some ⟨B, 0, none⟩) n n) n (fun j => if j < k + 1 then dfF f T j else 0)) := Lib.hid (O5.set k (M - X) hlt (fun j hj => by
              by_cases e : j = k
              · subst e; rw [if_pos (by omega), if_pos rfl, HZ.out]; exact hdf'.out.symm
              · rw [if_neg e]
                by_cases e' : j < k
                · rw [if_pos (by omega), if_pos e']
                · rw [if_neg (by omega), if_neg e']))
            have r6 : Hid (Below w.heap.size w (w5.setCell ⟨B, k, none⟩ (.int .i64 (M - X)))) := Lib.hid ((below_then r1 (Nat.le_refl _) n5).setCell (p := ⟨B, k, none⟩) HBW.out _)
            clear O5 O1 u0 x0 x1 x2 x3 x4 y0 y1 y2 y3 y4 n5 r1 cc fr ms hb5
            go_wp2
            go_roundw
            case rel => exact ⟨k + 1, by omega, by go_num, O6.out, r6.out⟩
            case measure => simp [intOf]; omega
        · obtain rfl : n = k := by omega
          have O9 := Lib.hid (rO.congr (g := dfF f T) (fun j hj => by rw [if_pos hj]))
          have hgr := fun w hc => greatest_any (some ⟨B, 0, none⟩) n n (dfF f T) w hc (by omega) (fun i hi => HD.out i hi)
          have HGR := Lib.hid hgr
          clear rO hgr
          go_wp2_with fail
          refine (HGR.out _ (by
            intro i hi
            obtain ⟨q1, q2⟩ := O9.out.at i hi
            exact ⟨_, rfl, by have := (O9.out.lt B rfl).2; exact this, by rw [show (⟨B, 0, none⟩ : Addr).add i = ⟨B, i, none⟩ by unfold Addr.add; split <;> simp_all]; exact q1⟩)).mono ?_
          rintro e w' ⟨rfl, rfl⟩
          go_wp2
          go_ret
          exact ⟨ret_int HB.out, rb⟩
set_option maxHeartbeats 3200000 in
theorem sTime_any (v : Value) (n : Nat) (f : Nat → Usr) (T : Int) (w : World) (h : UsrsC w v n f) (hn : n ≤ 1048576) (hf : UsrSz n f) :
    Calls Try.prog 9 #[v, .int .i64 T] w fun e w' => e = .returned (.int .i64 (tmV n f T)) ∧ Below w.heap.size w w' := by
  have hv := fun w h => sCell_any v n f w h hn hf
  have ht := fun w => l8Target_any T w
  rw [target_tg] at ht
  have HI := Lib.hid h
  obtain ⟨a, cap, rfl, hm, hc⟩ := id h
  have HC := Lib.hid hc
  clear hc hm h
  cases h1 : cellB n f with
  | false =>
    have HB := Lib.hid (tmV_no (T := T) h1)
    rw [h1] at hv
    have HV := Lib.hid hv
    clear hv ht h1
    go_enter Try.func9, Try.ntmps9
    go_wp2_with fail
    refine (HV.out _ HI.out).mono ?_
    rintro e w1 ⟨rfl, b1⟩
    go_wp2
    go_ret
    exact ⟨ret_int HB.out, b1⟩
  | true =>
    rw [h1] at hv
    have HV := Lib.hid hv
    clear hv
    cases h2 : tgB T with
    | false =>
      have HB := Lib.hid (tmV_out (n := n) (f := f) h2)
      rw [h2] at ht
      have HT := Lib.hid ht
      clear ht h1 h2
      go_enter Try.func9, Try.ntmps9
      go_wp2_with fail
      refine (HV.out _ HI.out).mono ?_
      rintro e w1 ⟨rfl, b1⟩
      go_wp2_with fail
      refine (HT.out _).mono ?_
      rintro e w' ⟨rfl, rfl⟩
      go_wp2
      go_ret
      exact ⟨ret_int HB.out, b1⟩
    | true =>
      have HB := Lib.hid (tmV_yes h1 h2)
      have HD := Lib.hid (fun k hk => dfF_bd (k := k) h1 h2 hk)
      obtain ⟨t0, t1⟩ := (tg_iff T).1 h2
      have HS := Lib.hid (fun k (hk : k < n) => (stnB_iff _ _ _ _).1 (cell_at h1 hk))
      have HG := Lib.hid (fun k (hk : k < n) w => l8Goal_any (f k).code (f k).data (f k).gain (f k).delay T w t0 t1 (HS.out k hk).2.2.2.2.1 (HS.out k hk).2.2.2.2.2)
      have HM := Lib.hid (fun k (hk : k ≤ n) => mxA_bd (g := dfF f T) (M := 1000) (by omega) k (fun i hi => HD.out i (by omega)))
      have HL := Lib.hid (fun k => mxA_le 0 (dfF f T) k)
      rw [h2] at ht
      have HT := Lib.hid ht
      clear ht h1 h2
      go_enter Try.func9, Try.ntmps9
      go_wp2_with fail
      refine (HV.out _ HI.out).mono ?_
      rintro e w1 ⟨rfl, b1⟩
      go_wp2_with fail
      refine (HT.out _).mono ?_
      rintro e w' ⟨rfl, rfl⟩
      go_wp2
      go_loopw [6, 5] (fun i m wr => ∃ k : Nat, k ≤ n ∧ i = .int .i64 k ∧ m = .int .i64 (mxA 0 (dfF f T) k) ∧ Below w.heap.size w wr) (fun i _ _ => n - (intOf i).toNat)
      case atStart => exact ⟨0, by omega, rfl, rfl, b1⟩
      case round =>
        obtain ⟨k, hk, rfl, rfl, rb⟩ := hrel
        clear b1
        by_cases hlt : k < n
        · obtain ⟨b, o, rfl, hx, hcc⟩ := HC.out k hlt
          obtain ⟨c0, c1, c2, c3⟩ := hcc.below rb hx
          have i0 : (0 : Int) ≤ (k : Int) := by omega
          have i1 : (k : Int) < (n : Int) := by omega
          have hg := HG.out k hlt
          obtain ⟨-, -, g0, g1, e0, e1⟩ := HS.out k hlt
          obtain ⟨m0, m1⟩ := mul_goal t0 t1 e0 e1
          have a1 := HM.out k hk
          have a0 := HL.out k
          have hstep : mxA 0 (dfF f T) (k + 1) = max (mxA 0 (dfF f T) k) (abI (T * (f k).delay - (f k).gain)) := rfl
          obtain ⟨C, hC⟩ : ∃ C, (f k).code = C := ⟨_, rfl⟩
          obtain ⟨D, hDD⟩ : ∃ C, (f k).data = C := ⟨_, rfl⟩
          obtain ⟨X, hX⟩ : ∃ C, (f k).gain = C := ⟨_, rfl⟩
          obtain ⟨Y, hYY⟩ : ∃ C, (f k).delay = C := ⟨_, rfl⟩
          rw [hC, hDD, hX, hYY] at hg
          rw [hX, hYY] at hstep
          rw [hX] at g0 g1
          rw [hYY] at e0 e1 m0 m1
          rw [hC] at c0
          rw [hDD] at c1
          rw [hX] at c2
          rw [hYY] at c3
          obtain ⟨M, hM⟩ : ∃ M, T * Y = M := ⟨_, rfl⟩
          rw [hM] at hg hstep m0 m1
          obtain ⟨A, hA⟩ : ∃ A, mxA 0 (dfF f T) k = A := ⟨_, rfl⟩
          rw [hA] at hstep a0 a1 ⊢
          have HGk := Lib.hid hg
          have HSt := Lib.hid hstep
          have ms : IntKind.i64.wrap (X - M) = X - M := IntWalk.i64_in _ (by omega)
          clear hg hC hDD hX hYY hM hA hstep hcc
          have r0 := Below.refl wr.heap.size wr
          go_wp2_with fail
          go_region_held3 (fun wx => Below wr.heap.size wr wx ∧ wx.cell? ⟨b, o + k * 4, none⟩ = some (.string C) ∧ wx.cell? ⟨b, o + k * 4 + 1, none⟩ = some (.string D) ∧ wx.cell? ⟨b, o + k * 4 + 2, none⟩ = some (.int .i64 X) ∧ wx.cell? ⟨b, o + k * 4 + 3, none⟩ = some (.int .i64 Y)) (first | exact ⟨n5, y0, y1, y2, y3⟩ | exact ⟨r0.drew, c0, c1, c2, c3⟩) (first | (go_at_call 28; refine (HGk.out _).mono ?_; rintro e w5 ⟨rfl, hb5⟩; have n5 := below_then r0.drew (Nat.le_refl _) hb5; have hbw : b < wr.heap.size := Nat.lt_of_lt_of_le hx rb.size; have y0 := (n5.cell (p := ⟨b, o + k * 4, none⟩) hbw).trans c0; have y1 := (n5.cell (p := ⟨b, o + k * 4 + 1, none⟩) hbw).trans c1; have y2 := (n5.cell (p := ⟨b, o + k * 4 + 2, none⟩) hbw).trans c2; have y3 := (n5.cell (p := ⟨b, o + k * 4 + 3, none⟩) hbw).trans c3))
          all_goals
            have r6 := Lib.hid (below_then rb (Nat.le_refl _) n5)
            clear c0 c1 c2 c3 y0 y1 y2 y3 n5 r0 hb5 hbw rb ms
            have HS2 : Hid (mxA 0 (dfF f T) (k + 1) = max A (max (X - M) (-(X - M)))) := Lib.hid (by rw [HSt.out]; unfold abI; congr 1; omega)
            go_wp2
            all_goals
              go_roundw
              case rel => exact ⟨k + 1, by omega, by go_num, by rw [HS2.out]; first | rfl | (congr 1; omega), r6.out⟩
              case measure => simp [intOf]; omega
        · obtain rfl : n = k := by omega
          go_wp2
          go_ret
          exact ⟨ret_int HB.out, rb⟩
end Go.Proofs.Ytjnipbopimpggab
