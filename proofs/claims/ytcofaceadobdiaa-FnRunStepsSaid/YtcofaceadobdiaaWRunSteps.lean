/- The walk of the law FnRunSteps. -/
import Derived.Test.YtcofaceadobdiaaDrawRun
import Derived.Test.YtcofaceadobdiaaRunBoth
import Derived.Test.YtcofaceadobdiaaRegStep
import Derived.Test.YtcofaceadobdiaaSeqFun
import Derived.Test.YtcofaceadobdiaaRegSet
import Derived.Deep.RegionHeld3
namespace Go.Proofs.Ytcofaceadobdiaa
open Go.RowKit
set_option linter.unusedVariables false
theorem steps_plus (s t : Nat) (k x : Nat) : ∀ i, stepsN s t i (stepsN s t k x) = stepsN s t (k + i) x
  | 0 => rfl
  | i + 1 => by rw [stepsN, steps_plus s t k x i]; rfl
theorem run_tail (s t x n k : Nat) (hk : k ≤ n) : runS s t (stepsN s t k x) (n - k) = (runS s t x n).extract k n := by
  have hs : ((runS s t x n).extract k n).size = n - k := size_extract _ _ _ (by rw [runS_size]; exact Nat.le_refl _)
  refine ba_ext (by rw [runS_size, hs]) fun i hi => ?_
  rw [runS_size] at hi
  rw [zb_extract _ _ _ _ (by rw [runS_size]; exact Nat.le_refl _) (by omega)]
  have h1 : zb (runS s t (stepsN s t k x) (n - k)) i = 48 + stepsN s t i (stepsN s t k x) % 2 := zb_strF hi (by omega)
  have h2 : zb (runS s t x n) (k + i) = 48 + stepsN s t (k + i) x % 2 := zb_strF (by omega) (by omega)
  rw [h1, h2, steps_plus]
set_option maxRecDepth 100000 in
theorem ssRun_any (s t x n : Nat) (w : World) (h : RegN s t x) (hn : n ≤ 600) :
    Calls Try.prog 47 #[.agg #[.int .i64 s, .int .i64 t, .int .i64 x], .int .i64 n] w fun e w' => e = .returned (.string (runS s t x n)) ∧ Below w.heap.size w w' := by
  have HR := Lib.hid (fun w => iRun_yes s t x n w h hn)
  obtain ⟨Y, hY⟩ : ∃ Y, runS s t x n = Y := ⟨_, rfl⟩
  rw [hY] at HR ⊢
  clear hY
  go_enter Try.func47, Try.ntmps47
  go_wp2_with fail
  refine (HR.out _).mono ?_
  rintro e w1 ⟨rfl, hb1⟩
  have b1 := below_then ((Below.refl w.heap.size w).alloc (Nat.le_refl _) (.cells #[.int .i64 s, .int .i64 t, .int .i64 x] 26)) (Nat.le_refl _) hb1
  go_wp2
  go_ret
  exact ⟨rfl, b1⟩
set_option maxRecDepth 100000 in
theorem stepR_yes (s t x : Nat) (w : World) (h : RegN s t x) :
    Calls Try.prog 50 #[.agg #[.int .i64 s, .int .i64 t, .int .i64 x]] w fun e w' => e = .returned (.tuple #[.agg #[.int .i64 s, .int .i64 t, .int .i64 (stepN s t x : Nat)], .bool true]) ∧ Below w.heap.size w w' := by
  have HJ : Hid (∀ w, Calls Try.prog 49 #[.agg #[.int .i64 s, .int .i64 t, .int .i64 x], .int .i64 1] w fun e w' => e = .returned (.tuple #[.agg #[.int .i64 s, .int .i64 t, .int .i64 (stepN s t x : Nat)], .bool true]) ∧ Below w.heap.size w w') := Lib.hid (fun w => iJump_forth s t x 1 w h (by omega))
  have r0 := RegAt.new (w.alloc (.cells #[.int .i64 s, .int .i64 t, .int .i64 x] 26)) 26 0 0 0
  have f0 : ∀ o, ((w.alloc (.cells #[.int .i64 s, .int .i64 t, .int .i64 x] 26)).alloc (.cells #[.int .i64 0, .int .i64 0, .int .i64 0] 26)).frozen? ⟨(w.alloc (.cells #[.int .i64 s, .int .i64 t, .int .i64 x] 26)).heap.size, o, none⟩ = false := fun o => by simp
  have s1 : (w.alloc (.cells #[.int .i64 s, .int .i64 t, .int .i64 x] 26)).heap.size = w.heap.size + 1 := by simp
  rw [s1] at r0 f0
  have b0 : Below w.heap.size w ((w.alloc (.cells #[.int .i64 s, .int .i64 t, .int .i64 x] 26)).alloc (.cells #[.int .i64 0, .int .i64 0, .int .i64 0] 26)) := ((Below.refl _ w).alloc (Nat.le_refl _) _).alloc (by simp) _
  have HF := Lib.hid f0
  clear f0 s1
  go_enter Try.func50, Try.ntmps50
  go_wp2_with fail
  refine (HJ.out _).mono ?_
  rintro e w2 ⟨rfl, hb2⟩
  have b2 := below_then b0 (Nat.le_refl _) hb2
  have g0 := (hb2.frozen (p := ⟨w.heap.size + 1, 0, none⟩) r0.2.2.2).trans (HF.out 0)
  have g1 := (hb2.frozen (p := ⟨w.heap.size + 1, 1, none⟩) r0.2.2.2).trans (HF.out 1)
  have g2 := (hb2.frozen (p := ⟨w.heap.size + 1, 2, none⟩) r0.2.2.2).trans (HF.out 2)
  obtain ⟨d0, d1, d2, dl⟩ := r0.below hb2 r0.2.2.2
  clear hb2 r0 b0 HF HJ
  go_wp2
  refine bodyPost_ret (v := .tuple #[.agg #[.int .i64 s, .int .i64 t, .int .i64 (stepN s t x : Nat)], .bool true]) (by simp [results, Try.results50, go_sem, d0, d1, d2]) rfl ⟨rfl, ?_⟩
  exact ((b2.setCell (p := ⟨w.heap.size + 1, 0, none⟩) (by show w.heap.size ≤ w.heap.size + 1; omega) _).setCell (p := ⟨w.heap.size + 1, 1, none⟩) (by show w.heap.size ≤ w.heap.size + 1; omega) _).setCell (p := ⟨w.heap.size + 1, 2, none⟩) (by show w.heap.size ≤ w.heap.size + 1; omega) _
set_option maxHeartbeats 1600000 in
set_option maxRecDepth 100000 in
theorem fnRunSteps_walk (a0 : Option Addr) (len0 cap0 : Nat) (z0 : List Int) (a1 : Option Addr) (len1 cap1 : Nat) (z1 : List Int) (w : World) (w0 : IsBytes w a0 len0 cap0 z0) (_ : IsBytes w a1 len1 cap1 z1) :
    Calls Try.prog 14 #[.slice a0 len0 cap0, .slice a1 len1 cap1] w fun e w' => e = .returned (.bool true) ∧ Below w.heap.size w w' := by
  by_cases hl : 1048576 < len0
  · go_enter Try.func14, Try.ntmps14
    go_wp2
    go_ret
    exact ⟨rfl, Below.refl _ _⟩
  · by_cases hl1 : 1048576 < len1
    · go_enter Try.func14, Try.ntmps14
      go_wp2
      go_ret
      exact ⟨rfl, Below.refl _ _⟩
    · go_enter Try.func14, Try.ntmps14
      go_wp2_with fail
      refine (drawRun_any a0 len0 cap0 z0 _ w0).mono ?_
      rintro e W1 ⟨S, T, X, K, rfl, _, _, _, _, b1⟩
      clear w0
      have hs := fun w => sRun_any S T X K w
      have hi := fun w => iRun_any S T X K w
      have rW := RegAt.new W1 26 S T X
      have b1x := b1.alloc b1.size (.cells #[.int .i64 S, .int .i64 T, .int .i64 X] 26)
      by_cases hok : regB S T X = true ∧ 0 ≤ K ∧ K ≤ 600
      · obtain ⟨s, t, x, rfl, rfl, rfl, h⟩ := RegN.of hok.1
        obtain ⟨n, rfl⟩ : ∃ n : Nat, K = n := ⟨K.toNat, by omega⟩
        rw [runAns_yes h (by omega)] at hs hi
        have hn6 : n ≤ 600 := by omega
        have hsz : (runS s t x n).size = n := runS_size _ _ _ _
        have HZB : Hid (∀ i, i < n → zb (runS s t x n) i = 48 + stepsN s t i x % 2) := Lib.hid (fun i hi => zb_strF hi (by omega))
        have HTL := Lib.hid (fun k hk => run_tail s t x n k hk)
        obtain ⟨Y, hY⟩ : ∃ Y, runS s t x n = Y := ⟨_, rfl⟩
        rw [hY] at hs hi hsz HZB HTL
        have HS := Lib.hid hs
        have HI := Lib.hid hi
        clear hs hi hY hok
        go_wp2_with fail
        refine (HI.out _).mono ?_
        rintro e w2 ⟨rfl, hb2⟩
        have b2 := below_then b1x (Nat.le_refl _) hb2
        have r2 := rW.below hb2 rW.2.2.2
        obtain ⟨m0, m1, m2, ml⟩ := id r2
        clear hb2 b1 b1x rW
        go_wp2_with fail
        refine (HS.out _).mono ?_
        rintro e w3 ⟨rfl, hb3⟩
        have b3 := below_then b2 (Nat.le_refl _) hb3
        have r3 := r2.below hb3 r2.2.2.2
        clear m0 m1 m2 ml hb3 b2 r2 HI HS
        by_cases h60 : n ≤ 60
        · have l60 : ¬ ((60 : Int) < (n : Int)) := by omega
          obtain ⟨k, hk⟩ : ∃ k, len1 % (n + 1) = k := ⟨_, rfl⟩
          have hkn : k ≤ n := by have := Nat.mod_lt len1 (show 0 < n + 1 by omega); omega
          have hmod : (len1 : Int).tmod ((n : Int) + 1) = (k : Int) := by
            rw [show (n : Int) + 1 = ((n + 1 : Nat) : Int) by omega, ← Int.ofNat_tmod, hk]
          have hd0 : ((n : Int) + 1 == 0) = false := by rw [beq_eq_false_iff_ne]; omega
          have hd1 : ¬ ((n : Int) + 1 = 0) := by omega
          have HJ := Lib.hid (fun w => iJump_forth s t x k w h (by omega))
          have HSR := Lib.hid (fun i w => stepR_yes s t (stepsN s t i x) w (h.steps i))
          have hss := fun w => ssRun_any s t (stepsN s t k x) (n - k) w (h.steps k) (by omega)
          rw [HTL.out k hkn, show ((n - k : Nat) : Int) = (n : Int) - (k : Int) by omega] at hss
          have HXX := Lib.hid (fun i => Nat.lt_of_lt_of_le (h.steps i).lt (tw_le s h.hi))
          obtain ⟨Xk, hXk⟩ : ∃ X, stepsN s t k x = X := ⟨_, rfl⟩
          rw [hXk] at HJ hss
          have HSS := Lib.hid hss
          obtain ⟨bA, hbA⟩ : ∃ b, W1.heap.size = b := ⟨_, rfl⟩
          rw [hbA] at r3 ⊢
          clear hk hss hXk hbA
          obtain ⟨m0, m1, m2, ml⟩ := id r3
          go_wp2_with fail
          refine (HJ.out _).mono ?_
          rintro e w4 ⟨rfl, hb4⟩
          have b4 := below_then b3 (Nat.le_refl _) hb4
          have r4 := r3.below hb4 r3.2.2.2
          clear m0 m1 m2 ml hb4 b3 r3 hmod hd0 hd1
          have q1 := RegAt.new w4 26 s t Xk
          have s1 : (w4.alloc (.cells #[.int .i64 s, .int .i64 t, .int .i64 Xk] 26)).heap.size = w4.heap.size + 1 := by simp
          have r5 := r4.below ((Below.refl _ w4).alloc (Nat.le_refl _) (.cells #[.int .i64 s, .int .i64 t, .int .i64 Xk] 26)) r4.2.2.2
          obtain ⟨m0, m1, m2, ml⟩ := id r5
          have q2 := RegAt.new (w4.alloc (.cells #[.int .i64 s, .int .i64 t, .int .i64 Xk] 26)) 26 s t x
          have f2 : ∀ o, ((w4.alloc (.cells #[.int .i64 s, .int .i64 t, .int .i64 Xk] 26)).alloc (.cells #[.int .i64 s, .int .i64 t, .int .i64 x] 26)).frozen? ⟨(w4.alloc (.cells #[.int .i64 s, .int .i64 t, .int .i64 Xk] 26)).heap.size, o, none⟩ = false := fun o => by simp
          have q1' := q1.below ((Below.refl (w4.alloc (.cells #[.int .i64 s, .int .i64 t, .int .i64 Xk] 26)).heap.size (w4.alloc (.cells #[.int .i64 s, .int .i64 t, .int .i64 Xk] 26))).alloc (Nat.le_refl _) (.cells #[.int .i64 s, .int .i64 t, .int .i64 x] 26)) (by simp)
          rw [s1] at q2 f2
          have b5 : Below w.heap.size w ((w4.alloc (.cells #[.int .i64 s, .int .i64 t, .int .i64 Xk] 26)).alloc (.cells #[.int .i64 s, .int .i64 t, .int .i64 x] 26)) := (b4.alloc b4.size _).alloc (by have := b4.size; simp; omega) _
          have hbx : w.heap.size ≤ w4.heap.size := b4.size
          have HF2 := Lib.hid f2
          clear f2 q1 r4 b4
          go_wp2
          obtain ⟨V, hV⟩ : ∃ V, (w4.alloc (.cells #[.int .i64 s, .int .i64 t, .int .i64 Xk] 26)).alloc (.cells #[.int .i64 s, .int .i64 t, .int .i64 x] 26) = V := ⟨_, rfl⟩
          rw [hV] at q2 q1' b5 HF2 ⊢
          obtain ⟨bx, hbxx⟩ : ∃ b, w4.heap.size = b := ⟨_, rfl⟩
          rw [hbxx] at q2 q1' HF2 hbx ⊢
          clear hV hbxx s1 m0 m1 m2 ml r5
          go_loopw [15] (fun c wr => ∃ i : Nat, i ≤ n ∧ c = .int .i64 i ∧ RegAt wr (bx + 1) s t (stepsN s t i x : Nat) ∧ Hid (∀ o, wr.frozen? ⟨bx + 1, o, none⟩ = false) ∧ RegAt wr bx s t Xk ∧ Below w.heap.size w wr) (fun c _ => n - (intOf c).toNat)
          case atStart => exact ⟨0, by omega, rfl, q2, HF2, q1', b5⟩
          case round =>
            obtain ⟨i, hi, rfl, rY, rF, rX, rb⟩ := hrel
            by_cases hlt : i < n
            · have hiY : i < Y.size := by omega
              have hzb := HZB.out i hlt
              have hzA := zb_at Y i hiY
              have hX8 := HXX.out i
              have hSR := fun w => HSR.out i w
              have hnx : stepsN s t (i + 1) x = stepN s t (stepsN s t i x) := rfl
              obtain ⟨X, hX⟩ : ∃ X, stepsN s t i x = X := ⟨_, rfl⟩
              rw [hX] at hzb hX8 hSR hnx rY
              obtain ⟨X2, hX2⟩ : ∃ X2, stepN s t X = X2 := ⟨_, rfl⟩
              rw [hX2] at hSR hnx
              have HNX := Lib.hid hnx
              have HSRR := Lib.hid hSR
              obtain ⟨P, hP⟩ : ∃ P, X % 2 = P := ⟨_, rfl⟩
              rw [hP] at hzb
              have hP2 : P < 2 := by omega
              have hm2 : (X : Int).tmod 2 = (P : Int) := by rw [show (2 : Int) = ((2 : Nat) : Int) from rfl, ← Int.ofNat_tmod, hP]
              have hsub : ((Y[i].toNat : Nat) : Int) - 48 = (P : Int) := by rw [hzA, hzb]; omega
              have hw1 : IntKind.i64.wrap (((Y[i].toNat : Nat) : Int) - 48) = (P : Int) := by rw [hsub]; exact IntWalk.i64_in _ (by omega)
              have hw2 : IntKind.i64.wrap ((X : Int).tmod 2) = (P : Int) := by rw [hm2]; exact IntWalk.i64_in _ (by omega)
              have i0 : (0 : Int) ≤ (i : Int) := by omega
              have i1 : (i : Int) < (n : Int) := by omega
              obtain ⟨c0, c1, c2, cl⟩ := id rY
              clear hzb hzA hX8 hSR hnx hX hX2 hP
              go_wp2_with fail
              go_quiet (fail)
              have rY1 := rY.below (below_drewN (Below.refl wr.heap.size wr) nq) rY.2.2.2
              have rX1 := rX.below (below_drewN (Below.refl wr.heap.size wr) nq) rX.2.2.2
              have rF1 : Hid (∀ o, (wr.drewN nq).frozen? ⟨bx + 1, o, none⟩ = false) := Lib.hid (fun o => ((below_drewN (Below.refl wr.heap.size wr) nq).frozen (p := ⟨bx + 1, o, none⟩) rY.2.2.2).trans (rF.out o))
              have rb1 := below_drewN rb nq
              obtain ⟨U, hU⟩ : ∃ U, wr.drewN nq = U := ⟨_, rfl⟩
              rw [hU] at rY1 rX1 rF1 rb1 ⊢
              clear hU rY rX rF rb c0 c1 c2 cl hw1 hw2 hm2 hsub
              obtain ⟨c0, c1, c2, cl⟩ := id rY1
              go_wp2_with fail
              refine (HSRR.out _).mono ?_
              rintro e w5 ⟨rfl, hb5⟩
              have b6 := below_then rb1 (Nat.le_refl _) hb5
              have rY2 := rY1.below hb5 rY1.2.2.2
              have rX2 := rX1.below hb5 rX1.2.2.2
              have g0 := (hb5.frozen (p := ⟨bx + 1, 0, none⟩) rY1.2.2.2).trans (rF1.out 0)
              have g1 := (hb5.frozen (p := ⟨bx + 1, 1, none⟩) rY1.2.2.2).trans (rF1.out 1)
              have g2 := (hb5.frozen (p := ⟨bx + 1, 2, none⟩) rY1.2.2.2).trans (rF1.out 2)
              have rF2 : Hid (∀ o, w5.frozen? ⟨bx + 1, o, none⟩ = false) := Lib.hid (fun o => (hb5.frozen (p := ⟨bx + 1, o, none⟩) rY1.2.2.2).trans (rF1.out o))
              obtain ⟨sA, sF, sG⟩ := rY2.set3 s t X2
              have sX := Lib.hid (rX2.kept sG (by simp))
              have sB := Lib.hid (((b6.setCell (p := ⟨bx + 1, 0, none⟩) (by show w.heap.size ≤ bx + 1; omega) (.int .i64 s)).setCell (p := ⟨bx + 1, 1, none⟩) (by show w.heap.size ≤ bx + 1; omega) (.int .i64 t)).setCell (p := ⟨bx + 1, 2, none⟩) (by show w.heap.size ≤ bx + 1; omega) (.int .i64 X2))
              have SA := Lib.hid sA
              have SF := Lib.hid sF
              clear c0 c1 c2 cl hb5 rY1 rX1 rF1 rb1 sA sF sG rX2 b6
              obtain ⟨d0, d1, d2, dl⟩ := id rY2
              clear rY2
              go_wp2
              go_roundw
              case rel => exact ⟨i + 1, by omega, by go_num, by rw [HNX.out]; exact SA.out, Lib.hid (fun o => (SF.out _).trans (rF2.out o)), sX.out, sB.out⟩
              case measure => simp [intOf]; omega
            · obtain rfl : i = n := by omega
              have hkI : (k : Int) ≤ (i : Int) := by omega
              have hk0 : (0 : Int) ≤ (k : Int) := by omega
              have hw3 : IntKind.i64.wrap ((i : Int) - (k : Int)) = (i : Int) - (k : Int) := IntWalk.i64_in _ (by omega)
              obtain ⟨c0, c1, c2, cl⟩ := id rX
              have r0 := Below.refl wr.heap.size wr
              clear rY rF
              go_wp2_with fail
              go_region_held3 (fun wx => Below wr.heap.size wr wx ∧ wx.cell? ⟨bx, 0, none⟩ = some (.int .i64 s) ∧ wx.cell? ⟨bx, 1, none⟩ = some (.int .i64 t) ∧ wx.cell? ⟨bx, 2, none⟩ = some (.int .i64 Xk)) (first | exact ⟨c50, c51, c52, c53⟩ | exact ⟨r0.drew, c0, c1, c2⟩) (first | (go_at_call 47; refine (HSS.out _).mono ?_; rintro e w5 ⟨rfl, hB⟩; have c50 := below_then r0.drew (Nat.le_refl _) hB; have c51 : w5.cell? ⟨bx, 0, none⟩ = some (.int .i64 s) := (c50.cell (p := ⟨bx, 0, none⟩) cl).trans c0; have c52 : w5.cell? ⟨bx, 1, none⟩ = some (.int .i64 t) := (c50.cell (p := ⟨bx, 1, none⟩) cl).trans c1; have c53 : w5.cell? ⟨bx, 2, none⟩ = some (.int .i64 Xk) := (c50.cell (p := ⟨bx, 2, none⟩) cl).trans c2))
              all_goals
                have bz := below_then rb (Nat.le_refl _) c50
                go_wp2
                go_ret
                exact ⟨rfl, bz⟩
        · have l60 : (60 : Int) < (n : Int) := by omega
          go_wp2
          go_ret
          exact ⟨rfl, b3⟩
      · rw [runAns_no hok] at hs hi
        unfold noS at hs hi
        have HS := Lib.hid hs
        have HI := Lib.hid hi
        clear hs hi hok
        go_wp2_with fail
        refine (HI.out _).mono ?_
        rintro e w2 ⟨rfl, hb2⟩
        have b2 := below_then b1x (Nat.le_refl _) hb2
        obtain ⟨m0, m1, m2, ml⟩ := rW.below hb2 rW.2.2.2
        clear hb2 b1 b1x rW
        go_wp2_with fail
        refine (HS.out _).mono ?_
        rintro e w3 ⟨rfl, hb3⟩
        have b3 := below_then b2 (Nat.le_refl _) hb3
        clear m0 m1 m2 ml hb3 b2
        go_wp2
        go_ret
        exact ⟨rfl, b3⟩
end Go.Proofs.Ytcofaceadobdiaa
