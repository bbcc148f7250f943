/- The walk of the law FnClip. -/
import Derived.Test.YtlcnlhephhbhcaaDrawSig2
import Derived.Test.YtlcnlhephhbhcaaSeqAlg3
import Derived.Test.YtlcnlhephhbhcaaSigMath
namespace Go.Proofs.Ytlcnlhephhbhcaa
open Go.RowKit
set_option linter.unusedVariables false
set_option maxHeartbeats 3200000 in
set_option maxRecDepth 100000 in
theorem fnClip_walk (a0 : Option Addr) (len0 cap0 : Nat) (z0 : List Int) (w : World) (w0 : IsBytes w a0 len0 cap0 z0) :
    Calls Try.prog 12 #[.slice a0 len0 cap0] w fun e w' => e = .returned (.bool true) ∧ Below w.heap.size w w' := by
  by_cases hl0 : 1048576 < len0
  · go_enter Try.func12, Try.ntmps12
    go_wp2
    go_ret
    exact ⟨rfl, Below.refl _ _⟩
  go_enter Try.func12, Try.ntmps12
  go_wp2_with fail
  refine (drawClipSig_any a0 len0 cap0 z0 _ w0).mono ?_
  rintro e W1 ⟨v, n, f, k, rfl, O0, hn, hf, hk, bc⟩
  clear w0
  obtain ⟨sa, sc, rfl, -⟩ := O0.form
  clear hf hk
  have hi := fun w h => iClip_any (.slice sa n sc) n f k w h (by omega)
  have hs := fun w h => sClip_any (.slice sa n sc) n f k w h (by omega)
  cases hv : clOK n f k with
  | false =>
    rw [hv, show clN n f k = 0 by unfold clN; rw [hv]; rfl] at hi hs
    clear hv
    have HI := Lib.hid hi
    have HS := Lib.hid hs
    clear hi hs
    go_wp2_with fail
    refine (HI.out _ O0.ints).mono ?_
    rintro e w101 ⟨v1, rfl, O103, hb102⟩
    have O104 := O0.below hb102
    clear O0
    have b105 := below_then bc (Nat.le_refl _) hb102
    clear bc
    have bc := b105
    clear b105 hb102
    go_wp2_with fail
    refine (HS.out _ O104.ints).mono ?_
    rintro e w106 ⟨v2, rfl, O108, hb107⟩
    have O109 := O104.below hb107
    clear O104
    have O110 := O103.below hb107
    clear O103
    have b111 := below_then bc (Nat.le_refl _) hb107
    clear bc
    have bc := b111
    clear b111 hb107
    go_wp2_with fail
    refine (ssInts_same _ _ _ _ 0 _ _ O110 O108 (by omega)).mono ?_
    rintro e w' ⟨rfl, m112, rfl⟩
    have O114 := O109.drewN m112
    clear O109
    have O115 := O110.drewN m112
    clear O110
    have O116 := O108.drewN m112
    clear O108
    have bd := below_drewN bc m112
    clear bc
    have bc := bd
    clear bd
    obtain ⟨w113, hW⟩ : ∃ W, w106.drewN m112 = W := ⟨_, rfl⟩
    rw [hW] at O114 O115 O116 bc ⊢
    clear hW
    go_wp2_with fail
    refine (ssInts_same _ _ _ _ 0 _ _ O115 O116 (by omega)).mono ?_
    rintro e w' ⟨rfl, m117, rfl⟩
    have O119 := O114.drewN m117
    clear O114
    have O120 := O115.drewN m117
    clear O115
    have O121 := O116.drewN m117
    clear O116
    have bd := below_drewN bc m117
    clear bc
    have bc := bd
    clear bd
    obtain ⟨w118, hW⟩ : ∃ W, w113.drewN m117 = W := ⟨_, rfl⟩
    rw [hW] at O119 O120 O121 bc ⊢
    clear hW
    go_wp2
    go_ret
    exact ⟨rfl, bc⟩
  | true =>
    rw [hv, show clN n f k = n by unfold clN; rw [hv]; rfl] at hi hs
    unfold clOK at hv
    simp only [Bool.and_eq_true] at hv
    obtain ⟨h1, h2⟩ := hv
    have hkb := (inL_iff k).1 h2
    obtain ⟨k1, k2⟩ := hkb
    have hA := fun u w h => iClip_any u n (clF k f) k w h (by omega)
    rw [(cl_in (cl_sig h1 k1 k2) h2).1, (cl_in (cl_sig h1 k1 k2) h2).2, cl_cl f k k1] at hA
    have HL := Lib.hid (fun i => (show clF k f i = max (-k) (min k (f i)) from rfl))
    obtain ⟨G, hG⟩ : ∃ G, clF k f = G := ⟨_, rfl⟩
    rw [hG] at hi hs hA HL
    clear hG h1 h2
    have HI := Lib.hid hi
    have HS := Lib.hid hs
    have HA := Lib.hid hA
    clear hi hs hA
    go_wp2_with fail
    refine (HI.out _ O0.ints).mono ?_
    rintro e w101 ⟨v1, rfl, O103, hb102⟩
    have O104 := O0.below hb102
    clear O0
    have b105 := below_then bc (Nat.le_refl _) hb102
    clear bc
    have bc := b105
    clear b105 hb102
    obtain ⟨sa106, sc106, rfl, -⟩ := O103.form
    go_wp2_with fail
    refine (HS.out _ O104.ints).mono ?_
    rintro e w107 ⟨v2, rfl, O109, hb108⟩
    have O110 := O104.below hb108
    clear O104
    have O111 := O103.below hb108
    clear O103
    have b112 := below_then bc (Nat.le_refl _) hb108
    clear bc
    have bc := b112
    clear b112 hb108
    go_wp2_with fail
    refine (ssInts_same _ _ _ _ n _ _ O111 O109 (by omega)).mono ?_
    rintro e w' ⟨rfl, m113, rfl⟩
    have O115 := O110.drewN m113
    clear O110
    have O116 := O111.drewN m113
    clear O111
    have O117 := O109.drewN m113
    clear O109
    have bd := below_drewN bc m113
    clear bc
    have bc := bd
    clear bd
    obtain ⟨w114, hW⟩ : ∃ W, w107.drewN m113 = W := ⟨_, rfl⟩
    rw [hW] at O115 O116 O117 bc ⊢
    clear hW
    clear O117
    go_wp2_with fail
    refine (HA.out _ _ O116.ints).mono ?_
    rintro e w118 ⟨v3, rfl, O120, hb119⟩
    have O121 := O115.below hb119
    clear O115
    have O122 := O116.below hb119
    clear O116
    have b123 := below_then bc (Nat.le_refl _) hb119
    clear bc
    have bc := b123
    clear b123 hb119
    go_wp2_with fail
    have C1 := Lib.hid O121.ints.cells
    have C2 := Lib.hid O122.ints.cells
    go_loopw [11] (fun i wr => ∃ j m : Nat, j ≤ n ∧ i = .int .i64 j ∧ wr = w118.drewN m) (fun i _ => n - (intOf i).toNat)
    case atStart => exact ⟨0, 0, by omega, rfl, rfl⟩
    case round =>
      obtain ⟨j, m, hj, rfl, rfl⟩ := hrel
      by_cases hlt : j < n
      · skip
        have i0 : (0 : Int) ≤ (j : Int) := by omega
        have i1 : (j : Int) < (n : Int) := by omega
        obtain ⟨x1, rfl, -, c1⟩ := C1.out j hlt
        obtain ⟨x2, rfl, -, c2⟩ := C2.out j hlt
        have c1 : (w118.drewN m).cell? (x1.add j) = some (.int .i64 (f j)) := c1
        have c2 : (w118.drewN m).cell? (x2.add j) = some (.int .i64 (G j)) := c2
        have hL := HL.out j
        obtain ⟨x, hx⟩ : ∃ x, f j = x := ⟨_, rfl⟩
        obtain ⟨y, hy⟩ : ∃ x, G j = x := ⟨_, rfl⟩
        rw [hx] at c1 hL
        rw [hy] at c2 hL
        clear hx hy
        obtain ⟨W, hW⟩ : ∃ W, w118.drewN m = W := ⟨_, rfl⟩
        rw [hW] at c1 c2 ⊢
        have HW := Lib.hid hW
        clear hW
        have hng : IntKind.i64.wrap (-k) = -k := IntWalk.i64_in _ (by omega)
        by_cases q : -k ≤ x ∧ x ≤ k
        · skip
          obtain rfl : x = y := by omega
          clear hL
          have t0 : decide (x ≤ k) = true := by simp only [decide_eq_true_eq]; omega
          have t1 : decide (-k ≤ x) = true := by simp only [decide_eq_true_eq]; omega
          have t2 : decide (k < x) = false := by simp only [decide_eq_false_iff_not]; omega
          have t3 : decide (x < -k) = false := by simp only [decide_eq_false_iff_not]; omega
          clear q
          go_wp2_with fail
          go_quiet (fail)
          clear c1 c2 t0 t1 t2 t3 hng
          go_wp2
          go_roundw
          case rel => exact ⟨j + 1, m + nq, by omega, by go_num, by rw [← HW.out, World.drewN_drewN]⟩
          case measure => simp [intOf]; omega
        skip
        by_cases q : k < x
        · skip
          obtain rfl : k = y := by omega
          clear hL
          have t0 : decide (x ≤ k) = false := by simp only [decide_eq_false_iff_not]; omega
          have t1 : decide (-k ≤ x) = true := by simp only [decide_eq_true_eq]; omega
          have t2 : decide (k < x) = true := by simp only [decide_eq_true_eq]; omega
          have t3 : decide (x < -k) = false := by simp only [decide_eq_false_iff_not]; omega
          clear q
          go_wp2_with fail
          go_quiet (fail)
          clear c1 c2 t0 t1 t2 t3 hng
          go_wp2
          go_roundw
          case rel => exact ⟨j + 1, m + nq, by omega, by go_num, by rw [← HW.out, World.drewN_drewN]⟩
          case measure => simp [intOf]; omega
        skip
        by_cases q : x < -k
        · skip
          obtain rfl : (-k) = y := by omega
          clear hL
          have t0 : decide (x ≤ k) = true := by simp only [decide_eq_true_eq]; omega
          have t1 : decide (-k ≤ x) = false := by simp only [decide_eq_false_iff_not]; omega
          have t2 : decide (k < x) = false := by simp only [decide_eq_false_iff_not]; omega
          have t3 : decide (x < -k) = true := by simp only [decide_eq_true_eq]; omega
          clear q
          go_wp2_with fail
          go_quiet (fail)
          clear c1 c2 t0 t1 t2 t3 hng
          go_wp2
          go_roundw
          case rel => exact ⟨j + 1, m + nq, by omega, by go_num, by rw [← HW.out, World.drewN_drewN]⟩
          case measure => simp [intOf]; omega
        skip
        omega
      · skip
        obtain rfl : n = j := by omega
        have O324 := O121.drewN m
        clear O121
        have O325 := O122.drewN m
        clear O122
        have O326 := O120.drewN m
        clear O120
        have bd := below_drewN bc m
        clear bc
        have bc := bd
        clear bd
        obtain ⟨w327, hW⟩ : ∃ W, w118.drewN m = W := ⟨_, rfl⟩
        rw [hW] at O324 O325 O326 bc ⊢
        clear hW
        clear C1 C2
        go_wp2_with fail
        refine (ssInts_same _ _ _ _ n _ _ O326 O325 (by omega)).mono ?_
        rintro e w' ⟨rfl, m328, rfl⟩
        have O330 := O324.drewN m328
        clear O324
        have O331 := O325.drewN m328
        clear O325
        have O332 := O326.drewN m328
        clear O326
        have bd := below_drewN bc m328
        clear bc
        have bc := bd
        clear bd
        obtain ⟨w329, hW⟩ : ∃ W, w327.drewN m328 = W := ⟨_, rfl⟩
        rw [hW] at O330 O331 O332 bc ⊢
        clear hW
        go_wp2
        go_ret
        exact ⟨rfl, bc⟩
end Go.Proofs.Ytlcnlhephhbhcaa
