/- The walk of the law FnTreeConflict. -/
import Derived.Test.YtgfehabpoebaoaaDrawTX
import Derived.Test.YtgfehabpoebaoaaConfUse
namespace Go.Proofs.Ytgfehabpoebaoaa
open Go.RowKit
set_option linter.unusedVariables false
set_option maxHeartbeats 1600000 in
set_option maxRecDepth 100000 in
theorem fnTreeConflict_walk (a0 : Option Addr) (len0 cap0 : Nat) (z0 : List Int) (w : World) (w0 : IsBytes w a0 len0 cap0 z0) :
    Calls Try.prog 6 #[.slice a0 len0 cap0] w fun e w' => e = .returned (.bool true) ∧ Below w.heap.size w w' := by
  by_cases hl0 : 1048576 < len0
  · go_enter Try.func6, Try.ntmps6
    go_wp2
    go_ret
    exact ⟨rfl, Below.refl _ _⟩
  go_enter Try.func6, Try.ntmps6
  go_wp2_with fail
  refine (drawTX_any a0 len0 cap0 z0 _ w0).mono ?_
  rintro e W1 ⟨p, q, rfl, hp, hq, bc⟩
  clear w0
  have hi := fun w => iConfB p q w (by omega) (by omega)
  have hs := fun w => sConfB p q w (by omega) (by omega)
  have hr := fun w => iConfB q p w (by omega) (by omega)
  have ha := fun w => iTree_any p w (by omega)
  have hb := fun w => iTree_any q w (by omega)
  cases hv : pathB p with
  | false =>
    rw [show confB p q = false by unfold confB; rw [hv]; rfl] at hi hs
    rw [show treeAns p = noS by unfold treeAns; rw [hv]; rfl] at ha
    obtain ⟨Y, hY⟩ : ∃ Y, treeAns q = Y := ⟨_, rfl⟩
    rw [hY] at hb
    obtain ⟨Y1, Y2⟩ := Y
    have HI := Lib.hid hi
    have HS := Lib.hid hs
    have HA := Lib.hid ha
    have HB := Lib.hid hb
    clear hi hs ha hb
    clear hv hY hr hp hq
    go_wp2_with fail
    refine (HI.out _).mono ?_
    rintro e w101 ⟨rfl, hb102⟩
    have b103 := below_then bc (Nat.le_refl _) hb102
    clear bc
    have bc := b103
    clear b103 hb102
    go_wp2_with fail
    refine (HS.out _).mono ?_
    rintro e w104 ⟨rfl, hb105⟩
    have b106 := below_then bc (Nat.le_refl _) hb105
    clear bc
    have bc := b106
    clear b106 hb105
    go_wp2_with fail
    refine (HA.out _).mono ?_
    rintro e w107 ⟨rfl, hb108⟩
    have b109 := below_then bc (Nat.le_refl _) hb108
    clear bc
    have bc := b109
    clear b109 hb108
    go_wp2_with fail
    refine (HB.out _).mono ?_
    rintro e w110 ⟨rfl, hb111⟩
    have b112 := below_then bc (Nat.le_refl _) hb111
    clear bc
    have bc := b112
    clear b112 hb111
    go_wp2
    go_ret
    exact ⟨rfl, bc⟩
  | true =>
    cases hu : pathB q with
    | false =>
      rw [show confB p q = false by unfold confB; rw [hv, hu]; rfl] at hi hs
      rw [show treeAns q = noS by unfold treeAns; rw [hu]; rfl] at hb
      rw [show treeAns p = (treeS p p.size, true) by unfold treeAns; rw [hv]; rfl] at ha
      obtain ⟨Y, hY⟩ : ∃ Y, treeS p p.size = Y := ⟨_, rfl⟩
      rw [hY] at ha
      have HI := Lib.hid hi
      have HS := Lib.hid hs
      have HA := Lib.hid ha
      have HB := Lib.hid hb
      clear hi hs ha hb
      clear hv hu hY hr hp hq
      go_wp2_with fail
      refine (HI.out _).mono ?_
      rintro e w313 ⟨rfl, hb314⟩
      have b315 := below_then bc (Nat.le_refl _) hb314
      clear bc
      have bc := b315
      clear b315 hb314
      go_wp2_with fail
      refine (HS.out _).mono ?_
      rintro e w316 ⟨rfl, hb317⟩
      have b318 := below_then bc (Nat.le_refl _) hb317
      clear bc
      have bc := b318
      clear b318 hb317
      go_wp2_with fail
      refine (HA.out _).mono ?_
      rintro e w319 ⟨rfl, hb320⟩
      have b321 := below_then bc (Nat.le_refl _) hb320
      clear bc
      have bc := b321
      clear b321 hb320
      go_wp2_with fail
      refine (HB.out _).mono ?_
      rintro e w322 ⟨rfl, hb323⟩
      have b324 := below_then bc (Nat.le_refl _) hb323
      clear bc
      have bc := b324
      clear b324 hb323
      go_wp2
      go_ret
      exact ⟨rfl, bc⟩
    | true =>
      by_cases hle : p.size ≤ q.size
      · skip
        obtain ⟨A, B, W, D, e1, e2, e3, e4, n1, n2, n3, n4, n5, n6, hK⟩ := conf_all hv hu hle
        rw [e3] at hi hs
        rw [e4] at hr
        rw [e1] at ha
        rw [e2] at hb
        have n7 : ¬ ((B.size : Int) < (A.size : Int)) := by omega
        have n8 : ¬ (B.size < A.size) := by omega
        have hKP : ∀ t, t ≤ W → t * A.size ≤ B.size := fun t ht => by rw [n3]; exact Nat.mul_le_mul_right _ ht
        have hKL : ∀ t, t ≤ W → ¬ t * A.size < B.size → t = W := fun t ht hn => by
          refine Classical.byContradiction fun h => hn ?_
          have h1 : (t + 1) * A.size ≤ W * A.size := Nat.mul_le_mul_right _ (by omega)
          rw [Nat.succ_mul, ← n3] at h1
          omega
        have hKS : ∀ t, (t + 1) * A.size = t * A.size + A.size := fun t => Nat.succ_mul _ _
        have HK := Lib.hid hK
        have HKP := Lib.hid hKP
        have HKL := Lib.hid hKL
        have HKS := Lib.hid hKS
        have HN3 := Lib.hid n3
        have HN6 := Lib.hid n6
        clear e1 e2 e3 e4 hK hKP hKL hKS n3 n6 hv hu hle hp hq
        have HI := Lib.hid hi
        have HS := Lib.hid hs
        have HR := Lib.hid hr
        have HA := Lib.hid ha
        have HB := Lib.hid hb
        clear hi hs hr ha hb
        cases D with
        | false =>
          have HKD := Lib.hid (fun t (ht : t < W) => HK.out t ht)
          clear HK
          go_wp2_with fail
          refine (HI.out _).mono ?_
          rintro e w625 ⟨rfl, hb626⟩
          have b627 := below_then bc (Nat.le_refl _) hb626
          clear bc
          have bc := b627
          clear b627 hb626
          go_wp2_with fail
          refine (HS.out _).mono ?_
          rintro e w628 ⟨rfl, hb629⟩
          have b630 := below_then bc (Nat.le_refl _) hb629
          clear bc
          have bc := b630
          clear b630 hb629
          go_wp2_with fail
          refine (HA.out _).mono ?_
          rintro e w631 ⟨rfl, hb632⟩
          have b633 := below_then bc (Nat.le_refl _) hb632
          clear bc
          have bc := b633
          clear b633 hb632
          go_wp2_with fail
          refine (HB.out _).mono ?_
          rintro e w634 ⟨rfl, hb635⟩
          have b636 := below_then bc (Nat.le_refl _) hb635
          clear bc
          have bc := b636
          clear b636 hb635
          clear HI HS HA HB
          go_wp2_with fail
          go_loopw [10, 11] (fun v i wr => ∃ t : Nat, t ≤ W ∧ v = .bool true ∧ i = .int .i64 ((t * A.size : Nat) : Int) ∧ Below w634.heap.size w634 wr) (fun _ i _ => B.size - (intOf i).toNat)
          case atStart => exact ⟨0, by omega, rfl, by rw [Nat.zero_mul]; rfl, Below.refl _ _⟩
          case round =>
            obtain ⟨t, ht, rfl, rfl, rb⟩ := hrel
            by_cases hlt : t * A.size < B.size
            · skip
              have htW : t < W := Classical.byContradiction fun h => by
                obtain rfl : t = W := by omega
                have := HN3.out; omega
              obtain ⟨k1, c, k2, k3, k4⟩ := HKD.out t htW
              have k5 := HKS.out t
              obtain ⟨X, hX⟩ : ∃ X, t * A.size = X := ⟨_, rfl⟩
              rw [hX] at hlt k1 k4 k5 ⊢
              obtain ⟨Y, hY⟩ : ∃ Y, X + A.size = Y := ⟨_, rfl⟩
              rw [hY] at k1 k4 k5
              have HK5 := Lib.hid k5
              have HC := Lib.hid k4
              have y1 : (X : Int) + (A.size : Int) = (Y : Int) := by omega
              have y2 : (Y : Int) ≤ (B.size : Int) := by omega
              have y3 : (X : Int) ≤ (Y : Int) := by omega
              have y4 : (0 : Int) ≤ (X : Int) := by omega
              have y5 : (X : Int) < (B.size : Int) := by omega
              have y6 : X ≤ Y := by omega
              have HM : Hid (B.size - Y < B.size - X) := Lib.hid (by omega)
              clear k4 k5 hX hY
              have k3 := k3 (by trivial)
              subst k3
              clear k2
              go_wp2_with fail
              refine (HC.out _).mono ?_
              rintro e x1 ⟨rfl, hb1⟩
              have r1 := below_then rb (Nat.le_refl _) hb1
              clear rb hb1 HC
              go_wp2
              go_roundw
              case rel => exact ⟨t + 1, by omega, rfl, by rw [HK5.out], r1⟩
              case measure => simp [intOf]; first | omega | (have := HM.out; omega)
            · skip
              have htW := HKL.out t ht hlt
              subst htW
              have bc9 := below_then bc (Nat.le_refl _) rb
              have h3 := HN3.out
              rw [← h3] at hlt ⊢
              clear h3 bc rb ht hlt
              go_wp2_with fail
              refine (HR.out _).mono ?_
              rintro e x1 ⟨rfl, hb1⟩
              have r1 := below_then bc9 (Nat.le_refl _) hb1
              clear bc9 hb1
              go_wp2
              go_ret
              exact ⟨rfl, r1⟩
        | true =>
          have HKD := Lib.hid (fun t (ht : t < W) => HK.out t ht)
          clear HK
          go_wp2_with fail
          refine (HI.out _).mono ?_
          rintro e w1037 ⟨rfl, hb1038⟩
          have b1039 := below_then bc (Nat.le_refl _) hb1038
          clear bc
          have bc := b1039
          clear b1039 hb1038
          go_wp2_with fail
          refine (HS.out _).mono ?_
          rintro e w1040 ⟨rfl, hb1041⟩
          have b1042 := below_then bc (Nat.le_refl _) hb1041
          clear bc
          have bc := b1042
          clear b1042 hb1041
          go_wp2_with fail
          refine (HA.out _).mono ?_
          rintro e w1043 ⟨rfl, hb1044⟩
          have b1045 := below_then bc (Nat.le_refl _) hb1044
          clear bc
          have bc := b1045
          clear b1045 hb1044
          go_wp2_with fail
          refine (HB.out _).mono ?_
          rintro e w1046 ⟨rfl, hb1047⟩
          have b1048 := below_then bc (Nat.le_refl _) hb1047
          clear bc
          have bc := b1048
          clear b1048 hb1047
          clear HI HS HA HB
          go_wp2_with fail
          go_loopw [10, 11] (fun v i wr => ∃ t : Nat, t ≤ W ∧ v = .bool (decide (t = 0)) ∧ i = .int .i64 ((t * A.size : Nat) : Int) ∧ Below w1046.heap.size w1046 wr) (fun _ i _ => B.size - (intOf i).toNat)
          case atStart => exact ⟨0, by omega, rfl, by rw [Nat.zero_mul]; rfl, Below.refl _ _⟩
          case round =>
            obtain ⟨t, ht, rfl, rfl, rb⟩ := hrel
            by_cases hlt : t * A.size < B.size
            · skip
              have htW : t < W := Classical.byContradiction fun h => by
                obtain rfl : t = W := by omega
                have := HN3.out; omega
              obtain ⟨k1, c, k2, k3, k4⟩ := HKD.out t htW
              have k5 := HKS.out t
              obtain ⟨X, hX⟩ : ∃ X, t * A.size = X := ⟨_, rfl⟩
              rw [hX] at hlt k1 k4 k5 ⊢
              obtain ⟨Y, hY⟩ : ∃ Y, X + A.size = Y := ⟨_, rfl⟩
              rw [hY] at k1 k4 k5
              have HK5 := Lib.hid k5
              have HC := Lib.hid k4
              have y1 : (X : Int) + (A.size : Int) = (Y : Int) := by omega
              have y2 : (Y : Int) ≤ (B.size : Int) := by omega
              have y3 : (X : Int) ≤ (Y : Int) := by omega
              have y4 : (0 : Int) ≤ (X : Int) := by omega
              have y5 : (X : Int) < (B.size : Int) := by omega
              have y6 : X ≤ Y := by omega
              have HM : Hid (B.size - Y < B.size - X) := Lib.hid (by omega)
              clear k4 k5 hX hY
              have k2 := k2 (by trivial)
              clear k3
              have a0 : ¬ ((A.size : Int) = 0) := by omega
              have a1 : ((A.size : Int) == 0) = false := beq_eq_false_iff_ne.2 (by omega)
              have a2 : ((A.size : Int) != 0) = true := by rw [bne, a1]; rfl
              have a3 : ((-(A.size : Int)) == 0) = false := beq_eq_false_iff_ne.2 (by omega)
              have a4 : ((-(A.size : Int)) != 0) = true := by rw [bne, a3]; rfl
              have a5 : ((-(A.size : Int)) == (A.size : Int)) = false := beq_eq_false_iff_ne.2 (by omega)
              have a6 : ((-(A.size : Int)) != (A.size : Int)) = true := by rw [bne, a5]; rfl
              have a7 : ¬ A.size = 0 := by omega
              have a10 : ¬ A = ByteArray.empty := fun e => by rw [e] at a7; exact a7 rfl
              have a8 : ¬ (-(A.size : Int) = 0) := by omega
              have a9 : ¬ (-(A.size : Int) = (A.size : Int)) := by omega
              obtain ⟨tz, htz⟩ : ∃ v, decide (t = 0) = v := ⟨_, rfl⟩
              rw [htz]
              clear htz
              rcases k2 with rfl | rfl
              · skip
                cases tz
                all_goals
                  go_wp2_with fail
                  refine (HC.out _).mono ?_
                  rintro e x1 ⟨rfl, hb1⟩
                  have r1 := below_then rb (Nat.le_refl _) hb1
                  clear rb hb1 HC
                  go_wp2
                  go_roundw
                  case rel => exact ⟨t + 1, by omega, by rw [decide_eq_false (by omega)], by rw [HK5.out], r1⟩
                  case measure => simp [intOf]; first | omega | (have := HM.out; omega)
              · skip
                cases tz
                all_goals
                  go_wp2_with fail
                  refine (HC.out _).mono ?_
                  rintro e x1 ⟨rfl, hb1⟩
                  have r1 := below_then rb (Nat.le_refl _) hb1
                  clear rb hb1 HC
                  go_wp2
                  go_roundw
                  case rel => exact ⟨t + 1, by omega, by rw [decide_eq_false (by omega)], by rw [HK5.out], r1⟩
                  case measure => simp [intOf]; first | omega | (have := HM.out; omega)
            · skip
              have htW := HKL.out t ht hlt
              subst htW
              have bc9 := below_then bc (Nat.le_refl _) rb
              have h3 := HN3.out
              rw [← h3] at hlt ⊢
              clear h3 bc rb ht hlt
              rw [decide_eq_false (show ¬ t = 0 by omega)]
              go_wp2_with fail
              refine (HR.out _).mono ?_
              rintro e x1 ⟨rfl, hb1⟩
              have r1 := below_then bc9 (Nat.le_refl _) hb1
              clear bc9 hb1
              go_wp2
              go_ret
              exact ⟨rfl, r1⟩
      · skip
        obtain ⟨A, B, W, D, e1, e2, e3, e4, n1, n2, n3, n4, n5, n6, hK⟩ := conf_all hu hv (by omega)
        rw [e4] at hi hs
        rw [e3] at hr
        rw [e2] at ha
        rw [e1] at hb
        have n6 := n6 (by omega)
        have n7 : (A.size : Int) < (B.size : Int) := by omega
        have hKP : ∀ t, t ≤ W → t * A.size ≤ B.size := fun t ht => by rw [n3]; exact Nat.mul_le_mul_right _ ht
        have hKL : ∀ t, t ≤ W → ¬ t * A.size < B.size → t = W := fun t ht hn => by
          refine Classical.byContradiction fun h => hn ?_
          have h1 : (t + 1) * A.size ≤ W * A.size := Nat.mul_le_mul_right _ (by omega)
          rw [Nat.succ_mul, ← n3] at h1
          omega
        have hKS : ∀ t, (t + 1) * A.size = t * A.size + A.size := fun t => Nat.succ_mul _ _
        have HK := Lib.hid hK
        have HKP := Lib.hid hKP
        have HKL := Lib.hid hKL
        have HKS := Lib.hid hKS
        have HN3 := Lib.hid n3
        have HN6 := Lib.hid n6
        clear e1 e2 e3 e4 hK hKP hKL hKS n3 n6 hv hu hle hp hq
        have HI := Lib.hid hi
        have HS := Lib.hid hs
        have HR := Lib.hid hr
        have HA := Lib.hid ha
        have HB := Lib.hid hb
        clear hi hs hr ha hb
        cases D with
        | false =>
          have HKD := Lib.hid (fun t (ht : t < W) => HK.out t ht)
          clear HK
          go_wp2_with fail
          refine (HI.out _).mono ?_
          rintro e w1949 ⟨rfl, hb1950⟩
          have b1951 := below_then bc (Nat.le_refl _) hb1950
          clear bc
          have bc := b1951
          clear b1951 hb1950
          go_wp2_with fail
          refine (HS.out _).mono ?_
          rintro e w1952 ⟨rfl, hb1953⟩
          have b1954 := below_then bc (Nat.le_refl _) hb1953
          clear bc
          have bc := b1954
          clear b1954 hb1953
          go_wp2_with fail
          refine (HA.out _).mono ?_
          rintro e w1955 ⟨rfl, hb1956⟩
          have b1957 := below_then bc (Nat.le_refl _) hb1956
          clear bc
          have bc := b1957
          clear b1957 hb1956
          go_wp2_with fail
          refine (HB.out _).mono ?_
          rintro e w1958 ⟨rfl, hb1959⟩
          have b1960 := below_then bc (Nat.le_refl _) hb1959
          clear bc
          have bc := b1960
          clear b1960 hb1959
          clear HI HS HA HB
          go_wp2_with fail
          go_loopw [10, 11] (fun v i wr => ∃ t : Nat, t ≤ W ∧ v = .bool true ∧ i = .int .i64 ((t * A.size : Nat) : Int) ∧ Below w1958.heap.size w1958 wr) (fun _ i _ => B.size - (intOf i).toNat)
          case atStart => exact ⟨0, by omega, rfl, by rw [Nat.zero_mul]; rfl, Below.refl _ _⟩
          case round =>
            obtain ⟨t, ht, rfl, rfl, rb⟩ := hrel
            by_cases hlt : t * A.size < B.size
            · skip
              have htW : t < W := Classical.byContradiction fun h => by
                obtain rfl : t = W := by omega
                have := HN3.out; omega
              obtain ⟨k1, c, k2, k3, k4⟩ := HKD.out t htW
              have k5 := HKS.out t
              obtain ⟨X, hX⟩ : ∃ X, t * A.size = X := ⟨_, rfl⟩
              rw [hX] at hlt k1 k4 k5 ⊢
              obtain ⟨Y, hY⟩ : ∃ Y, X + A.size = Y := ⟨_, rfl⟩
              rw [hY] at k1 k4 k5
              have HK5 := Lib.hid k5
              have HC := Lib.hid k4
              have y1 : (X : Int) + (A.size : Int) = (Y : Int) := by omega
              have y2 : (Y : Int) ≤ (B.size : Int) := by omega
              have y3 : (X : Int) ≤ (Y : Int) := by omega
              have y4 : (0 : Int) ≤ (X : Int) := by omega
              have y5 : (X : Int) < (B.size : Int) := by omega
              have y6 : X ≤ Y := by omega
              have HM : Hid (B.size - Y < B.size - X) := Lib.hid (by omega)
              clear k4 k5 hX hY
              have k3 := k3 (by trivial)
              subst k3
              clear k2
              go_wp2_with fail
              refine (HC.out _).mono ?_
              rintro e x1 ⟨rfl, hb1⟩
              have r1 := below_then rb (Nat.le_refl _) hb1
              clear rb hb1 HC
              go_wp2
              go_roundw
              case rel => exact ⟨t + 1, by omega, rfl, by rw [HK5.out], r1⟩
              case measure => simp [intOf]; first | omega | (have := HM.out; omega)
            · skip
              have htW := HKL.out t ht hlt
              subst htW
              have bc9 := below_then bc (Nat.le_refl _) rb
              have h3 := HN3.out
              rw [← h3] at hlt ⊢
              clear h3 bc rb ht hlt
              go_wp2_with fail
              refine (HR.out _).mono ?_
              rintro e x1 ⟨rfl, hb1⟩
              have r1 := below_then bc9 (Nat.le_refl _) hb1
              clear bc9 hb1
              go_wp2
              go_ret
              exact ⟨rfl, r1⟩
        | true =>
          have HKD := Lib.hid (fun t (ht : t < W) => HK.out t ht)
          clear HK
          go_wp2_with fail
          refine (HI.out _).mono ?_
          rintro e w2361 ⟨rfl, hb2362⟩
          have b2363 := below_then bc (Nat.le_refl _) hb2362
          clear bc
          have bc := b2363
          clear b2363 hb2362
          go_wp2_with fail
          refine (HS.out _).mono ?_
          rintro e w2364 ⟨rfl, hb2365⟩
          have b2366 := below_then bc (Nat.le_refl _) hb2365
          clear bc
          have bc := b2366
          clear b2366 hb2365
          go_wp2_with fail
          refine (HA.out _).mono ?_
          rintro e w2367 ⟨rfl, hb2368⟩
          have b2369 := below_then bc (Nat.le_refl _) hb2368
          clear bc
          have bc := b2369
          clear b2369 hb2368
          go_wp2_with fail
          refine (HB.out _).mono ?_
          rintro e w2370 ⟨rfl, hb2371⟩
          have b2372 := below_then bc (Nat.le_refl _) hb2371
          clear bc
          have bc := b2372
          clear b2372 hb2371
          clear HI HS HA HB
          go_wp2_with fail
          go_loopw [10, 11] (fun v i wr => ∃ t : Nat, t ≤ W ∧ v = .bool (decide (t = 0)) ∧ i = .int .i64 ((t * A.size : Nat) : Int) ∧ Below w2370.heap.size w2370 wr) (fun _ i _ => B.size - (intOf i).toNat)
          case atStart => exact ⟨0, by omega, rfl, by rw [Nat.zero_mul]; rfl, Below.refl _ _⟩
          case round =>
            obtain ⟨t, ht, rfl, rfl, rb⟩ := hrel
            by_cases hlt : t * A.size < B.size
            · skip
              have htW : t < W := Classical.byContradiction fun h => by
                obtain rfl : t = W := by omega
                have := HN3.out; omega
              obtain ⟨k1, c, k2, k3, k4⟩ := HKD.out t htW
              have k5 := HKS.out t
              obtain ⟨X, hX⟩ : ∃ X, t * A.size = X := ⟨_, rfl⟩
              rw [hX] at hlt k1 k4 k5 ⊢
              obtain ⟨Y, hY⟩ : ∃ Y, X + A.size = Y := ⟨_, rfl⟩
              rw [hY] at k1 k4 k5
              have HK5 := Lib.hid k5
              have HC := Lib.hid k4
              have y1 : (X : Int) + (A.size : Int) = (Y : Int) := by omega
              have y2 : (Y : Int) ≤ (B.size : Int) := by omega
              have y3 : (X : Int) ≤ (Y : Int) := by omega
              have y4 : (0 : Int) ≤ (X : Int) := by omega
              have y5 : (X : Int) < (B.size : Int) := by omega
              have y6 : X ≤ Y := by omega
              have HM : Hid (B.size - Y < B.size - X) := Lib.hid (by omega)
              clear k4 k5 hX hY
              have k2 := k2 (by trivial)
              clear k3
              have a0 : ¬ ((A.size : Int) = 0) := by omega
              have a1 : ((A.size : Int) == 0) = false := beq_eq_false_iff_ne.2 (by omega)
              have a2 : ((A.size : Int) != 0) = true := by rw [bne, a1]; rfl
              have a3 : ((-(A.size : Int)) == 0) = false := beq_eq_false_iff_ne.2 (by omega)
              have a4 : ((-(A.size : Int)) != 0) = true := by rw [bne, a3]; rfl
              have a5 : ((-(A.size : Int)) == (A.size : Int)) = false := beq_eq_false_iff_ne.2 (by omega)
              have a6 : ((-(A.size : Int)) != (A.size : Int)) = true := by rw [bne, a5]; rfl
              have a7 : ¬ A.size = 0 := by omega
              have a10 : ¬ A = ByteArray.empty := fun e => by rw [e] at a7; exact a7 rfl
              have a8 : ¬ (-(A.size : Int) = 0) := by omega
              have a9 : ¬ (-(A.size : Int) = (A.size : Int)) := by omega
              obtain ⟨tz, htz⟩ : ∃ v, decide (t = 0) = v := ⟨_, rfl⟩
              rw [htz]
              clear htz
              rcases k2 with rfl | rfl
              · skip
                cases tz
                all_goals
                  go_wp2_with fail
                  refine (HC.out _).mono ?_
                  rintro e x1 ⟨rfl, hb1⟩
                  have r1 := below_then rb (Nat.le_refl _) hb1
                  clear rb hb1 HC
                  go_wp2
                  go_roundw
                  case rel => exact ⟨t + 1, by omega, by rw [decide_eq_false (by omega)], by rw [HK5.out], r1⟩
                  case measure => simp [intOf]; first | omega | (have := HM.out; omega)
              · skip
                cases tz
                all_goals
                  go_wp2_with fail
                  refine (HC.out _).mono ?_
                  rintro e x1 ⟨rfl, hb1⟩
                  have r1 := below_then rb (Nat.le_refl _) hb1
                  clear rb hb1 HC
                  go_wp2
                  go_roundw
                  case rel => exact ⟨t + 1, by omega, by rw [decide_eq_false (by omega)], by rw [HK5.out], r1⟩
                  case measure => simp [intOf]; first | omega | (have := HM.out; omega)
            · skip
              have htW := HKL.out t ht hlt
              subst htW
              have bc9 := below_then bc (Nat.le_refl _) rb
              have h3 := HN3.out
              rw [← h3] at hlt ⊢
              clear h3 bc rb ht hlt
              rw [decide_eq_false (show ¬ t = 0 by omega)]
              go_wp2_with fail
              refine (HR.out _).mono ?_
              rintro e x1 ⟨rfl, hb1⟩
              have r1 := below_then bc9 (Nat.le_refl _) hb1
              clear bc9 hb1
              go_wp2
              go_ret
              exact ⟨rfl, r1⟩
end Go.Proofs.Ytgfehabpoebaoaa
