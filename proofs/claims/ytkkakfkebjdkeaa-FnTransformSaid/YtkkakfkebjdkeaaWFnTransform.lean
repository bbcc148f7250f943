/- The walk of the law FnTransform. -/
import Derived.Test.YtkkakfkebjdkeaaDrawTrans
import Derived.Test.YtkkakfkebjdkeaaTransUse
import Derived.Test.YtkkakfkebjdkeaaSsSame
namespace Go.Proofs.Ytkkakfkebjdkeaa
open Go.RowKit
set_option linter.unusedVariables false
set_option maxHeartbeats 3200000 in
set_option maxRecDepth 100000 in
theorem fnTransform_walk (a0 : Option Addr) (len0 cap0 : Nat) (z0 : List Int) (w : World) (w0 : IsBytes w a0 len0 cap0 z0) :
    Calls Try.prog 3 #[.slice a0 len0 cap0] w fun e w' => e = .returned (.bool true) ∧ Below w.heap.size w w' := by
  by_cases hl0 : 1048576 < len0
  · go_enter Try.func3, Try.ntmps3
    go_wp2
    go_ret
    exact ⟨rfl, Below.refl _ _⟩
  go_enter Try.func3, Try.ntmps3
  go_wp2_with fail
  refine (drawWT_any a0 len0 cap0 z0 _ w0).mono ?_
  rintro e W1 ⟨v, n, z, rfl, O0, hn, hf, bc⟩
  clear w0 hf
  obtain ⟨lav, lpv, rfl, lhv⟩ := O0.form
  have hi := fun w h => iTrans_any (.slice lav n lpv) n z w h (by omega)
  have hs := fun w h => sTrans_any (.slice lav n lpv) n z w h (by omega)
  cases hv : isT n && allT n z with
  | false =>
    rw [show trN n z = 0 by unfold trN; rw [hv]; rfl] at hi hs
    obtain ⟨X, hX⟩ : ∃ X, trF n z = X := ⟨_, rfl⟩
    rw [hX] at hi hs
    clear hv hX lhv
    have HI := Lib.hid hi
    have HS := Lib.hid hs
    clear hi hs
    go_wp2_with fail
    refine (HI.out _ O0.ints).mono ?_
    rintro e w1 ⟨v4, rfl, O3, hb2⟩
    have O5 := O0.below hb2
    clear O0
    have b6 := below_then bc (Nat.le_refl _) hb2
    clear bc hb2
    obtain ⟨lax, lpx, rfl, lhx⟩ := O3.form
    go_wp2_with fail
    refine (HS.out _ O5.ints).mono ?_
    rintro e w7 ⟨v10, rfl, O9, hb8⟩
    have O11 := O5.below hb8
    clear O5
    have O12 := O3.below hb8
    clear O3
    have b13 := below_then b6 (Nat.le_refl _) hb8
    clear b6 hb8
    obtain ⟨las, lps, rfl, lhs⟩ := O9.form
    go_wp2_with fail
    refine (ssInts_same _ _ _ _ 0 X _ O12 O9 (by omega)).mono ?_
    rintro e w' ⟨rfl, m14, rfl⟩
    have hb16 := below_drewN (Below.refl w7.heap.size w7) m14
    have O17 := O11.below hb16
    clear O11
    have O18 := O12.below hb16
    clear O12
    have O19 := O9.below hb16
    clear O9
    have b20 := below_then b13 (Nat.le_refl _) hb16
    clear b13 hb16
    obtain ⟨w15, hW⟩ : ∃ W, w7.drewN m14 = W := ⟨_, rfl⟩
    rw [hW] at O17 O18 O19  b20 ⊢
    clear hW
    clear O19
    go_wp2_with fail
    refine (HS.out _ O17.ints).mono ?_
    rintro e w21 ⟨v24, rfl, O23, hb22⟩
    have O25 := O17.below hb22
    clear O17
    have O26 := O18.below hb22
    clear O18
    have b27 := below_then b20 (Nat.le_refl _) hb22
    clear b20 hb22
    obtain ⟨lau, lpu, rfl, lhu⟩ := O23.form
    go_wp2_with fail
    refine (ssInts_same _ _ _ _ 0 X _ O26 O23 (by omega)).mono ?_
    rintro e w' ⟨rfl, m28, rfl⟩
    have hb30 := below_drewN (Below.refl w21.heap.size w21) m28
    have O31 := O25.below hb30
    clear O25
    have O32 := O26.below hb30
    clear O26
    have O33 := O23.below hb30
    clear O23
    have b34 := below_then b27 (Nat.le_refl _) hb30
    clear b27 hb30
    obtain ⟨w29, hW⟩ : ∃ W, w21.drewN m28 = W := ⟨_, rfl⟩
    rw [hW] at O31 O32 O33  b34 ⊢
    clear hW
    go_wp2
    go_ret
    exact ⟨rfl, b34⟩
  | true =>
    obtain ⟨X, P, Q, A, n1, n64, hX, hN, hz, hxb, hP, hQ, hPS, hQS, hA, hAn, hY⟩ := trans_facts hv
    rw [hX, hN] at hi hs
    obtain ⟨gv, rfl, -, -, -⟩ := lhv n1
    clear hv hX hN lhv hn
    have HY : Hid ((∀ i, i < n → -1000000 ≤ X i ∧ X i ≤ 1000000) → ∃ Y : Nat → Int, (∀ (cx : Nat) (gx : Addr) w, IntsR w (.slice (some gx) n cx) n X → Calls Try.prog 14 #[.slice (some gx) n cx] w fun e w' => ∃ v, e = .returned v ∧ OF w' w.heap.size v n Y ∧ Below w.heap.size w w') ∧ ∀ i, i < n → (n : Int) * z i = Y i ∧ -64000000 ≤ Y i ∧ Y i ≤ 64000000) := Lib.hid (fun hb => by
      obtain ⟨e1, e2⟩ := hY hb
      refine ⟨trF n X, fun cx gx w h => ?_, e2⟩
      have := iTrans_any (.slice (some gx) n cx) n X w h (by omega)
      rw [e1] at this
      exact this)
    have m0 : ((n : Int) == 0) = false := beq_eq_false_iff_ne.2 (by omega)
    clear hY
    have HI := Lib.hid hi
    have HS := Lib.hid hs
    have HZ := Lib.hid hz
    have HXB := Lib.hid hxb
    have HP := Lib.hid hP
    have HQ := Lib.hid hQ
    have HPS := Lib.hid hPS
    have HQS := Lib.hid hQS
    clear hi hs hz hxb hP hQ hPS hQS
    have HA := Lib.hid hA
    have HAN := Lib.hid hAn
    clear hA hAn
    go_wp2_with fail
    refine (HI.out _ O0.ints).mono ?_
    rintro e w35 ⟨v38, rfl, O37, hb36⟩
    have O39 := O0.below hb36
    clear O0
    have b40 := below_then bc (Nat.le_refl _) hb36
    clear bc hb36
    obtain ⟨lax, lpx, rfl, lhx⟩ := O37.form
    go_wp2_with fail
    refine (HS.out _ O39.ints).mono ?_
    rintro e w41 ⟨v44, rfl, O43, hb42⟩
    have O45 := O39.below hb42
    clear O39
    have O46 := O37.below hb42
    clear O37
    have b47 := below_then b40 (Nat.le_refl _) hb42
    clear b40 hb42
    obtain ⟨las, lps, rfl, lhs⟩ := O43.form
    obtain ⟨gx, rfl, -, -, -⟩ := lhx n1
    clear lhx lhs
    go_wp2_with fail
    refine (ssInts_same _ _ _ _ n X _ O46 O43 (by omega)).mono ?_
    rintro e w' ⟨rfl, m48, rfl⟩
    have hb50 := below_drewN (Below.refl w41.heap.size w41) m48
    have O51 := O45.below hb50
    clear O45
    have O52 := O46.below hb50
    clear O46
    have O53 := O43.below hb50
    clear O43
    have b54 := below_then b47 (Nat.le_refl _) hb50
    clear b47 hb50
    obtain ⟨w49, hW⟩ : ∃ W, w41.drewN m48 = W := ⟨_, rfl⟩
    rw [hW] at O51 O52 O53  b54 ⊢
    clear hW
    clear O53
    go_wp2
    go_loopw [6, 7, 8] (fun a b c wr => ∃ i : Nat, i ≤ n ∧ a = .int .i64 (sumI P i) ∧ b = .int .i64 (sumI Q i) ∧ c = .int .i64 i ∧ Hid (∀ t, t < i → -1000000 ≤ X t ∧ X t ≤ 1000000) ∧ OF wr w.heap.size (.slice (some ⟨gv, 0, none⟩) n lpv) n z ∧ OF wr W1.heap.size (.slice (some ⟨gx, 0, none⟩) n lpx) n X ∧ Below w.heap.size w wr) (fun _ _ c _ => n - (intOf c).toNat)
    case atStart => exact ⟨0, by omega, rfl, rfl, rfl, Lib.hid (fun t ht => absurd ht (Nat.not_lt_zero t)), O51, O52, b54⟩
    case round =>
      clear O51 O52 b54 m0
      obtain ⟨i, hi, rfl, rfl, rfl, hb, rV, rX, rb⟩ := hrel
      have p := HPS.out i hi
      have q := HQS.out i hi
      by_cases hlt : i < n
      · skip
        have i0 : (0 : Int) ≤ (i : Int) := by omega
        have i1 : (i : Int) < (n : Int) := by omega
        have c0 := (rV.at i hlt).1
        have c1 := (rX.at i hlt).1
        obtain ⟨p1, p2, p3⟩ := HP.out i hlt
        obtain ⟨q1, q2, q3⟩ := HQ.out i hlt
        have s1 : sumI P (i + 1) = sumI P i + P i := rfl
        have s2 : sumI Q (i + 1) = sumI Q i + Q i := rfl
        have xb := HXB.out i hlt
        have zb := HZ.out i hlt
        obtain ⟨x, ex⟩ : ∃ v, X i = v := ⟨_, rfl⟩
        rw [ex] at c1 q1 xb
        obtain ⟨y, ey⟩ : ∃ v, z i = v := ⟨_, rfl⟩
        rw [ey] at c0 p1 zb
        obtain ⟨a, ea⟩ : ∃ v, sumI P i = v := ⟨_, rfl⟩
        rw [ea] at p s1 ⊢
        obtain ⟨b, eb⟩ : ∃ v, sumI Q i = v := ⟨_, rfl⟩
        rw [eb] at q s2 ⊢
        obtain ⟨u, eu⟩ : ∃ v, P i = v := ⟨_, rfl⟩
        rw [eu] at p1 p2 p3 s1
        obtain ⟨v, ev⟩ : ∃ v, Q i = v := ⟨_, rfl⟩
        rw [ev] at q1 q2 q3 s2
        have HXX := Lib.hid ex
        have HS1 := Lib.hid s1
        have HS2 := Lib.hid s2
        clear ex ey ea eb eu ev s1 s2
        obtain ⟨p4, p5⟩ := p
        obtain ⟨q4, q5⟩ := q
        have w1 : IntKind.i64.wrap u = u := IntWalk.i64_in _ (by clear p1 q1; omega)
        have w2 : IntKind.i64.wrap v = v := IntWalk.i64_in _ (by clear p1 q1 w1; omega)
        have w3 : IntKind.i64.wrap (a + u) = a + u := IntWalk.i64_in _ (by clear p1 q1 w1 w2; omega)
        have w4 : IntKind.i64.wrap (b + v) = b + v := IntWalk.i64_in _ (by clear p1 q1 w1 w2 w3; omega)
        by_cases hx : -1000000 ≤ x ∧ x ≤ 1000000
        · skip
          have x1 : ¬ (1000000 < x) := by omega
          have x2 : ¬ (x < -1000000) := by omega
          have x3 : decide (1000000 < x) = false := decide_eq_false x1
          have x4 : decide (x < -1000000) = false := decide_eq_false x2
          have HB2 : Hid (∀ t, t < i + 1 → -1000000 ≤ X t ∧ X t ≤ 1000000) := Lib.hid (fun t ht => by
            by_cases e : t = i
            · rw [e, HXX.out]; exact hx
            · exact hb.out t (by omega))
          clear hx hb
          go_wp2_with fail
          go_quiet (fail)
          have rV1 := rV.drewN nq
          have rX1 := rX.drewN nq
          have rb1 := below_drewN rb nq
          obtain ⟨W5, hW5⟩ : ∃ W, wr.drewN nq = W := ⟨_, rfl⟩
          rw [hW5] at rV1 rX1 rb1 ⊢
          have c2 := (rX1.at i hlt).1
          rw [HXX.out] at c2
          clear hW5 rV rX rb c0 c1 p1 nq
          go_wp2_with fail
          go_quiet (fail)
          have rV2 := rV1.drewN nq
          have rX2 := rX1.drewN nq
          have rb2 := below_drewN rb1 nq
          obtain ⟨W6, hW6⟩ : ∃ W, W5.drewN nq = W := ⟨_, rfl⟩
          rw [hW6] at rV2 rX2 rb2 ⊢
          have c3 := (rX2.at i hlt).1
          rw [HXX.out] at c3
          clear hW6 rV1 rX1 rb1 c2 q1 nq
          go_wp2
          go_roundw
          case rel => exact ⟨i + 1, by omega, by rw [HS1.out], by rw [HS2.out], by go_num, HB2, rV2, rX2, rb2⟩
          case measure => simp [intOf]; omega
        · skip
          clear hb
          rcases (by omega : 1000000 < x ∨ (¬ 1000000 < x ∧ x < -1000000)) with x1 | ⟨x1, x2⟩
          · skip
            have x3 : decide (1000000 < x) = true := decide_eq_true x1
            clear hx
            go_wp2_with fail
            go_quiet (fail)
            have rX1 := rX.drewN nq
            have rb1 := below_drewN rb nq
            obtain ⟨W5, hW5⟩ : ∃ W, wr.drewN nq = W := ⟨_, rfl⟩
            rw [hW5] at rX1 rb1 ⊢
            have c2 := (rX1.at i hlt).1
            rw [HXX.out] at c2
            clear hW5 rV rX rb c0 c1 p1 nq
            go_wp2_with fail
            go_quiet (fail)
            have rX2 := rX1.drewN nq
            have rb2 := below_drewN rb1 nq
            obtain ⟨W6, hW6⟩ : ∃ W, W5.drewN nq = W := ⟨_, rfl⟩
            rw [hW6] at rX2 rb2 ⊢
            have c3 := (rX2.at i hlt).1
            rw [HXX.out] at c3
            clear hW6 rX1 rb1 c2 q1 nq
            go_wp2
            go_ret
            exact ⟨rfl, rb2⟩
          · skip
            have x3 : decide (1000000 < x) = false := decide_eq_false x1
            have x4 : decide (x < -1000000) = true := decide_eq_true x2
            clear hx
            go_wp2_with fail
            go_quiet (fail)
            have rX1 := rX.drewN nq
            have rb1 := below_drewN rb nq
            obtain ⟨W5, hW5⟩ : ∃ W, wr.drewN nq = W := ⟨_, rfl⟩
            rw [hW5] at rX1 rb1 ⊢
            have c2 := (rX1.at i hlt).1
            rw [HXX.out] at c2
            clear hW5 rV rX rb c0 c1 p1 nq
            go_wp2_with fail
            go_quiet (fail)
            have rX2 := rX1.drewN nq
            have rb2 := below_drewN rb1 nq
            obtain ⟨W6, hW6⟩ : ∃ W, W5.drewN nq = W := ⟨_, rfl⟩
            rw [hW6] at rX2 rb2 ⊢
            have c3 := (rX2.at i hlt).1
            rw [HXX.out] at c3
            clear hW6 rX1 rb1 c2 q1 nq
            go_wp2
            go_ret
            exact ⟨rfl, rb2⟩
      · skip
        obtain rfl : n = i := by omega
        obtain ⟨Y, hYc, hYe⟩ := HY.out hb.out
        clear HY hb
        have HYC := Lib.hid hYc
        have HYE := Lib.hid hYe
        clear hYc hYe
        rw [HA.out]
        rw [HA.out] at p
        have hAn := HAN.out
        obtain ⟨D, hD⟩ : ∃ D, sumI Q n = D := ⟨_, rfl⟩
        rw [hD] at q hAn ⊢
        have HAN2 := Lib.hid hAn
        clear hD hAn HA HAN
        go_wp2_with fail
        refine (HYC.out lpx ⟨gx, 0, none⟩ _ rX.ints).mono ?_
        rintro e w55 ⟨v58, rfl, O57, hb56⟩
        have O59 := rV.below hb56
        clear rV
        have O60 := rX.below hb56
        clear rX
        have b61 := below_then rb (Nat.le_refl _) hb56
        clear rb hb56
        obtain ⟨lay, lpy, rfl, lhy⟩ := O57.form
        obtain ⟨gy, rfl, -, -, -⟩ := lhy n1
        clear lhy
        clear O60
        obtain ⟨B9, hB9⟩ : ∃ b, wr.heap.size = b := ⟨_, rfl⟩
        rw [hB9] at O57
        clear hB9
        go_wp2
        go_loopw [10] (fun c wr => ∃ i : Nat, i ≤ n ∧ c = .int .i64 i ∧ OF wr w.heap.size (.slice (some ⟨gv, 0, none⟩) n lpv) n z ∧ OF wr B9 (.slice (some ⟨gy, 0, none⟩) n lpy) n Y ∧ Below w.heap.size w wr) (fun c _ => n - (intOf c).toNat)
        case atStart => exact ⟨0, by omega, rfl, O59, O57, b61⟩
        case round =>
          clear O59 O57 b61
          obtain ⟨i, hi, rfl, rV, rY, rb⟩ := hrel
          by_cases hlt : i < n
          · skip
            have i0 : (0 : Int) ≤ (i : Int) := by omega
            have i1 : (i : Int) < (n : Int) := by omega
            have c0 := (rV.at i hlt).1
            have c1 := (rY.at i hlt).1
            obtain ⟨y1, y2, y3⟩ := HYE.out i hlt
            obtain ⟨x, ex⟩ : ∃ v, z i = v := ⟨_, rfl⟩
            rw [ex] at c0 y1
            obtain ⟨y, ey⟩ : ∃ v, Y i = v := ⟨_, rfl⟩
            rw [ey] at c1 y1 y2 y3
            clear ex ey
            have w1 : IntKind.i64.wrap y = y := IntWalk.i64_in _ (by clear y1; omega)
            have w2 : (y != y) = false := by simp
            go_wp2_with fail
            go_quiet (fail)
            have rV1 := rV.drewN nq
            have rY1 := rY.drewN nq
            have rb1 := below_drewN rb nq
            clear rV rY rb c0 c1 y1 w1
            go_wp2
            go_roundw
            case rel => exact ⟨i + 1, by omega, by go_num, rV1, rY1, rb1⟩
            case measure => simp [intOf]; omega
          · skip
            obtain rfl : n = i := by omega
            have hm := HAN2.out
            have w1 : IntKind.i64.wrap D = D := IntWalk.i64_in _ (by clear hm; omega)
            have w2 : wrap64 D = D := IntWalk.wrap64_in _ (by clear hm; omega)
            go_wp2
            go_ret
            exact ⟨rfl, rb⟩
end Go.Proofs.Ytkkakfkebjdkeaa
