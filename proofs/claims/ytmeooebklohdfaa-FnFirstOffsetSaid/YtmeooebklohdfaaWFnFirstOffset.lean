/- The walk of the law FnFirstOffset. -/
import Derived.Test.YtmeooebklohdfaaDrawPil6
import Derived.Test.YtmeooebklohdfaaPil11
import Derived.Test.YtmeooebklohdfaaPil12a
import Derived.Test.YtmeooebklohdfaaPilLaw
namespace Go.Proofs.Ytmeooebklohdfaa
open Go.RowKit
set_option linter.unusedVariables false
set_option maxHeartbeats 6400000 in
set_option maxRecDepth 100000 in
theorem fnFirstOffset_walk (a0 : Option Addr) (len0 cap0 : Nat) (z0 : List Int) (w : World) (w0 : IsBytes w a0 len0 cap0 z0) :
    Calls Try.prog 7 #[.slice a0 len0 cap0] w fun e w' => e = .returned (.bool true) ∧ Below w.heap.size w w' := by
  by_cases hl0 : 1048576 < len0
  · go_enter Try.func7, Try.ntmps7
    go_wp2
    go_ret
    exact ⟨rfl, Below.refl _ _⟩
  go_enter Try.func7, Try.ntmps7
  go_wp2_with fail
  refine (drawFirstO_any a0 len0 cap0 z0 _ w0).mono ?_
  rintro e W1 ⟨v, n, f, c, g, s, t, rfl, O0, hn, hf, hc, hg, hs0, ht0, bc0⟩
  obtain ⟨sa, sc, rfl, -⟩ := O0.form
  have Q0 := PilAt.new W1 24 c g
  have bc := bc0.alloc bc0.size (.cells #[.string c, .int .i64 g] 24)
  have OV := O0.alloc (.cells #[.string c, .int .i64 g] 24)
  clear w0 bc0 O0 hf
  obtain ⟨V, hV⟩ : ∃ V, W1.alloc (.cells #[.string c, .int .i64 g] 24) = V := ⟨_, rfl⟩
  obtain ⟨X, hX⟩ : ∃ X, W1.heap.size = X := ⟨_, rfl⟩
  have HVV := Lib.hid hV
  have HXX := Lib.hid hX
  rw [hV] at Q0 bc OV
  rw [hX] at Q0
  clear hV hX
  have hi := fun w h => iFirst_any (.slice sa n sc) n f c g s t w h (by omega) (by omega)
  have hj := fun w h => iTime_any (.slice sa n sc) n f c g s t w h (by omega) (by omega)
  have hs := fun w h => sFirst_any (.slice sa n sc) n f c g s t w h (by omega) (by omega)
  have hu := fun w h => sTime_any (.slice sa n sc) n f c g s t w h (by omega) (by omega)
  by_cases hb : rdB n f c g = true ∧ 1 ≤ s ∧ s ≤ 8
  · skip
    obtain ⟨hr, s1, s8⟩ := hb
    obtain ⟨r1, r2⟩ := (rdB_iff _ _ _ _).1 hr
    obtain ⟨G, rfl, g1, g8, -, -, -, -, -, p1, p2⟩ := pil_nat r2
    obtain ⟨T, rfl⟩ : ∃ T : Nat, s = (T : Int) := ⟨s.toNat, by omega⟩
    have T1 : 1 ≤ T := by omega
    have T8 : T ≤ 8 := by omega
    have ht := fun w h => iTable_any (.slice sa n sc) n f c (G : Int) w h (by omega) (by omega)
    rw [st_yes hr] at ht
    have hfo := fun j h2 h3 h4 => lk_found (n := n) (f := f) (c := c) (g := (G : Int)) (t := t) (s := T) (j := j) hr T1 T8 h2 h3 h4
    have hno := fun j h2 h3 h4 => lk_none (n := n) (f := f) (c := c) (g := (G : Int)) (t := t) (s := T) (j := j) hr T1 T8 h2 h3 h4
    have hcs := lk_cases (n := n) (f := f) (c := c) (g := (G : Int)) (t := t) (s := T) hr T1 T8
    have hqy : ∀ j, t ≤ stF n f c (G : Int) (j * T) → lkQ n f c (G : Int).toNat (perL c (G : Int)) T t j = true := fun j h => decide_eq_true h
    have hqn : ∀ j, ¬ t ≤ stF n f c (G : Int) (j * T) → lkQ n f c (G : Int).toNat (perL c (G : Int)) T t j = false := fun j h => decide_eq_false h
    obtain ⟨A, hA⟩ : ∃ A, (lkAns n f c (G : Int) (T : Int) t).1 = A := ⟨_, rfl⟩
    obtain ⟨B, hB⟩ : ∃ B, (lkAns n f c (G : Int) (T : Int) t).2 = B := ⟨_, rfl⟩
    rw [hA] at hi hs
    rw [hB] at hj hu
    have hB0 : ¬ B < 0 := by
      rw [← hB]
      rcases hcs with ⟨J, -, e⟩ | e <;> rw [e] <;> simp <;> omega
    obtain ⟨L, hL⟩ : ∃ L, lkAns n f c (G : Int) (T : Int) t = L := ⟨_, rfl⟩
    obtain ⟨N, hN⟩ : ∃ N, perL c (G : Int) = N := ⟨_, rfl⟩
    rw [hL] at hA hB hfo hno
    rw [hN] at ht hfo hno hqy hqn p1 p2
    obtain ⟨F, hF⟩ : ∃ F, stF n f c (G : Int) = F := ⟨_, rfl⟩
    rw [hF] at ht hqy hqn
    obtain ⟨Q, hQ⟩ : ∃ Q, lkQ n f c (G : Int).toNat N T t = Q := ⟨_, rfl⟩
    rw [hQ] at hfo hno hqy hqn
    clear hL hN hF hQ hcs hr r1 r2
    have HI := Lib.hid hi
    have HS := Lib.hid hs
    have HT := Lib.hid ht
    have HJ := Lib.hid hj
    have HU := Lib.hid hu
    have HFO := Lib.hid hfo
    have HNO := Lib.hid hno
    have HQY := Lib.hid hqy
    have HQN := Lib.hid hqn
    clear hi hs ht hj hu hfo hno hqy hqn
    have HA := Lib.hid hA
    have HBB := Lib.hid hB
    clear hA hB
    obtain ⟨d0, d1, dl⟩ := id Q0
    rw [← HVV.out, ← HXX.out] at d0 d1
    go_wp2_with fail
    clear d0 d1 dl
    rw [HVV.out, HXX.out]
    refine (HI.out _ OV.intsC).mono ?_
    rintro e w101 ⟨rfl, hb102⟩
    have O103 := OV.below hb102
    clear OV
    have Q104 := Q0.below hb102 Q0.2.2
    clear Q0
    have b105 := below_then bc (Nat.le_refl _) hb102
    clear bc
    have bc := b105
    clear b105 hb102
    obtain ⟨d0, d1, dl⟩ := id Q104
    go_wp2_with fail
    refine (HJ.out _ O103.intsC).mono ?_
    rintro e w106 ⟨rfl, hb107⟩
    clear d0 d1 dl
    have O108 := O103.below hb107
    clear O103
    have Q109 := Q104.below hb107 Q104.2.2
    clear Q104
    have b110 := below_then bc (Nat.le_refl _) hb107
    clear bc
    have bc := b110
    clear b110 hb107
    obtain ⟨d0, d1, dl⟩ := id Q109
    go_wp2_with fail
    refine (HS.out _ O108.ints).mono ?_
    rintro e w111 ⟨rfl, hb112⟩
    clear d0 d1 dl
    have O113 := O108.below hb112
    clear O108
    have Q114 := Q109.below hb112 Q109.2.2
    clear Q109
    have b115 := below_then bc (Nat.le_refl _) hb112
    clear bc
    have bc := b115
    clear b115 hb112
    obtain ⟨d0, d1, dl⟩ := id Q114
    go_wp2_with fail
    refine (HU.out _ O113.ints).mono ?_
    rintro e w116 ⟨rfl, hb117⟩
    clear d0 d1 dl
    have O118 := O113.below hb117
    clear O113
    have Q119 := Q114.below hb117 Q114.2.2
    clear Q114
    have b120 := below_then bc (Nat.le_refl _) hb117
    clear bc
    have bc := b120
    clear b120 hb117
    obtain ⟨d0, d1, dl⟩ := id Q119
    go_wp2_with fail
    refine (HT.out _ O118.intsC).mono ?_
    rintro e w121 ⟨u, rfl, O123, hb122⟩
    clear d0 d1 dl
    have O124 := O118.below hb122
    clear O118
    have Q125 := Q119.below hb122 Q119.2.2
    clear Q119
    have b126 := below_then bc (Nat.le_refl _) hb122
    clear bc
    have bc := b126
    clear b126 hb122
    obtain ⟨la, lc, rfl, -⟩ := O123.form
    go_wp2_with fail
    have C_l := Lib.hid O123.ints.cellsP
    go_loopw [10, 11] (fun k i wr => ∃ j J : Nat, j * T = J ∧ j ≤ lkN N T ∧ k = .int .i64 (j : Int) ∧ i = .int .i64 (J : Int) ∧ Hid (∀ i, i < j → Q i = false) ∧ wr = w121) (fun _ i _ => N - (intOf i).toNat)
    case atStart => exact ⟨0, 0, by omega, by omega, rfl, rfl, Lib.hid (fun i hi => absurd hi (Nat.not_lt_zero i)), rfl⟩
    case round =>
      obtain ⟨j, J, hJ, hj, rfl, rfl, hq, rfl⟩ := hrel
      by_cases hlt : J < N
      · skip
        have hjn : j < lkN N T := (lk_iff T1).2 (by rw [hJ]; exact hlt)
        have HJJ := Lib.hid hJ
        clear hJ
        have i0 : (0 : Int) ≤ (J : Int) := by omega
        have i1 : (J : Int) < (N : Int) := by omega
        have HM := Lib.hid (show lkN N T ≤ 100000 by unfold lkN; exact Nat.le_trans (Nat.div_le_self _ _) (by omega))
        have jb : j ≤ 100000 := by have := HM.out; omega
        obtain ⟨x, rfl, -, c0⟩ := C_l.out J hlt
        have qy := HQY.out j
        have qn := HQN.out j
        rw [HJJ.out] at qy qn
        obtain ⟨y, hy⟩ : ∃ y, F J = y := ⟨_, rfl⟩
        rw [hy] at c0 qy qn
        clear hy
        by_cases hge : t ≤ y
        · skip
          have e := HFO.out j (by rw [HJJ.out]; exact hlt) (qy hge) hq.out
          rw [HJJ.out] at e
          have eA : A = (J : Int) := by rw [← HA.out, e]
          have eB : B = (j : Int) + 1 := by rw [← HBB.out, e]
          subst eA
          subst eB
          clear qy qn e HA HBB
          go_wp2
          go_ret
          exact ⟨rfl, bc⟩
        · skip
          have hq2 : Hid (∀ i, i < j + 1 → Q i = false) := Lib.hid (none_up hq.out (qn (by omega)))
          have hJ2 : Hid ((j + 1) * T = J + T) := Lib.hid (by rw [mul_up, HJJ.out])
          clear qy qn hq
          go_wp2
          go_roundw
          case rel => exact ⟨j + 1, J + T, hJ2.out, by omega, by go_num, by go_num, hq2, by trivial⟩
          case measure => simp [intOf]; omega
      · skip
        have e := HNO.out j (by rw [hJ]; exact hlt) hj hq.out
        have eA : A = -1 := by rw [← HA.out, e]
        have eB : B = (j : Int) := by rw [← HBB.out, e]
        subst eA
        subst eB
        clear e HA HBB hJ hj
        go_wp2
        go_ret
        exact ⟨rfl, bc⟩
  · skip
    rw [lk_no hb] at hi hj hs hu
    have HI := Lib.hid hi
    have HJ := Lib.hid hj
    have HS := Lib.hid hs
    have HU := Lib.hid hu
    clear hi hj hs hu
    clear hb
    obtain ⟨d0, d1, dl⟩ := id Q0
    rw [← HVV.out, ← HXX.out] at d0 d1
    go_wp2_with fail
    clear d0 d1 dl
    rw [HVV.out, HXX.out]
    refine (HI.out _ OV.intsC).mono ?_
    rintro e w727 ⟨rfl, hb728⟩
    have O729 := OV.below hb728
    clear OV
    have Q730 := Q0.below hb728 Q0.2.2
    clear Q0
    have b731 := below_then bc (Nat.le_refl _) hb728
    clear bc
    have bc := b731
    clear b731 hb728
    obtain ⟨d0, d1, dl⟩ := id Q730
    go_wp2_with fail
    refine (HJ.out _ O729.intsC).mono ?_
    rintro e w732 ⟨rfl, hb733⟩
    clear d0 d1 dl
    have O734 := O729.below hb733
    clear O729
    have Q735 := Q730.below hb733 Q730.2.2
    clear Q730
    have b736 := below_then bc (Nat.le_refl _) hb733
    clear bc
    have bc := b736
    clear b736 hb733
    obtain ⟨d0, d1, dl⟩ := id Q735
    go_wp2_with fail
    refine (HS.out _ O734.ints).mono ?_
    rintro e w737 ⟨rfl, hb738⟩
    clear d0 d1 dl
    have O739 := O734.below hb738
    clear O734
    have Q740 := Q735.below hb738 Q735.2.2
    clear Q735
    have b741 := below_then bc (Nat.le_refl _) hb738
    clear bc
    have bc := b741
    clear b741 hb738
    obtain ⟨d0, d1, dl⟩ := id Q740
    go_wp2_with fail
    refine (HU.out _ O739.ints).mono ?_
    rintro e w742 ⟨rfl, hb743⟩
    clear d0 d1 dl
    have O744 := O739.below hb743
    clear O739
    have Q745 := Q740.below hb743 Q740.2.2
    clear Q740
    have b746 := below_then bc (Nat.le_refl _) hb743
    clear bc
    have bc := b746
    clear b746 hb743
    obtain ⟨d0, d1, dl⟩ := id Q745
    go_wp2_with fail
    refine (HS.out _ O744.ints).mono ?_
    rintro e w747 ⟨rfl, hb748⟩
    clear d0 d1 dl
    have O749 := O744.below hb748
    clear O744
    have Q750 := Q745.below hb748 Q745.2.2
    clear Q745
    have b751 := below_then bc (Nat.le_refl _) hb748
    clear bc
    have bc := b751
    clear b751 hb748
    obtain ⟨d0, d1, dl⟩ := id Q750
    go_wp2_with fail
    refine (HU.out _ O749.ints).mono ?_
    rintro e w752 ⟨rfl, hb753⟩
    clear d0 d1 dl
    have O754 := O749.below hb753
    clear O749
    have Q755 := Q750.below hb753 Q750.2.2
    clear Q750
    have b756 := below_then bc (Nat.le_refl _) hb753
    clear bc
    have bc := b756
    clear b756 hb753
    go_wp2
    go_ret
    exact ⟨rfl, bc⟩
end Go.Proofs.Ytmeooebklohdfaa
