/- The walk of the law FnCrossValues. -/
import Derived.Test.YtmmonhagceacjaaDrawVals
import Derived.Test.YtmmonhagceacjaaValMath
import Derived.Test.YtmmonhagceacjaaSeqTable
import Derived.Test.YtmmonhagceacjaaSsSame
namespace Go.Proofs.Ytmmonhagceacjaa
open Go.RowKit
set_option linter.unusedVariables false
set_option maxHeartbeats 1600000 in
set_option maxRecDepth 100000 in
theorem fnCrossValues_walk (a0 : Option Addr) (len0 cap0 : Nat) (z0 : List Int) (w : World) (w0 : IsBytes w a0 len0 cap0 z0) :
    Calls Try.prog 11 #[.slice a0 len0 cap0] w fun e w' => e = .returned (.bool true) ∧ Below w.heap.size w w' := by
  by_cases hl0 : 1048576 < len0
  · go_enter Try.func11, Try.ntmps11
    go_wp2
    go_ret
    exact ⟨rfl, Below.refl _ _⟩
  go_enter Try.func11, Try.ntmps11
  go_wp2_with fail
  refine (drawVals_any a0 len0 cap0 z0 _ w0).mono ?_
  rintro e W1 ⟨a, b, rfl, ha, hb, bc⟩
  clear w0
  have hi := fun w => iVals a b w (by omega) (by omega)
  have hs := fun w => sVals a b w (by omega) (by omega)
  have ht := fun w => iTab_any a b w (by omega) (by omega)
  have hn := tabN_le a b
  have hbd : ∀ i, -1000 ≤ tabF a b i ∧ tabF a b i ≤ 1000 := fun i => by have := crossN_bd a b i; unfold tabF; omega
  obtain ⟨K, g, hK, hg, k0, k1, gb, m1, m2, m3⟩ := val_facts (tabF a b) (tabN a b) hbd
  unfold valN valF at hi hs
  rw [hK, hg] at hi hs
  obtain ⟨N, hN⟩ : ∃ N, tabN a b = N := ⟨_, rfl⟩
  obtain ⟨f, hf⟩ : ∃ f, tabF a b = f := ⟨_, rfl⟩
  rw [hN, hf] at ht m1 m2
  rw [hN] at hn k0 k1
  rw [hf] at hbd
  clear hK hg hN hf ha hb
  have HI := Lib.hid hi
  have HS := Lib.hid hs
  have HT := Lib.hid ht
  have HBD := Lib.hid hbd
  have GB := Lib.hid gb
  have M1 := Lib.hid m1
  have M2 := Lib.hid m2
  have M3 := Lib.hid m3
  clear hi hs ht hbd gb m1 m2 m3
  go_wp2_with fail
  refine (HI.out _).mono ?_
  rintro e w1 ⟨v4, rfl, O3, hb2⟩
  have b5 := below_then bc (Nat.le_refl _) hb2
  clear bc hb2
  obtain ⟨lal, lpl, rfl, lhl⟩ := O3.form
  go_wp2_with fail
  refine (HT.out _).mono ?_
  rintro e w6 ⟨v9, rfl, O8, hb7⟩
  have O10 := O3.below hb7
  clear O3
  have b11 := below_then b5 (Nat.le_refl _) hb7
  clear b5 hb7
  obtain ⟨lat, lpt, rfl, lht⟩ := O8.form
  go_wp2_with fail
  refine (HS.out _).mono ?_
  rintro e w12 ⟨v15, rfl, O14, hb13⟩
  have O16 := O10.below hb13
  clear O10
  have O17 := O8.below hb13
  clear O8
  have b18 := below_then b11 (Nat.le_refl _) hb13
  clear b11 hb13
  obtain ⟨las, lps, rfl, lhs⟩ := O14.form
  go_wp2_with fail
  refine (ssInts_same _ _ _ _ K g _ O16 O14 (by omega)).mono ?_
  rintro e w' ⟨rfl, m19, rfl⟩
  have hb21 := below_drewN (Below.refl w12.heap.size w12) m19
  have O22 := O16.below hb21
  clear O16
  have O23 := O17.below hb21
  clear O17
  have O24 := O14.below hb21
  clear O14
  have b25 := below_then b18 (Nat.le_refl _) hb21
  clear b18 hb21
  obtain ⟨w20, hW⟩ : ∃ W, w12.drewN m19 = W := ⟨_, rfl⟩
  rw [hW] at O22 O23 O24  b25 ⊢
  clear hW
  clear O24 lhs
  by_cases hk0 : K = 0
  · skip
    have hn0 : N = 0 := by omega
    subst hk0
    subst hn0
    clear lhl lht
    go_wp2
    go_loopw [7] (fun c wr => c = .int .i64 0 ∧ Below w.heap.size w wr) (fun _ _ => 0)
    case atStart => exact ⟨rfl, b25⟩
    case round =>
      obtain ⟨rfl, rb⟩ := hrel
      go_wp2
      go_loopw [10] (fun c wr => c = .int .i64 0 ∧ Below w.heap.size w wr) (fun _ _ => 0)
      case atStart => exact ⟨rfl, rb⟩
      case round =>
        clear rb
        obtain ⟨rfl, rb⟩ := hrel
        go_wp2
        go_ret
        exact ⟨rfl, rb⟩
  · skip
    obtain ⟨gl, rfl, -, -, -⟩ := lhl (by omega)
    have hN0 : 0 < N := by omega
    obtain ⟨gt, rfl, -, -, -⟩ := lht hN0
    clear lhl lht k1
    have HB9 := Lib.hid True.intro
    go_wp2
    go_loopw [7] (fun c wr => ∃ i : Nat, i ≤ K ∧ c = .int .i64 i ∧ OF wr W1.heap.size (.slice (some ⟨gl, 0, none⟩) K lpl) K g ∧ OF wr w1.heap.size (.slice (some ⟨gt, 0, none⟩) N lpt) N f ∧ Below w.heap.size w wr) (fun c _ => K - (intOf c).toNat)
    case atStart => exact ⟨0, by omega, rfl, O22, O23, b25⟩
    case round =>
      clear O22 O23 b25
      obtain ⟨i, hi, rfl, rL, rT, rb⟩ := hrel
      by_cases hlt : i < K
      · skip
        have i0 : (0 : Int) ≤ (i : Int) := by omega
        have i1 : (i : Int) < (K : Int) := by omega
        have hm := M1.out i hlt
        obtain ⟨x, hx⟩ : ∃ x, g i = x := ⟨_, rfl⟩
        rw [hx] at hm
        obtain ⟨Q, hQ⟩ : ∃ Q, anyN f x = Q := ⟨_, rfl⟩
        rw [hQ] at hm
        have hq0 : Q 0 = false := by rw [← hQ]; rfl
        have hqS : ∀ j, Q (j + 1) = (Q j || decide (f j = x)) := fun j => by rw [← hQ]; rfl
        have HX := Lib.hid hx
        have HM := Lib.hid hm
        have HQ0 := Lib.hid hq0
        have HQS := Lib.hid hqS
        clear hx hm hQ hq0 hqS
        go_wp2
        go_loopw [8, 9] (fun s c wr => ∃ j : Nat, j ≤ N ∧ s = .bool (Q j) ∧ c = .int .i64 j ∧ OF wr W1.heap.size (.slice (some ⟨gl, 0, none⟩) K lpl) K g ∧ OF wr w1.heap.size (.slice (some ⟨gt, 0, none⟩) N lpt) N f ∧ Below w.heap.size w wr) (fun _ c _ => N - (intOf c).toNat)
        case atStart => exact ⟨0, by omega, by rw [HQ0.out], rfl, rL, rT, rb⟩
        case round =>
          clear rL rT rb
          obtain ⟨j, hj, rfl, rfl, rL, rT, rb⟩ := hrel
          by_cases hlj : j < N
          · skip
            have j0 : (0 : Int) ≤ (j : Int) := by omega
            have j1 : (j : Int) < (N : Int) := by omega
            have c0 := (rT.at j hlj).1
            have c1 := (rL.at i hlt).1
            rw [HX.out] at c1
            have hq := HQS.out j
            obtain ⟨y, hy⟩ : ∃ y, f j = y := ⟨_, rfl⟩
            rw [hy] at c0 hq
            clear hy
            cases hv : Q j with
            | true =>
              rw [hv, Bool.true_or] at hq
              have HQN := Lib.hid (show Q (j + 1) = true from hq)
              clear hq hv
              go_wp2_with fail
              go_quiet (fail)
              clear c0 c1
              have rL1 := rL.drewN nq
              have rT1 := rT.drewN nq
              have rb1 := below_drewN rb nq
              clear rL rT rb
              go_wp2
              go_roundw
              case rel => exact ⟨j + 1, by omega, by rw [HQN.out], by go_num, rL1, rT1, rb1⟩
              case measure => simp [intOf]; omega
            | false =>
              rw [hv, Bool.false_or] at hq
              by_cases hyx : y = x
              · skip
                subst hyx
                rw [decide_eq_true rfl] at hq
                have HQN := Lib.hid (show Q (j + 1) = true from hq)
                clear hq hv
                go_wp2_with fail
                go_quiet (fail)
                clear c0 c1
                have rL1 := rL.drewN nq
                have rT1 := rT.drewN nq
                have rb1 := below_drewN rb nq
                clear rL rT rb
                go_wp2
                go_roundw
                case rel => exact ⟨j + 1, by omega, by rw [HQN.out], by go_num, rL1, rT1, rb1⟩
                case measure => simp [intOf]; omega
              · skip
                rw [decide_eq_false hyx] at hq
                have t1 : (y == x) = false := beq_eq_false_iff_ne.2 hyx
                have t2 : (x == y) = false := beq_eq_false_iff_ne.2 (fun h => hyx h.symm)
                have HQN := Lib.hid (show Q (j + 1) = false from hq)
                clear hq hv
                go_wp2_with fail
                go_quiet (fail)
                clear c0 c1
                have rL1 := rL.drewN nq
                have rT1 := rT.drewN nq
                have rb1 := below_drewN rb nq
                clear rL rT rb
                go_wp2
                go_roundw
                case rel => exact ⟨j + 1, by omega, by rw [HQN.out], by go_num, rL1, rT1, rb1⟩
                case measure => simp [intOf]; omega
          · skip
            obtain rfl : N = j := by omega
            rw [HM.out]
            have bb := HB9.out
            clear bb
            have c1 := (rL.at i hlt).1
            rw [HX.out] at c1
            cases i with
            | zero =>
              have d1 : decide ((0 : Int) < ((0 : Nat) : Int)) = false := rfl
              go_wp2_with fail
              go_quiet (fail)
              have rL1 := rL.drewN nq
              have rT1 := rT.drewN nq
              have rb1 := below_drewN rb nq
              clear rL rT rb
              go_wp2
              go_roundw
              case rel => exact ⟨0 + 1, by omega, by go_num, rL1, rT1, rb1⟩
              case measure => simp [intOf]; omega
            | succ i =>
              have c2 := (rL.at i (by omega)).1
              have ha := M3.out i hlt
              rw [HX.out] at ha
              obtain ⟨p, hp⟩ : ∃ p, g i = p := ⟨_, rfl⟩
              rw [hp] at c2 ha
              clear hp
              have d1 : decide ((0 : Int) < ((i + 1 : Nat) : Int)) = true := decide_eq_true (by omega)
              have d2 : (0 : Int) < ((i + 1 : Nat) : Int) := by omega
              have d3 : ((i + 1 : Nat) : Int) - 1 = (i : Int) := by omega
              have d4 : IntKind.i64.wrap (((i + 1 : Nat) : Int) - 1) = (i : Int) := by rw [d3]; exact IntWalk.i64_in _ (by omega)
              have d5 : ¬ x ≤ p := by omega
              have d6 : decide (x ≤ p) = false := decide_eq_false d5
              have d7 : (0 : Int) ≤ (i : Int) := by omega
              have d8 : (i : Int) < (K : Int) := by omega
              have e1 : 0 < i + 1 := by omega
              have e2 : decide (0 < i + 1) = true := decide_eq_true e1
              obtain ⟨I, hI⟩ : ∃ I, i + 1 = I := ⟨_, rfl⟩
              rw [hI] at c1 e1 e2 d1 d2 d3 d4 i0 i1 hlt hi HX ⊢
              clear ha hI
              go_wp2_with fail
              go_quiet (fail)
              have rL1 := rL.drewN nq
              have rT1 := rT.drewN nq
              have rb1 := below_drewN rb nq
              clear rL rT rb
              go_wp2
              go_roundw
              case rel => exact ⟨I + 1, by omega, by go_num, rL1, rT1, rb1⟩
              case measure => simp [intOf]; omega
      · skip
        obtain rfl : K = i := by omega
        go_wp2
        go_loopw [10] (fun c wr => ∃ i : Nat, i ≤ N ∧ c = .int .i64 i ∧ OF wr W1.heap.size (.slice (some ⟨gl, 0, none⟩) K lpl) K g ∧ OF wr w1.heap.size (.slice (some ⟨gt, 0, none⟩) N lpt) N f ∧ Below w.heap.size w wr) (fun c _ => N - (intOf c).toNat)
        case atStart => exact ⟨0, by omega, rfl, rL, rT, rb⟩
        case round =>
          clear rL rT rb
          obtain ⟨i, hi, rfl, rL, rT, rb⟩ := hrel
          by_cases hlt : i < N
          · skip
            have i0 : (0 : Int) ≤ (i : Int) := by omega
            have i1 : (i : Int) < (N : Int) := by omega
            have hm := M2.out i hlt
            obtain ⟨x, hx⟩ : ∃ x, f i = x := ⟨_, rfl⟩
            rw [hx] at hm
            obtain ⟨Q, hQ⟩ : ∃ Q, anyN g x = Q := ⟨_, rfl⟩
            rw [hQ] at hm
            have hq0 : Q 0 = false := by rw [← hQ]; rfl
            have hqS : ∀ j, Q (j + 1) = (Q j || decide (g j = x)) := fun j => by rw [← hQ]; rfl
            have HX := Lib.hid hx
            have HM := Lib.hid hm
            have HQ0 := Lib.hid hq0
            have HQS := Lib.hid hqS
            clear hx hm hQ hq0 hqS
            go_wp2
            go_loopw [11, 12] (fun s c wr => ∃ j : Nat, j ≤ K ∧ s = .bool (Q j) ∧ c = .int .i64 j ∧ OF wr W1.heap.size (.slice (some ⟨gl, 0, none⟩) K lpl) K g ∧ OF wr w1.heap.size (.slice (some ⟨gt, 0, none⟩) N lpt) N f ∧ Below w.heap.size w wr) (fun _ c _ => K - (intOf c).toNat)
            case atStart => exact ⟨0, by omega, by rw [HQ0.out], rfl, rL, rT, rb⟩
            case round =>
              clear rL rT rb
              obtain ⟨j, hj, rfl, rfl, rL, rT, rb⟩ := hrel
              by_cases hlj : j < K
              · skip
                have j0 : (0 : Int) ≤ (j : Int) := by omega
                have j1 : (j : Int) < (K : Int) := by omega
                have c0 := (rL.at j hlj).1
                have c1 := (rT.at i hlt).1
                rw [HX.out] at c1
                have hq := HQS.out j
                obtain ⟨y, hy⟩ : ∃ y, g j = y := ⟨_, rfl⟩
                rw [hy] at c0 hq
                clear hy
                cases hv : Q j with
                | true =>
                  rw [hv, Bool.true_or] at hq
                  have HQN := Lib.hid (show Q (j + 1) = true from hq)
                  clear hq hv
                  go_wp2_with fail
                  go_quiet (fail)
                  clear c0 c1
                  have rL1 := rL.drewN nq
                  have rT1 := rT.drewN nq
                  have rb1 := below_drewN rb nq
                  clear rL rT rb
                  go_wp2
                  go_roundw
                  case rel => exact ⟨j + 1, by omega, by rw [HQN.out], by go_num, rL1, rT1, rb1⟩
                  case measure => simp [intOf]; omega
                | false =>
                  rw [hv, Bool.false_or] at hq
                  by_cases hyx : y = x
                  · skip
                    subst hyx
                    rw [decide_eq_true rfl] at hq
                    have HQN := Lib.hid (show Q (j + 1) = true from hq)
                    clear hq hv
                    go_wp2_with fail
                    go_quiet (fail)
                    clear c0 c1
                    have rL1 := rL.drewN nq
                    have rT1 := rT.drewN nq
                    have rb1 := below_drewN rb nq
                    clear rL rT rb
                    go_wp2
                    go_roundw
                    case rel => exact ⟨j + 1, by omega, by rw [HQN.out], by go_num, rL1, rT1, rb1⟩
                    case measure => simp [intOf]; omega
                  · skip
                    rw [decide_eq_false hyx] at hq
                    have t1 : (y == x) = false := beq_eq_false_iff_ne.2 hyx
                    have t2 : (x == y) = false := beq_eq_false_iff_ne.2 (fun h => hyx h.symm)
                    have HQN := Lib.hid (show Q (j + 1) = false from hq)
                    clear hq hv
                    go_wp2_with fail
                    go_quiet (fail)
                    clear c0 c1
                    have rL1 := rL.drewN nq
                    have rT1 := rT.drewN nq
                    have rb1 := below_drewN rb nq
                    clear rL rT rb
                    go_wp2
                    go_roundw
                    case rel => exact ⟨j + 1, by omega, by rw [HQN.out], by go_num, rL1, rT1, rb1⟩
                    case measure => simp [intOf]; omega
              · skip
                obtain rfl : K = j := by omega
                rw [HM.out]
                go_wp2
                go_roundw
                case rel => exact ⟨i + 1, by omega, by go_num, rL, rT, rb⟩
                case measure => simp [intOf]; omega
          · skip
            obtain rfl : N = i := by omega
            go_wp2
            go_ret
            exact ⟨rfl, rb⟩
end Go.Proofs.Ytmmonhagceacjaa
