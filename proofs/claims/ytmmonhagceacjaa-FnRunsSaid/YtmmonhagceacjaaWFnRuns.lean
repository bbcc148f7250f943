/- The walk of the law FnRuns. -/
import Derived.Test.YtmmonhagceacjaaDrawRuns
import Derived.Test.YtmmonhagceacjaaRunMath
import Derived.Test.YtmmonhagceacjaaSeqRuns3
import Derived.Test.YtmmonhagceacjaaSsSame
import Derived.Test.YtmmonhagceacjaaSeqYes
namespace Go.Proofs.Ytmmonhagceacjaa
open Go.RowKit
set_option linter.unusedVariables false
set_option maxHeartbeats 1600000 in
set_option maxRecDepth 100000 in
theorem fnRuns_walk (a0 : Option Addr) (len0 cap0 : Nat) (z0 : List Int) (w : World) (w0 : IsBytes w a0 len0 cap0 z0) :
    Calls Try.prog 10 #[.slice a0 len0 cap0] w fun e w' => e = .returned (.bool true) ∧ Below w.heap.size w w' := by
  by_cases hl0 : 1048576 < len0
  · go_enter Try.func10, Try.ntmps10
    go_wp2
    go_ret
    exact ⟨rfl, Below.refl _ _⟩
  go_enter Try.func10, Try.ntmps10
  go_wp2_with fail
  refine (drawRuns_any a0 len0 cap0 z0 _ w0).mono ?_
  rintro e W1 ⟨z, rfl, hz, bc⟩
  clear w0
  have hi := fun w => iRuns_any z w (by omega)
  have hs := fun w => sRuns_any z w (by omega)
  cases hv : seqB z with
  | false =>
    have h0 : rlN z = 0 := by unfold rlN; rw [hv]; rfl
    obtain ⟨g, hg⟩ : ∃ g, rlF z = g := ⟨_, rfl⟩
    rw [h0, hg] at hi hs
    have hb := fun w => iSequenceValid_no z w (by omega) hv
    clear h0 hg hv
    have HI := Lib.hid hi
    have HS := Lib.hid hs
    have HB := Lib.hid hb
    clear hi hs hb
    go_wp2_with fail
    refine (HI.out _).mono ?_
    rintro e w1 ⟨v4, rfl, O3, hb2⟩
    have b5 := below_then bc (Nat.le_refl _) hb2
    clear bc hb2
    obtain ⟨lal, lpl, rfl, lhl⟩ := O3.form
    go_wp2_with fail
    refine (HS.out _).mono ?_
    rintro e w6 ⟨v9, rfl, O8, hb7⟩
    have O10 := O3.below hb7
    clear O3
    have b11 := below_then b5 (Nat.le_refl _) hb7
    clear b5 hb7
    obtain ⟨las, lps, rfl, lhs⟩ := O8.form
    go_wp2_with fail
    refine (ssInts_same _ _ _ _ 0 g _ O10 O8 (by omega)).mono ?_
    rintro e w' ⟨rfl, m12, rfl⟩
    have hb14 := below_drewN (Below.refl w6.heap.size w6) m12
    have O15 := O10.below hb14
    clear O10
    have O16 := O8.below hb14
    clear O8
    have b17 := below_then b11 (Nat.le_refl _) hb14
    clear b11 hb14
    obtain ⟨w13, hW⟩ : ∃ W, w6.drewN m12 = W := ⟨_, rfl⟩
    rw [hW] at O15 O16  b17 ⊢
    clear hW
    clear O16
    go_wp2_with fail
    refine (HS.out _).mono ?_
    rintro e w18 ⟨v21, rfl, O20, hb19⟩
    have O22 := O15.below hb19
    clear O15
    have b23 := below_then b17 (Nat.le_refl _) hb19
    clear b17 hb19
    obtain ⟨lau, lpu, rfl, lhu⟩ := O20.form
    go_wp2_with fail
    refine (ssInts_same _ _ _ _ 0 g _ O22 O20 (by omega)).mono ?_
    rintro e w' ⟨rfl, m24, rfl⟩
    have hb26 := below_drewN (Below.refl w18.heap.size w18) m24
    have O27 := O22.below hb26
    clear O22
    have O28 := O20.below hb26
    clear O20
    have b29 := below_then b23 (Nat.le_refl _) hb26
    clear b23 hb26
    obtain ⟨w25, hW⟩ : ∃ W, w18.drewN m24 = W := ⟨_, rfl⟩
    rw [hW] at O27 O28  b29 ⊢
    clear hW
    clear O28 O27 lhl lhs lhu
    go_wp2_with fail
    refine (HB.out _).mono ?_
    rintro e w' ⟨rfl, rfl⟩
    go_wp2
    go_ret
    exact ⟨rfl, b29⟩
  | true =>
    obtain ⟨K, g, hK, hg, hlen, hsum, hpos, hasc, hpre, hcr, hev⟩ := run_facts hv
    have h1 := ((seqB_iff z).1 hv).2
    rw [hK, hg] at hi hs
    have hsh := fun w => ssShift_yes z 1 w hv
    have hau := fun w => iAuto_any z 1 w (by omega)
    have hpz : pairB z z = true := (pairB_iff z z).2 ⟨hv, hv, rfl⟩
    rw [show autoAns z 1 = (crossN z z (modN 1 z.size), true) from crossAns_yes 1 hpz, hcr] at hau
    clear hpz
    have hc0 : chN z 0 = 0 := rfl
    have hcS : ∀ k, chN z (k + 1) = chN z k + difB (zb z k) (zb z ((k + 1) % z.size)) := fun k => rfl
    have hcl := chN_le z
    have hzn : ∀ i, i < z.size → zb (shift z 1) i = zb z ((i + 1) % z.size) := fun i hi => by rw [zb_shift z 1 i hi, show (1 : Int) = ((1 : Nat) : Int) from rfl, modN_of_nat, Nat.mod_add_mod, Nat.add_comm]
    have hys := shift_size z 1
    obtain ⟨Y, hY⟩ : ∃ Y, shift z 1 = Y := ⟨_, rfl⟩
    rw [hY] at hsh hys
    simp only [hY] at hzn
    obtain ⟨C, hC⟩ : ∃ C, chN z = C := ⟨_, rfl⟩
    rw [hC] at hc0 hcl hlen hev hau
    simp only [hC] at hcS
    obtain ⟨M, hM⟩ : ∃ M, C z.size = M := ⟨_, rfl⟩
    rw [hM] at hlen hev hau
    have hM2 := hcl z.size
    rw [hM] at hM2
    have HC0 := Lib.hid hc0
    have HM := Lib.hid hM
    have HLEN := Lib.hid hlen
    have HEV := Lib.hid hev
    have HYS := Lib.hid hys
    have HSUM := Lib.hid hsum
    have K1 : 0 < K := by omega
    have K2 : K ≤ 300 := by omega
    obtain ⟨h1, h2⟩ := h1
    clear hc0 hM hlen hev hys hsum hK hg hcr hC hY hv hz
    have HI := Lib.hid hi
    have HS := Lib.hid hs
    have HSH := Lib.hid hsh
    have HAU := Lib.hid hau
    have HCS := Lib.hid hcS
    have HCL := Lib.hid hcl
    have HZN := Lib.hid hzn
    have HPOS := Lib.hid hpos
    have HASC := Lib.hid hasc
    have HPRE := Lib.hid hpre
    clear hi hs hsh hau hcS hcl hzn hpos hasc hpre
    go_wp2_with fail
    refine (HI.out _).mono ?_
    rintro e w30 ⟨v33, rfl, O32, hb31⟩
    have b34 := below_then bc (Nat.le_refl _) hb31
    clear bc hb31
    obtain ⟨lal, lpl, rfl, lhl⟩ := O32.form
    go_wp2_with fail
    refine (HS.out _).mono ?_
    rintro e w35 ⟨v38, rfl, O37, hb36⟩
    have O39 := O32.below hb36
    clear O32
    have b40 := below_then b34 (Nat.le_refl _) hb36
    clear b34 hb36
    obtain ⟨las, lps, rfl, lhs⟩ := O37.form
    obtain ⟨gl, rfl, -, -, -⟩ := lhl K1
    have K3 : ((K : Int) == 0) = false := beq_eq_false_iff_ne.2 (by omega)
    clear lhl lhs
    go_wp2_with fail
    refine (ssInts_same _ _ _ _ K g _ O39 O37 (by omega)).mono ?_
    rintro e w' ⟨rfl, m41, rfl⟩
    have hb43 := below_drewN (Below.refl w35.heap.size w35) m41
    have O44 := O39.below hb43
    clear O39
    have O45 := O37.below hb43
    clear O37
    have b46 := below_then b40 (Nat.le_refl _) hb43
    clear b40 hb43
    obtain ⟨w42, hW⟩ : ∃ W, w35.drewN m41 = W := ⟨_, rfl⟩
    rw [hW] at O44 O45  b46 ⊢
    clear hW
    clear O45
    go_wp2
    go_loopw [5, 6] (fun s c wr => ∃ i : Nat, i ≤ K ∧ s = .int .i64 (sumI g i) ∧ c = .int .i64 i ∧ OF wr W1.heap.size (.slice (some ⟨gl, 0, none⟩) K lpl) K g ∧ Below w.heap.size w wr) (fun _ c _ => K - (intOf c).toNat)
    case atStart => exact ⟨0, by omega, rfl, rfl, O44, b46⟩
    case round =>
      clear O44 b46
      obtain ⟨i, hi, rfl, rfl, rL, rb⟩ := hrel
      have hp := HPRE.out i hi
      by_cases hlt : i < K
      · skip
        have i0 : (0 : Int) ≤ (i : Int) := by omega
        have i1 : (i : Int) < (K : Int) := by omega
        have c0 := (rL.at i hlt).1
        have hx := HPOS.out i hlt
        have hS : sumI g (i + 1) = sumI g i + g i := rfl
        obtain ⟨s, hs⟩ : ∃ s, sumI g i = s := ⟨_, rfl⟩
        obtain ⟨x, hx0⟩ : ∃ x, g i = x := ⟨_, rfl⟩
        rw [hs] at hS hp ⊢
        rw [hx0] at hS hx c0
        have HX := Lib.hid hx0
        have HS9 := Lib.hid hS
        obtain ⟨p1, p2⟩ := hp
        obtain ⟨x1, x2⟩ := hx
        clear hs hx0 hS
        have w1 : IntKind.i64.wrap (s + x) = s + x := IntWalk.i64_in _ (by omega)
        have x3 : ¬ x < 1 := by omega
        have x4 : decide (x < 1) = false := decide_eq_false x3
        cases i with
        | zero =>
          have d1 : decide ((0 : Int) < ((0 : Nat) : Int)) = false := rfl
          go_wp2_with fail
          go_quiet (fail)
          have rL1 := rL.drewN nq
          have rb1 := below_drewN rb nq
          clear rL rb
          go_wp2
          go_roundw
          case rel => exact ⟨0 + 1, by omega, by rw [HS9.out], by go_num, rL1, rb1⟩
          case measure => simp [intOf]; omega
        | succ i =>
          have c2 := (rL.at i (by omega)).1
          have ha := HASC.out i hlt
          rw [HX.out] at ha
          obtain ⟨p, hp⟩ : ∃ p, g i = p := ⟨_, rfl⟩
          rw [hp] at c2 ha
          clear hp
          have d1 : decide ((0 : Int) < ((i + 1 : Nat) : Int)) = true := decide_eq_true (by omega)
          have d2 : (0 : Int) < ((i + 1 : Nat) : Int) := by omega
          have d3 : ((i + 1 : Nat) : Int) - 1 = (i : Int) := by omega
          have d4 : IntKind.i64.wrap (((i + 1 : Nat) : Int) - 1) = (i : Int) := by rw [d3]; exact IntWalk.i64_in _ (by omega)
          have d5 : ¬ x < p := by omega
          have d6 : decide (x < p) = false := decide_eq_false d5
          have d7 : (0 : Int) ≤ (i : Int) := by omega
          have d8 : (i : Int) < (K : Int) := by omega
          have e1 : 0 < i + 1 := by omega
          have e2 : decide (0 < i + 1) = true := decide_eq_true e1
          obtain ⟨I, hI⟩ : ∃ I, i + 1 = I := ⟨_, rfl⟩
          rw [hI] at c0 e1 e2 d1 d2 d3 d4 i0 i1 hlt hi HX HS9 ⊢
          clear ha hI
          go_wp2_with fail
          go_quiet (fail)
          have rL1 := rL.drewN nq
          have rb1 := below_drewN rb nq
          clear rL rb
          go_wp2
          go_roundw
          case rel => exact ⟨I + 1, by omega, by rw [HS9.out], by go_num, rL1, rb1⟩
          case measure => simp [intOf]; omega
      · skip
        obtain rfl : K = i := by omega
        rw [HSUM.out]
        clear hp rL
        go_wp2_with fail
        refine (HSH.out _).mono ?_
        rintro e w47 ⟨rfl, hb48⟩
        have b49 := below_then rb (Nat.le_refl _) hb48
        clear rb hb48
        have hys := HYS.out
        have ys0 : Y.size = z.size := hys
        have HYS0 := Lib.hid ys0
        clear hys ys0
        go_wp2
        go_loopw [7, 9] (fun s c wr => ∃ i : Nat, i ≤ z.size ∧ s = .int .i64 (C i : Nat) ∧ c = .int .i64 i ∧ Below w.heap.size w wr) (fun _ c _ => z.size - (intOf c).toNat)
        case atStart => exact ⟨0, by omega, by rw [HC0.out]; rfl, rfl, b49⟩
        case round =>
          clear b49
          obtain ⟨i, hi, rfl, rfl, rb⟩ := hrel
          have hcl := HCL.out i
          by_cases hlt : i < z.size
          · skip
            have i0 : (0 : Int) ≤ (i : Int) := by omega
            have i1 : (i : Int) < (z.size : Int) := by omega
            have i2 : i < z.size := hlt
            have i3 : i < Y.size := by have := HYS0.out; omega
            have i4 : (i : Int) < (Y.size : Int) := by omega
            have q0 := zb_at z i i2
            have q1 := zb_at Y i i3
            rw [HZN.out i hlt] at q1
            have q2 := HCS.out i
            rw [← q0, ← q1] at q2
            clear q0 q1
            obtain ⟨s, hs⟩ : ∃ s, C i = s := ⟨_, rfl⟩
            rw [hs] at q2 hcl ⊢
            clear hs
            by_cases he : z[i].toNat = Y[i].toNat
            · skip
              rw [show difB z[i].toNat Y[i].toNat = 0 from if_pos he] at q2
              have HQ := Lib.hid q2
              have t1 : (((z[i].toNat : Nat) : Int) == ((Y[i].toNat : Nat) : Int)) = true := by rw [he]; exact beq_self_eq_true _
              have t2 : (((z[i].toNat : Nat) : Int) != ((Y[i].toNat : Nat) : Int)) = false := by rw [bne, t1]; rfl
              clear q2 he
              go_wp2_with fail
              go_quiet (fail)
              have rb1 := below_drewN rb nq
              clear rb
              go_wp2
              go_roundw
              case rel => exact ⟨i + 1, by omega, by rw [HQ.out]; rfl, by go_num, rb1⟩
              case measure => simp [intOf]; omega
            · skip
              rw [show difB z[i].toNat Y[i].toNat = 1 from if_neg he] at q2
              have HQ := Lib.hid q2
              have t1 : (((z[i].toNat : Nat) : Int) == ((Y[i].toNat : Nat) : Int)) = false := beq_eq_false_iff_ne.2 (fun h => he (by omega))
              have t2 : (((z[i].toNat : Nat) : Int) != ((Y[i].toNat : Nat) : Int)) = true := by rw [bne, t1]; rfl
              clear q2 he
              go_wp2_with fail
              go_quiet (fail)
              have rb1 := below_drewN rb nq
              clear rb
              go_wp2
              go_roundw
              case rel => exact ⟨i + 1, by omega, by rw [HQ.out]; go_num, by go_num, rb1⟩
              case measure => simp [intOf]; omega
          · skip
            obtain rfl : i = z.size := by omega
            rw [HM.out] at hcl ⊢
            go_wp2_with fail
            refine (HAU.out _).mono ?_
            rintro e w50 ⟨rfl, hb51⟩
            have b52 := below_then rb (Nat.le_refl _) hb51
            clear rb hb51
            have l1 := HLEN.out
            have l2 := HEV.out
            have e1 : max (M : Int) 1 = (K : Int) := by omega
            have e2 : IntKind.i64.wrap (2 * (M : Int)) = 2 * (M : Int) := IntWalk.i64_in _ (by omega)
            have e3 : (M : Int) % 2 = 0 := by omega
            have e4 : (M : Int).tmod 2 = 0 := by rw [Int.tmod_eq_emod_of_nonneg (by omega)]; omega
            clear l1 l2
            go_wp2
            go_ret
            exact ⟨rfl, b52⟩
end Go.Proofs.Ytmmonhagceacjaa
