/- The walk of the law FnStepBits. -/
import Derived.Test.YtmmonhagceacjaaDrawRun
import Derived.Test.YtmmonhagceacjaaRunBoth
import Derived.Test.YtmmonhagceacjaaStepBits
import Derived.Test.YtmmonhagceacjaaSeqFun
namespace Go.Proofs.Ytmmonhagceacjaa
open Go.RowKit
set_option linter.unusedVariables false
set_option maxHeartbeats 1600000 in
set_option maxRecDepth 100000 in
theorem fnStepBits_walk (a0 : Option Addr) (len0 cap0 : Nat) (z0 : List Int) (w : World) (w0 : IsBytes w a0 len0 cap0 z0) :
    Calls Try.prog 3 #[.slice a0 len0 cap0] w fun e w' => e = .returned (.bool true) ∧ Below w.heap.size w w' := by
  by_cases hl0 : 1048576 < len0
  · go_enter Try.func3, Try.ntmps3
    go_wp2
    go_ret
    exact ⟨rfl, Below.refl _ _⟩
  go_enter Try.func3, Try.ntmps3
  go_wp2_with fail
  refine (drawRun_any a0 len0 cap0 z0 _ w0).mono ?_
  rintro e W1 ⟨S, T, X, K, rfl, -, -, -, -, bc⟩
  clear w0
  have hs := fun w => sRun_any S T X K w
  have hi := fun w => iRun_any S T X K w
  by_cases hok : regB S T X = true ∧ 0 ≤ K ∧ K ≤ 600
  · skip
    obtain ⟨s, t, x, rfl, rfl, rfl, h⟩ := RegN.of hok.1
    obtain ⟨n, rfl⟩ : ∃ n : Nat, K = n := ⟨K.toNat, by omega⟩
    rw [runAns_yes h (by omega)] at hs hi
    have hn6 : n ≤ 600 := by omega
    have hsz : (runS s t x n).size = n := runS_size _ _ _ _
    have hzb : ∀ i, i < n → zb (runS s t x n) i = 48 + stepsN s t i x % 2 := fun i hi => zb_strF hi (by omega)
    have s2 := h.lo
    have s8 := h.hi
    have t256 : t < 256 := Nat.lt_of_lt_of_le h.tapLt (tw_le s s8)
    have x256 : x < 256 := Nat.lt_of_lt_of_le h.lt (tw_le s s8)
    have hfb := fun j (hj : j < s) => first_bit (t := t) (x := x) j hj
    have hnb := fun k => next_bit h k
    obtain ⟨Y, hY⟩ : ∃ Y, runS s t x n = Y := ⟨_, rfl⟩
    rw [hY] at hs hi hsz
    simp only [hY] at hzb
    obtain ⟨b, hb⟩ : ∃ b : Nat → Nat, (fun k => stepsN s t k x % 2) = b := ⟨_, rfl⟩
    have hb1 : ∀ k, stepsN s t k x % 2 = b k := fun k => congrFun hb k
    have hb2 : ∀ k, b k ≤ 1 := fun k => by rw [← hb1]; omega
    simp only [hb1] at hzb hfb hnb
    have htl := fun d => tsum_le (t := t) (f := fun i => b (d + i)) (fun i => hb2 _)
    have ht0 : ∀ d, tsum t (fun i => b (d + i)) 0 = 0 := fun d => rfl
    have htS : ∀ d j, tsum t (fun i => b (d + i)) (j + 1) = tsum t (fun i => b (d + i)) j + if bitN t j = 1 then b (d + j) else 0 := fun d j => rfl
    obtain ⟨TS, hTS⟩ : ∃ F : Nat → Nat → Nat, (fun d => tsum t (fun i => b (d + i))) = F := ⟨_, rfl⟩
    have hTS1 : ∀ d, tsum t (fun i => b (d + i)) = TS d := fun d => congrFun hTS d
    simp only [hTS1] at hnb htl ht0 htS
    clear hY hb hb1 hTS hTS1 h hok
    have HS := Lib.hid hs
    have HI := Lib.hid hi
    have HZB := Lib.hid hzb
    have HFB := Lib.hid hfb
    have HNB := Lib.hid hnb
    have HTL := Lib.hid htl
    have HT0 := Lib.hid ht0
    have HTS := Lib.hid htS
    have HB2 := Lib.hid hb2
    have HSZ := Lib.hid hsz
    clear hs hi hzb hfb hnb htl ht0 htS hb2 hsz
    have hb1 := (Below.refl W1.heap.size W1).alloc (Nat.le_refl _) (.cells #[.int .i64 s, .int .i64 t, .int .i64 x] 24)
    have F2 := RegAt.new W1 24 s t x
    have b3 := below_then bc (Nat.le_refl _) hb1
    clear bc hb1
    obtain ⟨cr0, cr1, cr2, crl⟩ := id F2
    go_wp2_with fail
    clear cr0 cr1 cr2 crl
    refine (HI.out _).mono ?_
    rintro e w4 ⟨rfl, hb5⟩
    have F6 := F2.below hb5 F2.2.2.2
    clear F2
    have b7 := below_then b3 (Nat.le_refl _) hb5
    clear b3 hb5
    obtain ⟨cr0, cr1, cr2, crl⟩ := id F6
    go_wp2_with fail
    clear cr0 cr1 cr2 crl
    refine (HS.out _).mono ?_
    rintro e w8 ⟨rfl, hb9⟩
    have F10 := F6.below hb9 F6.2.2.2
    clear F6
    have b11 := below_then b7 (Nat.le_refl _) hb9
    clear b7 hb9
    clear HI HS
    obtain ⟨kr, hkr⟩ : ∃ k, W1.heap.size = k := ⟨_, rfl⟩
    obtain ⟨cr0, cr1, cr2, crl⟩ := id F10
    go_wp2
    clear cr0 cr1 cr2 crl
    rw [hkr] at F10
    clear hkr
    go_loopw [9] (fun c wr => ∃ i : Nat, i ≤ n ∧ c = .int .i64 i ∧ RegAt wr kr s t x ∧ Below w.heap.size w wr) (fun c _ => n - (intOf c).toNat)
    case atStart => exact ⟨0, by omega, rfl, F10, b11⟩
    case round =>
      obtain ⟨i, hi, rfl, rR, rb⟩ := hrel
      clear F10 b11
      have hsz := HSZ.out
      by_cases hlt : i < n
      · skip
        have i0 : (0 : Int) ≤ (i : Int) := by omega
        have i1 : (i : Int) < (Y.size : Int) := by omega
        have i2 : i < Y.size := by omega
        have q0 := zb_at Y i i2
        rw [HZB.out i hlt] at q0
        have q1 := HB2.out i
        by_cases his : i < s
        · skip
          have i3 : (i : Int) < (s : Int) := by omega
          have q2 := HFB.out i his
          have i8 : i ≤ 8 := by omega
          obtain ⟨v, hv⟩ : ∃ v, b i = v := ⟨_, rfl⟩
          rw [hv] at q0 q1 q2
          obtain ⟨a0, b1, a1, b2, b3⟩ := byte_facts _ v q0 q1
          obtain ⟨T, Q, d1, d2, d3, d4, d5, d6, d7, d8, d9, d10, d11⟩ := digit_facts x i x256 i8
          rw [← q2] at d8 d9 d10
          clear q0 q2 hv a0
          obtain ⟨cr0, cr1, cr2, crl⟩ := id rR
          go_wp2_with fail
          go_quiet (fail)
          clear cr0 cr1 cr2 crl
          have rR1 := rR.below (below_drewN (Below.refl wr.heap.size wr) nq) rR.2.2.2
          have rb1 := below_drewN rb nq
          clear rR rb a1 b1 b2 b3 d1 d2 d3 d4 d5 d6 d7 d8 d9 d10
          go_wp2
          go_roundw
          case rel => exact ⟨i + 1, by omega, by go_num, rR1, rb1⟩
          case measure => simp [intOf]; omega
        · skip
          have i3 : ¬ ((i : Int) < (s : Int)) := by omega
          obtain ⟨d, rfl⟩ : ∃ d, i = d + s := ⟨i - s, by omega⟩
          have q2 := HNB.out d
          have hT0 := HT0.out d
          have hTL := HTL.out d
          have hTS := HTS.out d
          obtain ⟨F, hF⟩ : ∃ F, TS d = F := ⟨_, rfl⟩
          rw [hF] at q2 hT0 hTL
          simp only [hF] at hTS
          obtain ⟨v, hv⟩ : ∃ v, b (d + s) = v := ⟨_, rfl⟩
          rw [hv] at q0 q1 q2
          obtain ⟨I, hI⟩ : ∃ I, d + s = I := ⟨_, rfl⟩
          have hds : (I : Int) - (s : Int) = (d : Int) := by omega
          simp only [hI] at hi hlt i0 i1 i2 i3 q0 his ⊢
          have HIS := Lib.hid hI
          have HT9 := Lib.hid hT0
          have HL9 := Lib.hid hTL
          have HS9 := Lib.hid hTS
          have HDS := Lib.hid hds
          have a0 : ((Y[I].toNat : Nat) : Int) - 48 = (v : Int) := by omega
          have HA0 := Lib.hid a0
          have HQ2 := Lib.hid q2
          clear hT0 hTL hTS hF hv hI hds a0 q0 q2
          obtain ⟨cr0, cr1, cr2, crl⟩ := id rR
          go_wp2
          clear cr0 cr1 cr2 crl
          go_loopw [10, 11] (fun a c wr => ∃ j : Nat, j ≤ s ∧ a = .int .i64 (F j : Nat) ∧ c = .int .i64 j ∧ RegAt wr kr s t x ∧ Below w.heap.size w wr) (fun _ c _ => s - (intOf c).toNat)
          case atStart => exact ⟨0, by omega, by rw [HT9.out]; rfl, rfl, rR, rb⟩
          case round =>
            clear rR rb
            obtain ⟨j, hj, rfl, rfl, rR, rb⟩ := hrel
            have f1 := HL9.out j
            by_cases hlj : j < s
            · skip
              have j1 : (j : Int) < (s : Int) := by omega
              have hn := HS9.out j
              obtain ⟨A, hA⟩ : ∃ A, F j = A := ⟨_, rfl⟩
              rw [hA] at hn f1 ⊢
              have hbt := bitN_lt t j
              have hds := HDS.out
              have hdj : d + j < n := by have := HIS.out; omega
              obtain ⟨E, hE⟩ : ∃ E, d + j = E := ⟨_, rfl⟩
              have e0 : (d : Int) + (j : Int) = (E : Int) := by omega
              rw [hE] at hn hdj
              have e1 : (E : Int) < (Y.size : Int) := by omega
              have e2 : E < Y.size := by omega
              have e3 := zb_at Y E e2
              rw [HZB.out E hdj] at e3
              have e4 := HB2.out E
              obtain ⟨g, hg⟩ : ∃ g, b E = g := ⟨_, rfl⟩
              rw [hg] at hn e3 e4
              have e5 : (0 : Int) ≤ (E : Int) := by omega
              obtain ⟨C, hC⟩ : ∃ C, Y[E].toNat = C := ⟨_, rfl⟩
              rw [hC] at e3
              have e6 : (A : Int) + (C : Int) - 48 = ((A + g : Nat) : Int) := by omega
              have j8 : j ≤ 8 := by omega
              clear hA hE hg e3
              by_cases hb : bitN t j = 1
              · skip
                rw [if_pos hb] at hn
                obtain ⟨N, hN⟩ : ∃ N, A + g = N := ⟨_, rfl⟩
                rw [hN] at hn e6
                have HN := Lib.hid hn
                have n9 : N ≤ 20 := by clear e6; omega
                have h10 : bitN t j = 1 := hb
                obtain ⟨T, Q, d1, d2, d3, d4, d5, d6, d7, d8, d9, d10, d11⟩ := digit_facts t j t256 j8
                rw [h10] at d8 d9
                clear d10 h10 hn hb hbt
                obtain ⟨cr0, cr1, cr2, crl⟩ := id rR
                go_wp2
                clear cr0 cr1 cr2 crl
                go_roundw
                case rel => exact ⟨j + 1, by omega, by rw [HN.out], by go_num, rR, rb⟩
                case measure => simp [intOf]; omega
              · skip
                have HN : Hid (F (j + 1) = A) := Lib.hid (by rw [hn, if_neg hb]; rfl)
                have h10 : bitN t j = 0 := by clear e6; omega
                obtain ⟨T, Q, d1, d2, d3, d4, d5, d6, d7, d8, d9, d10, d11⟩ := digit_facts t j t256 j8
                rw [h10] at d8 d9
                clear d10 h10 hn hb hbt
                obtain ⟨cr0, cr1, cr2, crl⟩ := id rR
                go_wp2
                clear cr0 cr1 cr2 crl
                go_roundw
                case rel => exact ⟨j + 1, by omega, by rw [HN.out], by go_num, rR, rb⟩
                case measure => simp [intOf]; omega
            · skip
              obtain rfl : j = s := by omega
              have q2 := HQ2.out
              obtain ⟨A, hA⟩ : ∃ A, F j = A := ⟨_, rfl⟩
              rw [hA] at q2 f1 ⊢
              have a0 := HA0.out
              have m1 : (A : Int) % 2 = (v : Int) := by omega
              have m2 : (A : Int).tmod 2 = (v : Int) := by rw [Int.tmod_eq_emod_of_nonneg (by omega)]; omega
              clear q2 hA
              obtain ⟨cr0, cr1, cr2, crl⟩ := id rR
              go_wp2
              clear cr0 cr1 cr2 crl
              go_roundw
              case rel => exact ⟨I + 1, by omega, by go_num, rR, rb⟩
              case measure => simp [intOf]; omega
      · skip
        obtain rfl : i = n := by omega
        obtain ⟨cr0, cr1, cr2, crl⟩ := id rR
        go_wp2
        go_ret
        exact ⟨rfl, rb⟩
  · skip
    rw [runAns_no hok] at hs hi
    unfold noS at hs hi
    clear hok
    have HS := Lib.hid hs
    have HI := Lib.hid hi
    clear hs hi
    have hb12 := (Below.refl W1.heap.size W1).alloc (Nat.le_refl _) (.cells #[.int .i64 S, .int .i64 T, .int .i64 X] 24)
    have F13 := RegAt.new W1 24 S T X
    have b14 := below_then bc (Nat.le_refl _) hb12
    clear bc hb12
    obtain ⟨cr0, cr1, cr2, crl⟩ := id F13
    go_wp2_with fail
    clear cr0 cr1 cr2 crl
    refine (HI.out _).mono ?_
    rintro e w15 ⟨rfl, hb16⟩
    have F17 := F13.below hb16 F13.2.2.2
    clear F13
    have b18 := below_then b14 (Nat.le_refl _) hb16
    clear b14 hb16
    obtain ⟨cr0, cr1, cr2, crl⟩ := id F17
    go_wp2_with fail
    clear cr0 cr1 cr2 crl
    refine (HS.out _).mono ?_
    rintro e w19 ⟨rfl, hb20⟩
    have F21 := F17.below hb20 F17.2.2.2
    clear F17
    have b22 := below_then b18 (Nat.le_refl _) hb20
    clear b18 hb20
    obtain ⟨cr0, cr1, cr2, crl⟩ := id F21
    go_wp2
    go_ret
    exact ⟨rfl, b22⟩
end Go.Proofs.Ytmmonhagceacjaa
