/- The walk of the law FnWalshIndex. -/
import Derived.Test.YtgfehabpoebaoaaDrawWI
import Derived.Test.YtgfehabpoebaoaaWalUse
import Derived.Test.YtgfehabpoebaoaaWalIdx
namespace Go.Proofs.Ytgfehabpoebaoaa
open Go.RowKit
set_option linter.unusedVariables false
set_option maxHeartbeats 6400000 in
set_option maxRecDepth 100000 in
theorem fnWalshIndex_walk (a0 : Option Addr) (len0 cap0 : Nat) (z0 : List Int) (w : World) (w0 : IsBytes w a0 len0 cap0 z0) :
    Calls Try.prog 8 #[.slice a0 len0 cap0] w fun e w' => e = .returned (.bool true) ∧ Below w.heap.size w w' := by
  by_cases hl0 : 1048576 < len0
  · go_enter Try.func8, Try.ntmps8
    go_wp2
    go_ret
    exact ⟨rfl, Below.refl _ _⟩
  go_enter Try.func8, Try.ntmps8
  go_wp2_with fail
  refine (drawWI_any a0 len0 cap0 z0 _ w0).mono ?_
  rintro e W1 ⟨z, rfl, hz, bc⟩
  clear w0
  have hi := fun w => iIdx_any z w (by omega)
  have hs := fun w => sIdx_any z w (by omega)
  have hq := allW_idx z
  have hL := fun (O K : Nat) (hO : O ≤ 6) (hK : K < tw O) w => wal_code O K hO hK w
  have hF0 : allW z 0 = false := rfl
  have hFS : ∀ O, allW z (O + 1) = hitW z O (allW z O) (tw O) := fun _ => rfl
  have hH0 : ∀ O, hitW z O (allW z O) 0 = allW z O := fun _ => rfl
  have hHS : ∀ O K, hitW z O (allW z O) (K + 1) = (hitW z O (allW z O) K || decide (walshB (tw O) K = z)) := fun _ _ => rfl
  obtain ⟨A, hA⟩ : ∃ A, idxAns z = A := ⟨_, rfl⟩
  rw [hA] at hi hs hq
  obtain ⟨I, B⟩ := A
  obtain ⟨hq1, hq2⟩ := hq
  obtain ⟨F, hF⟩ : ∃ F, allW z = F := ⟨_, rfl⟩
  rw [hF] at hq1 hF0
  simp only [hF] at hFS hH0 hHS
  obtain ⟨H, hH⟩ : ∃ H : Nat → Nat → Bool, (fun O K => hitW z O (F O) K) = H := ⟨_, rfl⟩
  have e : ∀ O K, hitW z O (F O) K = H O K := fun O K => by rw [← hH]
  simp only [e] at hFS hH0 hHS
  have HQ1 := Lib.hid hq1
  have HF0 := Lib.hid hF0
  have HFS := Lib.hid hFS
  have HH0 := Lib.hid hH0
  have HHS := Lib.hid hHS
  clear hA hF hH e hq1 hF0 hFS hH0 hHS
  have HI := Lib.hid hi
  have HS := Lib.hid hs
  have HL := Lib.hid hL
  clear hi hs hL
  go_wp2_with fail
  refine (HI.out _).mono ?_
  rintro e w1 ⟨rfl, hb2⟩
  have b3 := below_then bc (Nat.le_refl _) hb2
  clear bc
  have bc := b3
  clear b3 hb2
  go_wp2_with fail
  refine (HS.out _).mono ?_
  rintro e w4 ⟨rfl, hb5⟩
  have b6 := below_then bc (Nat.le_refl _) hb5
  clear bc
  have bc := b6
  clear b6 hb5
  clear HI HS
  cases B with
  | false =>
    clear hq2
    go_wp2_with fail
    go_loopw [8, 9] (fun sv i wr => ∃ O : Nat, O ≤ 7 ∧ sv = .bool (F O) ∧ i = .int .i64 (O : Int) ∧ Below w4.heap.size w4 wr) (fun _ i _ => 7 - (intOf i).toNat)
    case atStart => exact ⟨0, by omega, by rw [HF0.out], rfl, Below.refl _ _⟩
    case round =>
      obtain ⟨O, hO, rfl, rfl, rb⟩ := hrel
      by_cases hlt : O ≤ 6
      · skip
        have i1 : (O : Int) ≤ 6 := by omega
        have p2 := int_tw O
        have ht := tw_6 O hlt
        have hf := HFS.out O
        have hl := fun K => HL.out O K hlt
        have hw := HHS.out O
        obtain ⟨T, hT⟩ : ∃ T, tw O = T := ⟨_, rfl⟩
        rw [hT] at p2 ht hf
        simp only [hT] at hl hw
        have h0 := HH0.out O
        have HF9 := Lib.hid hf
        have HL9 := Lib.hid hl
        have HW9 := Lib.hid hw
        have HZ9 := Lib.hid h0
        clear hf hl hw h0 hT
        obtain ⟨v, hv⟩ : ∃ v, F O = v := ⟨_, rfl⟩
        rw [hv] at HZ9 ⊢
        clear hv
        go_wp2_with fail
        go_loopw [8, 10] (fun sv i wr => ∃ K : Nat, K ≤ T ∧ sv = .bool (H O K) ∧ i = .int .i64 (K : Int) ∧ Below w4.heap.size w4 wr) (fun _ i _ => T - (intOf i).toNat)
        case atStart => exact ⟨0, by omega, by rw [HZ9.out], rfl, rb⟩
        case round =>
          clear rb
          obtain ⟨K, hK, rfl, rfl, rb⟩ := hrel
          by_cases hlk : K < T
          · skip
            have i2 : (K : Int) < (T : Int) := by omega
            have hl := HL9.out K hlk
            have hw := HW9.out K
            obtain ⟨y, hy⟩ : ∃ y, walshB T K = y := ⟨_, rfl⟩
            rw [hy] at hl hw
            have HLK := Lib.hid hl
            clear hl hy
            cases hv : H O K with
            | true =>
              rw [hv, Bool.true_or] at hw
              have HWK := Lib.hid hw
              clear hv hw
              go_wp2
              go_roundw
              case rel => exact ⟨K + 1, by omega, by rw [HWK.out], by go_num, rb⟩
              case measure => simp [intOf]; omega
            | false =>
              rw [hv, Bool.false_or] at hw
              clear hv
              by_cases he : y = z
              · skip
                rw [decide_eq_true he] at hw
                have HWK := Lib.hid hw
                subst he
                clear hw
                go_wp2_with fail
                refine (HLK.out _).mono ?_
                rintro e x1 ⟨rfl, hb1⟩
                have r1 := below_then rb (Nat.le_refl _) hb1
                clear rb hb1 HLK
                go_wp2
                go_roundw
                case rel => exact ⟨K + 1, by omega, by rw [HWK.out], by go_num, r1⟩
                case measure => simp [intOf]; omega
              · skip
                rw [decide_eq_false he] at hw
                have HWK := Lib.hid hw
                have hne := str_ne he
                clear hw
                go_wp2_with fail
                refine (HLK.out _).mono ?_
                rintro e x1 ⟨rfl, hb1⟩
                have r1 := below_then rb (Nat.le_refl _) hb1
                clear rb hb1 HLK
                go_wp2
                go_roundw
                case rel => exact ⟨K + 1, by omega, by rw [HWK.out], by go_num, r1⟩
                case measure => simp [intOf]; omega
          · skip
            obtain rfl : K = T := by omega
            have hf := HF9.out
            rw [← hf]
            obtain ⟨x, hx⟩ : ∃ x, F (O + 1) = x := ⟨_, rfl⟩
            have HX := Lib.hid hx
            rw [hx]
            clear hf hx
            go_wp2
            go_roundw
            case rel => exact ⟨O + 1, by omega, by rw [HX.out], by go_num, rb⟩
            case measure => simp [intOf]; omega
      · skip
        obtain rfl : O = 7 := by omega
        have bc9 := below_then bc (Nat.le_refl _) rb
        rw [HQ1.out]
        clear bc rb hlt hO
        go_wp2
        go_ret
        exact ⟨rfl, bc9⟩
  | true =>
    have x1 : I < (z.size : Int) := hq2 rfl
    clear hq2
    go_wp2_with fail
    go_loopw [8, 9] (fun sv i wr => ∃ O : Nat, O ≤ 7 ∧ sv = .bool (F O) ∧ i = .int .i64 (O : Int) ∧ Below w4.heap.size w4 wr) (fun _ i _ => 7 - (intOf i).toNat)
    case atStart => exact ⟨0, by omega, by rw [HF0.out], rfl, Below.refl _ _⟩
    case round =>
      obtain ⟨O, hO, rfl, rfl, rb⟩ := hrel
      by_cases hlt : O ≤ 6
      · skip
        have i1 : (O : Int) ≤ 6 := by omega
        have p2 := int_tw O
        have ht := tw_6 O hlt
        have hf := HFS.out O
        have hl := fun K => HL.out O K hlt
        have hw := HHS.out O
        obtain ⟨T, hT⟩ : ∃ T, tw O = T := ⟨_, rfl⟩
        rw [hT] at p2 ht hf
        simp only [hT] at hl hw
        have h0 := HH0.out O
        have HF9 := Lib.hid hf
        have HL9 := Lib.hid hl
        have HW9 := Lib.hid hw
        have HZ9 := Lib.hid h0
        clear hf hl hw h0 hT
        obtain ⟨v, hv⟩ : ∃ v, F O = v := ⟨_, rfl⟩
        rw [hv] at HZ9 ⊢
        clear hv
        go_wp2_with fail
        go_loopw [8, 10] (fun sv i wr => ∃ K : Nat, K ≤ T ∧ sv = .bool (H O K) ∧ i = .int .i64 (K : Int) ∧ Below w4.heap.size w4 wr) (fun _ i _ => T - (intOf i).toNat)
        case atStart => exact ⟨0, by omega, by rw [HZ9.out], rfl, rb⟩
        case round =>
          clear rb
          obtain ⟨K, hK, rfl, rfl, rb⟩ := hrel
          by_cases hlk : K < T
          · skip
            have i2 : (K : Int) < (T : Int) := by omega
            have hl := HL9.out K hlk
            have hw := HW9.out K
            obtain ⟨y, hy⟩ : ∃ y, walshB T K = y := ⟨_, rfl⟩
            rw [hy] at hl hw
            have HLK := Lib.hid hl
            clear hl hy
            cases hv : H O K with
            | true =>
              rw [hv, Bool.true_or] at hw
              have HWK := Lib.hid hw
              clear hv hw
              go_wp2
              go_roundw
              case rel => exact ⟨K + 1, by omega, by rw [HWK.out], by go_num, rb⟩
              case measure => simp [intOf]; omega
            | false =>
              rw [hv, Bool.false_or] at hw
              clear hv
              by_cases he : y = z
              · skip
                rw [decide_eq_true he] at hw
                have HWK := Lib.hid hw
                subst he
                clear hw
                go_wp2_with fail
                refine (HLK.out _).mono ?_
                rintro e x1 ⟨rfl, hb1⟩
                have r1 := below_then rb (Nat.le_refl _) hb1
                clear rb hb1 HLK
                go_wp2
                go_roundw
                case rel => exact ⟨K + 1, by omega, by rw [HWK.out], by go_num, r1⟩
                case measure => simp [intOf]; omega
              · skip
                rw [decide_eq_false he] at hw
                have HWK := Lib.hid hw
                have hne := str_ne he
                clear hw
                go_wp2_with fail
                refine (HLK.out _).mono ?_
                rintro e x1 ⟨rfl, hb1⟩
                have r1 := below_then rb (Nat.le_refl _) hb1
                clear rb hb1 HLK
                go_wp2
                go_roundw
                case rel => exact ⟨K + 1, by omega, by rw [HWK.out], by go_num, r1⟩
                case measure => simp [intOf]; omega
          · skip
            obtain rfl : K = T := by omega
            have hf := HF9.out
            rw [← hf]
            obtain ⟨x, hx⟩ : ∃ x, F (O + 1) = x := ⟨_, rfl⟩
            have HX := Lib.hid hx
            rw [hx]
            clear hf hx
            go_wp2
            go_roundw
            case rel => exact ⟨O + 1, by omega, by rw [HX.out], by go_num, rb⟩
            case measure => simp [intOf]; omega
      · skip
        obtain rfl : O = 7 := by omega
        have bc9 := below_then bc (Nat.le_refl _) rb
        rw [HQ1.out]
        clear bc rb hlt hO
        go_wp2
        go_ret
        exact ⟨rfl, bc9⟩
end Go.Proofs.Ytgfehabpoebaoaa
