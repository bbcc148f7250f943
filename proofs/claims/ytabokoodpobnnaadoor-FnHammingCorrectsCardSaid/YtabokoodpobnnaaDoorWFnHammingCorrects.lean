/- The walk of the law FnHammingCorrects. -/
import Derived.Test.YtabokoodpobnnaaDoorDrawHamE
import Derived.Test.YtabokoodpobnnaaDoorHamCor
import Derived.Test.YtabokoodpobnnaaDoorFrm14
import Derived.Test.YtabokoodpobnnaaDoorFrm20
namespace Go.Proofs.YtabokoodpobnnaaDoor
open Go.RowKit
set_option linter.unusedVariables false
set_option maxHeartbeats 1600000 in
set_option maxRecDepth 100000 in
theorem fnHammingCorrects_walk (a0 : Option Addr) (len0 cap0 : Nat) (z0 : List Int) (a1 : Option Addr) (len1 cap1 : Nat) (z1 : List Int) (w : World) (w0 : IsBytes w a0 len0 cap0 z0) (w1 : IsBytes w a1 len1 cap1 z1) (hp : PlacesAt w) (h0 : 0 < w.heap.size) :
    Calls Tryd.prog 6 #[.slice a0 len0 cap0, .slice a1 len1 cap1] w fun e w' => e = .returned (.bool true) ∧ Below w.heap.size w w' := by
  by_cases hl : 1048576 < len0
  · go_enter Tryd.func6, Tryd.ntmps6
    go_wp2
    go_ret
    exact ⟨rfl, Below.refl _ _⟩
  by_cases hl1 : 1048576 < len1
  · go_enter Tryd.func6, Tryd.ntmps6
    go_wp2
    go_ret
    exact ⟨rfl, Below.refl _ _⟩
  have HP := Lib.hid (fun w1 (b1 : Below w.heap.size w w1) => (⟨PlacesAt.below hp h0 b1, Nat.lt_of_lt_of_le h0 b1.size⟩ : PlacesAt w1 ∧ 0 < w1.heap.size))
  clear hp h0 w1
  go_enter Tryd.func6, Tryd.ntmps6
  go_wp2_with fail
  refine (drawHamE_any a0 len0 cap0 z0 _ w0).mono ?_
  rintro e W1 ⟨z, rfl, hz, b1⟩
  clear w0
  have HI := Lib.hid (fun w1 (b1 : Below w.heap.size w w1) => iHe_any z w1 (by omega) (HP.out w1 b1).1 (HP.out w1 b1).2)
  have HS := Lib.hid (fun w1 => sHe_any z w1 (by omega))
  by_cases hok : bitsB z = true ∧ z.size % 4 = 0 ∧ z.size / 4 * 7 ≤ 600
  · have hA : heAns z = (cxS z len1 0, true) := by unfold heAns; rw [if_pos hok, cxS_start]
    rw [hA] at HI HS
    obtain ⟨ho, h6⟩ := bits_of2 hok.1
    obtain ⟨m, hm⟩ : ∃ m, z.size / 4 = m := ⟨_, rfl⟩
    have hzs : z.size = 4 * m := by omega
    have m85 : m ≤ 85 := by omega
    have hs := fun t => cxS_size z len1 t
    rw [hm] at hs
    have HD := Lib.hid (fun t w1 (b1 : Below w.heap.size w w1) => iHd_any (cxS z len1 t) w1 (by rw [hs]; omega) (HP.out w1 b1).1 (HP.out w1 b1).2)
    have hd := fun t => hd_cxS ho hok.2.1 hok.2.2 len1 t
    rw [hm] at hd
    simp only [hd] at HD
    have HD0 := HD.out 0
    rw [kN_up0] at HD0
    have HDm := HD.out m
    rw [kN_upm] at HDm
    have HD0 := Lib.hid HD0
    have HDm := Lib.hid HDm
    have HF := Lib.hid (fun t k (ht : t < m) (hk : plK len1 t = k + 1) w => show Calls Tryd.prog 19 #[.string (cxS z len1 t), .int .i64 ((7 * t + k : Nat) : Int)] w fun e w' => e = .returned (.string (cxS z len1 (t + 1))) ∧ Below w.heap.size w w' by
      have h7 := plK_le len1 t
      have := ssFlip_any (cxS z len1 t) (7 * t + k) w (by rw [hs]; omega) (okB_zb _ (cxS_ok ho len1 t) _ (by rw [hs]; omega))
      rw [cxS_flip ho (by omega) hk] at this
      exact this)
    have HC := Lib.hid (fun t (ht : t < m) w => show Calls Tryd.prog 20 #[.string ((cxS z len1 (t + 1)).extract (7 * t) (7 * t + 7))] w fun e w' => e = .returned (.int .i64 ((plK len1 t : Nat) : Int)) ∧ Below w.heap.size w w' by
      have := iSyn_any ((cxS z len1 (t + 1)).extract (7 * t) (7 * t + 7)) w (by rw [size_extract _ _ _ (by rw [hs]; omega)]; omega)
      rw [syn_cxS ho (by omega)] at this
      exact this)
    have HSM := Lib.hid (fun t (h : plK len1 t = 0) => cxS_same (z := z) (L := len1) (t := t) h)
    have HSZ := Lib.hid hs
    have hBz : ((cxS z len1 0).size : Int) = 7 * (m : Int) := by rw [hs]; omega
    obtain ⟨B, hB⟩ : ∃ B, cxS z len1 0 = B := ⟨_, rfl⟩
    have HB := Lib.hid hB
    rw [hB] at HI HS HD0 hBz
    have hzi : (z.size : Int) = 4 * (m : Int) := by omega
    clear hA ho h6 hok hm hs HD hd HP hB hzs hz
    go_wp2_with fail
    refine (HI.out _ b1).mono ?_
    rintro e w2 ⟨rfl, hB2⟩
    have b2 := below_then b1 (Nat.le_refl _) hB2
    clear b1 hB2
    go_wp2_with fail
    refine (HS.out _).mono ?_
    rintro e w3 ⟨rfl, hB3⟩
    have b3 := below_then b2 (Nat.le_refl _) hB3
    clear b2 hB3 HI HS
    go_wp2
    go_loopw [10, 11, 12] (fun x v i wr => ∃ t : Nat, t ≤ m ∧ i = .int .i64 t ∧ v = .int .i64 (kN (plK len1) t : Nat) ∧ x = .string (cxS z len1 t) ∧ Below w.heap.size w wr) (fun _ _ i _ => m - (intOf i).toNat)
    case atStart => exact ⟨0, by omega, rfl, rfl, by rw [HB.out], b3⟩
    case round =>
      clear b3
      obtain ⟨t, ht, rfl, rfl, rfl, rb⟩ := hrel
      by_cases hlt : t < m
      · have hn : kN (plK len1) (t + 1) = kN (plK len1) t + (if plK len1 t = 0 then 0 else 1) := rfl
        have hle := kN_le (plK len1) t
        have hc := HC.out t hlt
        have k7 := plK_le len1 t
        have hs0 := HSZ.out (t + 1)
        obtain ⟨Q, hQ⟩ : ∃ Q, t * t = Q := ⟨_, rfl⟩
        have hQ9 : Q ≤ 7225 := by have := Nat.mul_le_mul (show t ≤ 85 by omega) (show t ≤ 85 by omega); omega
        have q1 : (t : Int) * (t : Int) = (Q : Int) := by rw [← hQ, Int.natCast_mul]
        have hK : plK len1 t = (len1 + Q) % 8 := by unfold plK; rw [hQ]
        obtain ⟨C, hC⟩ : ∃ C, kN (plK len1) t = C := ⟨_, rfl⟩
        have HX := Lib.hid (fun h => HSM.out t h)
        have HF1 := Lib.hid (fun k h => HF.out t k hlt h)
        obtain ⟨X, hX⟩ : ∃ X, cxS z len1 t = X := ⟨_, rfl⟩
        obtain ⟨X2, hX2⟩ : ∃ X, cxS z len1 (t + 1) = X := ⟨_, rfl⟩
        rw [hX2, hX] at HX HF1
        rw [hX2] at hc hs0
        rw [hC] at hn hle ⊢
        rw [hX]
        obtain ⟨A, hA⟩ : ∃ A, 7 * t = A := ⟨_, rfl⟩
        rw [hA] at hc HF1
        obtain ⟨E, hE⟩ : ∃ E, A + 7 = E := ⟨_, rfl⟩
        rw [hE] at hc
        have e1 : (7 : Int) * (t : Int) = (A : Int) := by omega
        have e2 : (A : Int) + 7 = (E : Int) := by omega
        have hEx : E ≤ X2.size := by omega
        have i0 : (t : Int) < (m : Int) := by omega
        obtain ⟨G, hG⟩ : ∃ G, X2.extract A E = G := ⟨_, rfl⟩
        rw [hG] at hc
        by_cases hk0 : plK len1 t = 0
        · have hXX := HX.out hk0
          subst hXX
          rw [hk0] at hc hK
          rw [if_pos hk0] at hn
          have HC1 := Lib.hid hc
          have HN := Lib.hid hn
          have q2 : ((len1 : Int) + (Q : Int)) % 8 = 0 := by omega
          clear hc hn hC hX hQ hK HX HF1 hk0 hs0 k7
          go_wp2_with fail
          refine (HC1.out _).mono ?_
          rintro e w' ⟨rfl, hB⟩
          have d1 := below_then rb (Nat.le_refl _) hB
          clear hB rb
          go_wp2
          go_roundw
          case rel => exact ⟨t + 1, by omega, by go_num, by rw [HN.out]; rfl, by rw [hX2], d1⟩
          case measure => simp [intOf]; omega
        · obtain ⟨k, hk⟩ : ∃ k, plK len1 t = k + 1 := ⟨plK len1 t - 1, by omega⟩
          have hf := HF1.out k hk
          rw [if_neg hk0] at hn
          rw [hk] at hc hK k7
          obtain ⟨K, hKK⟩ : ∃ K, k + 1 = K := ⟨_, rfl⟩
          rw [hKK] at hc hK k7
          obtain ⟨J, hJ⟩ : ∃ J, A + k = J := ⟨_, rfl⟩
          rw [hJ] at hf
          have e3 : (A : Int) + (K : Int) - 1 = (J : Int) := by omega
          have q2 : ((len1 : Int) + (Q : Int)) % 8 = (K : Int) := by omega
          have K0 : (0 : Int) < (K : Int) := by omega
          have HC1 := Lib.hid hc
          have HF2 := Lib.hid hf
          have HN := Lib.hid hn
          clear hc hf hn hC hX hQ hK HX HF1 hk0 hs0 hk hKK hJ
          go_wp2_with fail
          refine (HF2.out _).mono ?_
          rintro e w' ⟨rfl, hB⟩
          have d0 := below_then rb (Nat.le_refl _) hB
          clear hB rb
          go_wp2_with fail
          refine (HC1.out _).mono ?_
          rintro e w' ⟨rfl, hB⟩
          have d1 := below_then d0 (Nat.le_refl _) hB
          clear hB d0
          go_wp2
          go_roundw
          case rel => exact ⟨t + 1, by omega, by go_num, by rw [HN.out]; first | rfl | (congr 1; done) | (congr 1; omega) | simp, by rw [hX2], d1⟩
          case measure => simp [intOf]; omega
      · obtain rfl : t = m := by omega
        have f1 : 4 * (B.size : Int) = 7 * (z.size : Int) := by omega
        have f2 : z.size ≤ 340 := by omega
        have f3 : B.size ≤ 600 := by omega
        have f4 : (B.size : Int) / 7 = (t : Int) := by omega
        clear hBz hzi
        obtain ⟨C, hC⟩ : ∃ C, kN (plK len1) t = C := ⟨_, rfl⟩
        rw [hC] at HDm ⊢
        obtain ⟨X, hX⟩ : ∃ X, cxS z len1 t = X := ⟨_, rfl⟩
        rw [hX] at HDm ⊢
        clear hC hX
        go_wp2_with fail
        refine (HD0.out _ rb).mono ?_
        rintro e w4 ⟨rfl, hB⟩
        have d1 := below_then rb (Nat.le_refl _) hB
        clear hB rb
        go_wp2_with fail
        refine (HDm.out _ d1).mono ?_
        rintro e w5 ⟨rfl, hB⟩
        have d2 := below_then d1 (Nat.le_refl _) hB
        clear hB d1
        go_wp2
        go_ret
        exact ⟨rfl, d2⟩
  · have hA := he_no hok
    rw [hA] at HI HS
    clear hA hok HP
    go_wp2_with fail
    refine (HI.out _ b1).mono ?_
    rintro e w2 ⟨rfl, hB2⟩
    have b2 := below_then b1 (Nat.le_refl _) hB2
    clear b1 hB2
    go_wp2_with fail
    refine (HS.out _).mono ?_
    rintro e w3 ⟨rfl, hB3⟩
    have b3 := below_then b2 (Nat.le_refl _) hB3
    clear b2 hB3 HI HS
    go_wp2
    go_ret
    exact ⟨rfl, b3⟩
end Go.Proofs.YtabokoodpobnnaaDoor
