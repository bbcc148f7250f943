/- The walk of the law FnBitErrors. -/
import Derived.Test.YtlcnlhephhbhcaaDrawSig2
import Derived.Test.YtlcnlhephhbhcaaSeqAlg3
import Derived.Test.YtlcnlhephhbhcaaSsStr
import Derived.IntWalk
namespace Go.Proofs.Ytlcnlhephhbhcaa
open Go.RowKit
set_option linter.unusedVariables false
theorem errN_comm (a b : ByteArray) : ∀ k, errN b a k = errN a b k
  | 0 => rfl
  | k + 1 => by
    simp only [errN]
    rw [errN_comm a b k]
    by_cases h : zb a k = zb b k
    · rw [if_pos h, if_pos h.symm]
    · rw [if_neg h, if_neg (fun e => h e.symm)]
theorem errN_tri (a b c : ByteArray) : ∀ k, errN a b k ≤ errN a c k + errN c b k
  | 0 => Nat.le_refl _
  | k + 1 => by
    have ih := errN_tri a b c k
    simp only [errN]
    by_cases h1 : zb a k = zb c k
    · by_cases h2 : zb c k = zb b k
      · rw [if_pos (h1.trans h2), if_pos h1, if_pos h2]; omega
      · rw [if_pos h1, if_neg h2]; split <;> omega
    · rw [if_neg h1]; split <;> split <;> omega
theorem errN_zero (a b : ByteArray) : ∀ k, errN a b k = 0 → ∀ i, i < k → zb a i = zb b i
  | 0, _, i, hi => absurd hi (Nat.not_lt_zero i)
  | k + 1, h, i, hi => by
    simp only [errN] at h
    by_cases h1 : zb a k = zb b k
    · rw [if_pos h1] at h
      by_cases e : i = k
      · rw [e]; exact h1
      · exact errN_zero a b k (by omega) i (by omega)
    · rw [if_neg h1] at h; omega
theorem errN_self (a : ByteArray) : ∀ k, errN a a k = 0
  | 0 => rfl
  | k + 1 => by simp only [errN, errN_self a k, if_true]
theorem errN_step (a b : ByteArray) (k : Nat) (hk : k < a.size) (h1 : zb a k = 48 ∨ zb a k = 49) (h2 : zb b k = 48 ∨ zb b k = 49) : (errN a b (k + 1) : Int) = (errN a b k : Int) + (zb (addS a b) k : Int) - 48 := by
  rw [zb_addS a b k hk]
  simp only [errN]
  unfold addB
  split <;> omega
set_option maxHeartbeats 1600000 in
set_option maxRecDepth 100000 in
theorem fnBitErrors_walk (a0 : Option Addr) (len0 cap0 : Nat) (z0 : List Int) (w : World) (w0 : IsBytes w a0 len0 cap0 z0) :
    Calls Try.prog 15 #[.slice a0 len0 cap0] w fun e w' => e = .returned (.bool true) ∧ Below w.heap.size w w' := by
  by_cases hl0 : 1048576 < len0
  · go_enter Try.func15, Try.ntmps15
    go_wp2
    go_ret
    exact ⟨rfl, Below.refl _ _⟩
  go_enter Try.func15, Try.ntmps15
  go_wp2_with fail
  refine (drawBitErr_any a0 len0 cap0 z0 _ w0).mono ?_
  rintro e W1 ⟨a, b, rfl, ha, hb, bc⟩
  clear w0
  have hi := fun w => iErrs_any a b w (by omega) (by omega)
  have hs := fun w => sErrs_any a b w (by omega) (by omega)
  cases hv : bitsB a && (bitsB b && decide (a.size = b.size)) with
  | false =>
    rw [show errAns a b = -1 by unfold errAns; rw [hv]; rfl] at hi hs
    have HI := Lib.hid hi
    have HS := Lib.hid hs
    clear hi hs hv
    go_wp2_with fail
    refine (HI.out _).mono ?_
    rintro e w2 ⟨rfl, hb2⟩
    have c2 := below_then bc (Nat.le_refl _) hb2
    clear bc hb2
    go_wp2_with fail
    refine (HS.out _).mono ?_
    rintro e w3 ⟨rfl, hb3⟩
    have c3 := below_then c2 (Nat.le_refl _) hb3
    clear c2 hb3
    go_wp2_with fail
    refine (HS.out _).mono ?_
    rintro e w4 ⟨rfl, hb4⟩
    have c4 := below_then c3 (Nat.le_refl _) hb4
    clear c3 hb4
    go_wp2
    go_ret
    exact ⟨rfl, c4⟩
  | true =>
    rw [show errAns a b = (errN a b a.size : Int) by unfold errAns; rw [hv]; rfl] at hi hs
    simp only [Bool.and_eq_true, decide_eq_true_eq] at hv
    obtain ⟨h1, h2, h3⟩ := hv
    obtain ⟨a1, a2⟩ := (bits_iff a).1 h1
    obtain ⟨b1, b2⟩ := (bits_iff b).1 h2
    have hr1 : bitsB (revS a) = true := (bits_iff _).2 ⟨revS_ok a a1, by rw [revS_size]; omega⟩
    have hJ := fun w => iErrs_any b a w (by omega) (by omega)
    rw [show errAns b a = (errN a b a.size : Int) by unfold errAns; rw [h2, h1, decide_eq_true h3.symm, ← h3, errN_comm]; rfl] at hJ
    have hK := fun w => iErrs_any a (revS a) w (by omega) (by rw [revS_size]; omega)
    rw [show errAns a (revS a) = (errN a (revS a) a.size : Int) by unfold errAns; rw [h1, hr1, decide_eq_true (revS_size a).symm]; rfl] at hK
    have hL := fun w => iErrs_any (revS a) b w (by rw [revS_size]; omega) (by omega)
    rw [show errAns (revS a) b = (errN (revS a) b a.size : Int) by unfold errAns; rw [hr1, h2, decide_eq_true (show (revS a).size = b.size by rw [revS_size]; exact h3), revS_size]; rfl] at hL
    have hT := fun w => ssTurned_any a w (by omega)
    have hX := fun w => ssXor_any a b w a1 b1 h3 (by omega)
    have tri := errN_tri a b (revS a) a.size
    have l0 := errN_le a b a.size
    have l1 := errN_le a (revS a) a.size
    have l2 := errN_le (revS a) b a.size
    have hz : errN a b a.size = 0 → a = b := fun h => ba_ext h3 (errN_zero a b _ h)
    have hnz : errN a b a.size ≠ 0 → a ≠ b := fun h e => h (by rw [← e]; exact errN_self a _)
    have HSZ := Lib.hid (addS_size a b)
    have HSP := Lib.hid (fun k (hk : k < a.size) => errN_step a b k hk (okB_zb a a1 k hk) (okB_zb b b1 k (by omega)))
    have HBD := Lib.hid (fun k (hk : k < a.size) => okB_zb (addS a b) (addS_ok a b) k (by rw [addS_size]; exact hk))
    have HLE := Lib.hid (errN_le a b)
    obtain ⟨N1, hN1⟩ : ∃ N, errN a (revS a) a.size = N := ⟨_, rfl⟩
    obtain ⟨N2, hN2⟩ : ∃ N, errN (revS a) b a.size = N := ⟨_, rfl⟩
    rw [hN1] at hK tri l1
    rw [hN2] at hL tri l2
    obtain ⟨R, hR⟩ : ∃ R, revS a = R := ⟨_, rfl⟩
    rw [hR] at hK hL hT
    obtain ⟨X, hXX⟩ : ∃ R, addS a b = R := ⟨_, rfl⟩
    rw [hXX] at hX HSZ HSP HBD
    obtain ⟨F, hF⟩ : ∃ F, errN a b = F := ⟨_, rfl⟩
    rw [hF] at hi hs hJ tri l0 hz hnz HSP HLE
    obtain ⟨N, hN⟩ : ∃ N, F a.size = N := ⟨_, rfl⟩
    rw [hN] at hi hs hJ tri l0 hz hnz
    have HN := Lib.hid hN
    have HI := Lib.hid hi
    have HS := Lib.hid hs
    have HJ := Lib.hid hJ
    have HK := Lib.hid hK
    have HL := Lib.hid hL
    have HT := Lib.hid hT
    have HX := Lib.hid hX
    have HZ := Lib.hid hz
    have HNZ := Lib.hid hnz
    have q1 : (N : Int) ≤ (N1 : Int) + (N2 : Int) := by omega
    have q2 : (N1 : Int) ≤ 600 := by omega
    have q3 : (N2 : Int) ≤ 600 := by omega
    clear hi hs hJ hK hL hT hX hz hnz hN hF hXX hR hN1 hN2 h1 h2 hr1 tri l1 l2 a1 b1 h3 l0
    go_wp2_with fail
    refine (HI.out _).mono ?_
    rintro e w2 ⟨rfl, hb2⟩
    have c2 := below_then bc (Nat.le_refl _) hb2
    clear bc hb2
    go_wp2_with fail
    refine (HS.out _).mono ?_
    rintro e w3 ⟨rfl, hb3⟩
    have c3 := below_then c2 (Nat.le_refl _) hb3
    clear c2 hb3
    go_wp2_with fail
    refine (HT.out _).mono ?_
    rintro e w4 ⟨rfl, hb4⟩
    have c4 := below_then c3 (Nat.le_refl _) hb4
    clear c3 hb4
    go_wp2_with fail
    refine (HX.out _).mono ?_
    rintro e w5 ⟨rfl, hb5⟩
    have c5 := below_then c4 (Nat.le_refl _) hb5
    clear c4 hb5
    go_wp2_with fail
    go_loop [8, 9] (fun s i => ∃ k : Nat, k ≤ X.size ∧ i = .int .i64 k ∧ s = .int .i64 (F k : Nat)) (fun _ i => X.size - (intOf i).toNat)
    case atStart => exact ⟨0, by omega, rfl, by have := HLE.out 0; rw [show F 0 = 0 by omega]; rfl⟩
    case round =>
      obtain ⟨k, hk, rfl, rfl⟩ := hrel
      by_cases hlt : k < X.size
      · have hka : k < a.size := by have := HSZ.out; omega
        have hv := Lib.hid (HSP.out k hka)
        have hbd := HBD.out k hka
        have hle := HLE.out k
        have hbv : 48 ≤ X[k].toNat ∧ X[k].toNat ≤ 49 := by rw [zb_at X k hlt]; omega
        obtain ⟨hb3, hb4⟩ := hbv
        have hzz := Lib.hid (zb_at X k hlt)
        have i0 : (0 : Int) ≤ (k : Int) := by omega
        have i1 : (k : Int) < (X.size : Int) := by omega
        have i2 : (F k : Int) ≤ 600 := by omega
        obtain ⟨s, hs⟩ : ∃ s : Nat, F k = s := ⟨_, rfl⟩
        rw [hs] at hv i2 ⊢
        clear hs hbd hle
        go_wp2
        go_round
        case rel => exact ⟨k + 1, by omega, by go_num, by rw [hv.out, ← hzz.out]⟩
        case measure => simp [intOf]; omega
      · obtain rfl : X.size = k := by omega
        have hkn : F X.size = N := by have := HSZ.out; rw [this]; exact HN.out
        rw [hkn]
        clear hkn
        by_cases hN0 : N = 0
        · obtain rfl : a = b := HZ.out hN0
          subst hN0
          go_wp2_with fail
          refine (HJ.out _).mono ?_
          rintro e w6 ⟨rfl, hb6⟩
          have c6 := below_then c5 (Nat.le_refl _) hb6
          clear c5 hb6
          go_wp2_with fail
          refine (HK.out _).mono ?_
          rintro e w7 ⟨rfl, hb7⟩
          have c7 := below_then c6 (Nat.le_refl _) hb7
          clear c6 hb7
          go_wp2_with fail
          refine (HL.out _).mono ?_
          rintro e w8 ⟨rfl, hb8⟩
          have c8 := below_then c7 (Nat.le_refl _) hb8
          clear c7 hb8
          go_wp2
          go_ret
          exact ⟨rfl, c8⟩
        · have hne := HNZ.out hN0
          have e1 : ((N : Int) == 0) = false := by rw [beq_eq_false_iff_ne]; omega
          have e2 := str_ne hne
          clear hne hN0
          go_wp2_with fail
          refine (HJ.out _).mono ?_
          rintro e w6 ⟨rfl, hb6⟩
          have c6 := below_then c5 (Nat.le_refl _) hb6
          clear c5 hb6
          go_wp2_with fail
          refine (HK.out _).mono ?_
          rintro e w7 ⟨rfl, hb7⟩
          have c7 := below_then c6 (Nat.le_refl _) hb7
          clear c6 hb7
          go_wp2_with fail
          refine (HL.out _).mono ?_
          rintro e w8 ⟨rfl, hb8⟩
          have c8 := below_then c7 (Nat.le_refl _) hb8
          clear c7 hb8
          go_wp2
          go_ret
          exact ⟨rfl, c8⟩
end Go.Proofs.Ytlcnlhephhbhcaa
