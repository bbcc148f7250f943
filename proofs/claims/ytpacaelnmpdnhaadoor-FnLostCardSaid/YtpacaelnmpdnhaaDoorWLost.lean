/- The walk of the law FnLost. -/
import Derived.Test.YtpacaelnmpdnhaaDoorCop1
import Derived.Test.YtpacaelnmpdnhaaDoorDrawCop
namespace Go.Proofs.YtpacaelnmpdnhaaDoor
open Go.RowKit
set_option linter.unusedVariables false
set_option maxRecDepth 100000
theorem lstN_none {R : ByteArray} (ho : okB R R.size = true) : ∀ k, k ≤ R.size → lstN R k = 0
  | 0, _ => rfl
  | k + 1, h => by
    simp only [lstN]
    rw [lstN_none ho k (by omega), if_neg (by rcases okB_zb R ho k (by omega) with h | h <;> omega)]
theorem lost_zero {R : ByteArray} (ho : okB R R.size = true) (h6 : R.size ≤ 600) : lostA R = 0 := by
  have hc : cpyB R = true := (cpyB_iff R).2 ⟨fun i hi => by rcases okB_zb R ho i hi with h | h <;> omega, h6⟩
  unfold lostA
  rw [hc, lstN_none ho _ (Nat.le_refl _)]; rfl
theorem ok_app {a b : ByteArray} (ha : okB a a.size = true) (hb : okB b b.size = true) : okB (a ++ b) (a ++ b).size = true := okB_of_zb _ fun i hi => by
  rw [ByteArray.size_append] at hi
  by_cases h : i < a.size
  · rw [zb_append_left _ _ _ h]; exact okB_zb a ha i h
  · rw [zb_append_right _ _ _ (by omega) hi]; exact okB_zb b hb _ (by omega)
theorem ok_one {s : ByteArray} {k : Nat} (hk : k < s.size) (h : zb s k = 48 ∨ zb s k = 49) : okB (s.extract k (k + 1)) (s.extract k (k + 1)).size = true := okB_of_zb _ fun i hi => by
  rw [size_extract _ _ _ (by omega)] at hi
  obtain rfl : i = 0 := by omega
  rw [zb_extract _ _ _ _ (by omega) (by omega)]; exact h
set_option maxHeartbeats 1600000 in
theorem fnLost_walk (a0 : Option Addr) (len0 cap0 : Nat) (z0 : List Int) (w : World) (w0 : IsBytes w a0 len0 cap0 z0) (hd : DoorAt w) :
    Calls Tryd.prog 8 #[.slice a0 len0 cap0] w fun e w' => e = .returned (.bool true) ∧ Below w.heap.size w w' := by
  by_cases hl : 1048576 < len0
  · go_enter Tryd.func8, Tryd.ntmps8
    go_wp2
    go_ret
    exact ⟨rfl, Below.refl _ _⟩
  have HD := Lib.hid (fun w1 (b1 : Below w.heap.size w w1) => hd.below b1 hd.lt)
  clear hd
  go_enter Tryd.func8, Tryd.ntmps8
  go_wp2_with fail
  refine (drawLost_any a0 len0 cap0 z0 _ w0).mono ?_
  rintro e W1 ⟨s, rfl, hs, b1⟩
  clear w0
  have hI := fun w hd => iLost_any s w (by omega) hd
  have hS := fun w => sLost_any s w (by omega)
  cases hc : cpyB s with
  | false =>
    have hA : lostA s = -1 := by unfold lostA; rw [hc]; rfl
    simp only [hA] at hI hS
    have HI := Lib.hid hI
    have HS := Lib.hid hS
    clear hI hS hc hA
    go_wp2_with fail
    refine (HI.out _ (HD.out _ b1)).mono ?_
    rintro e w' ⟨rfl, hB⟩
    have c1 := below_then b1 (Nat.le_refl _) hB
    clear hB b1
    go_wp2_with fail
    refine (HS.out _).mono ?_
    rintro e w' ⟨rfl, rfl⟩
    go_wp2_with fail
    refine (HS.out _).mono ?_
    rintro e w' ⟨rfl, rfl⟩
    go_wp2
    go_ret
    exact ⟨rfl, c1⟩
  | true =>
    have hA : lostA s = (lstN s s.size : Nat) := by unfold lostA; rw [hc]; rfl
    obtain ⟨hall, h6⟩ := (cpyB_iff s).1 hc
    have HL := Lib.hid (lstN_le s)
    have HST : Hid (∀ k, lstN s (k + 1) = lstN s k + (if zb s k = 63 then 1 else 0)) := Lib.hid (fun k => rfl)
    obtain ⟨n, hn⟩ : ∃ n, lstN s s.size = n := ⟨_, rfl⟩
    have hns : n ≤ s.size := by rw [← hn]; exact lstN_le s _
    rw [hn] at hA
    simp only [hA] at hI hS
    have HI := Lib.hid hI
    have HS := Lib.hid hS
    have HN := Lib.hid hn
    have HALL := Lib.hid hall
    clear hI hS hc hA hn hall
    go_wp2_with fail
    refine (HI.out _ (HD.out _ b1)).mono ?_
    rintro e w' ⟨rfl, hB⟩
    have c1 := below_then b1 (Nat.le_refl _) hB
    clear hB b1
    go_wp2_with fail
    refine (HS.out _).mono ?_
    rintro e w' ⟨rfl, rfl⟩
    go_wp2
    go_loopw [5, 6] (fun r t wr => ∃ (k : Nat) (R : ByteArray), k ≤ s.size ∧ t = .int .i64 k ∧ r = .string R ∧ Hid (okB R R.size = true) ∧ R.size ≤ k ∧ Hid (R.size + lstN s k = k) ∧ Below w.heap.size w wr) (fun _ t _ => s.size - (intOf t).toNat)
    case atStart => exact ⟨0, ⟨#[]⟩, Nat.zero_le _, rfl, rfl, Lib.hid rfl, Nat.le_refl _, Lib.hid rfl, c1⟩
    case round =>
      clear c1
      obtain ⟨k, R, hk, rfl, rfl, HO, hRk, HR, rb⟩ := hrel
      by_cases hlt : k < s.size
      · have i0 : (0 : Int) ≤ (k : Int) := by omega
        have i1 : (k : Int) < (s.size : Int) := by omega
        have hz := zb_at s k hlt
        have h3 := HALL.out k hlt
        by_cases h : zb s k = 63
        · have HR2 : Hid (R.size + lstN s (k + 1) = k + 1) := Lib.hid (by rw [HST.out, if_pos h]; have := HR.out; omega)
          have n1 : ((s[k].toNat : Int) != 63) = false := by rw [hz, h]; rfl
          clear hz h h3
          go_wp2
          go_roundw
          case rel => exact ⟨k + 1, R, by omega, by go_num, rfl, HO, by omega, HR2, rb⟩
          case measure => simp [intOf]; omega
        · have HR2 : Hid (R.size + 1 + lstN s (k + 1) = k + 1) := Lib.hid (by rw [HST.out, if_neg h]; have := HR.out; omega)
          have n1 : ((s[k].toNat : Int) != 63) = true := by rw [hz, bne_iff_ne]; omega
          have hX := ok_app HO.out (ok_one hlt (by omega))
          have hXs : (R ++ s.extract k (k + 1)).size = R.size + 1 := by rw [ByteArray.size_append, size_extract _ _ _ (by omega)]; omega
          have hes : (s.extract k (k + 1)).size = 1 := by rw [size_extract _ _ _ (by omega)]; omega
          obtain ⟨K, hK⟩ : ∃ K, k + 1 = K := ⟨_, rfl⟩
          have v1 : (k : Int) + 1 = (K : Int) := by omega
          rw [hK] at hX hXs hes
          have i2 : (k : Int) ≤ (K : Int) := by omega
          have i3 : (K : Int) ≤ (s.size : Int) := by omega
          obtain ⟨X, hXX⟩ : ∃ X, s.extract k K = X := ⟨_, rfl⟩
          rw [hXX] at hX hXs hes
          have hsz : R.size + X.size ≤ 9223372036854775807 := by omega
          have HX := Lib.hid hX
          have HK := Lib.hid hK
          clear hz h h3 hX hK
          go_wp2
          go_roundw
          case rel => exact ⟨K, R ++ X, by omega, by first | rfl | go_num, rfl, HX, by have := HK.out; omega, Lib.hid (by rw [hXs, ← HK.out]; exact HR2.out), rb⟩
          case measure => have := HK.out; simp [intOf]; omega
      · obtain rfl : k = s.size := by omega
        have h1 : R.size + n = s.size := by have := HR.out; rw [HN.out] at this; exact this
        have h0 := fun w hd => iLost_any R w (by omega) hd
        simp only [lost_zero HO.out (by omega)] at h0
        have H0 := Lib.hid h0
        have i1 : ¬ (s.size : Int) < (s.size : Int) := by omega
        have v1 : (s.size : Int) - (n : Int) = (R.size : Int) := by omega
        clear h0
        go_wp2_with fail
        refine (H0.out _ (HD.out _ rb)).mono ?_
        rintro e w' ⟨rfl, hB⟩
        have c2 := below_then rb (Nat.le_refl _) hB
        go_wp2
        go_ret
        exact ⟨rfl, c2⟩
end Go.Proofs.YtpacaelnmpdnhaaDoor
