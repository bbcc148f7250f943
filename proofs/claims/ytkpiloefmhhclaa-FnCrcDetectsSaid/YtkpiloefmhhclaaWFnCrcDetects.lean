/- The walk of the law FnCrcDetects. -/
import Derived.Test.YtkpiloefmhhclaaDrawFrm
import Derived.Test.YtkpiloefmhhclaaCrcDet
namespace Go.Proofs.Ytkpiloefmhhclaa
open Go.RowKit
set_option linter.unusedVariables false
set_option maxRecDepth 100000
theorem mkB {z : ByteArray} (h : okB z z.size = true) (h6 : z.size ≤ 600) : bitsB z = true := by unfold bitsB; rw [h, decide_eq_true h6]; rfl
set_option maxHeartbeats 1600000 in
theorem fnCrcDetects_walk (a0 : Option Addr) (len0 cap0 : Nat) (z0 : List Int) (a1 : Option Addr) (len1 cap1 : Nat) (z1 : List Int) (w : World) (w0 : IsBytes w a0 len0 cap0 z0) (_ : IsBytes w a1 len1 cap1 z1) :
    Calls Try.prog 6 #[.slice a0 len0 cap0, .slice a1 len1 cap1] w fun e w' => e = .returned (.bool true) ∧ Below w.heap.size w w' := by
  by_cases hl : 1048576 < len0
  · go_enter Try.func6, Try.ntmps6
    go_wp2
    go_ret
    exact ⟨rfl, Below.refl _ _⟩
  by_cases hl1 : 1048576 < len1
  · go_enter Try.func6, Try.ntmps6
    go_wp2
    go_ret
    exact ⟨rfl, Below.refl _ _⟩
  go_enter Try.func6, Try.ntmps6
  go_wp2_with fail
  refine (drawCrc_any a0 len0 cap0 z0 _ w0).mono ?_
  rintro e W1 ⟨z, rfl, hz, b1⟩
  clear w0
  have hI := fun w => iCrc_any z w (by omega)
  have hS := fun w => sCrc_any z w (by omega)
  cases hb : bitsB z with
  | false =>
    rw [crcAns_no hb] at hI hS
    have HI := Lib.hid hI
    have HS := Lib.hid hS
    clear hI hS hb
    go_wp2_with fail
    refine (HI.out _).mono ?_
    rintro e w' ⟨rfl, hB⟩
    have c1 := below_then b1 (Nat.le_refl _) hB
    clear hB b1
    go_wp2_with fail
    refine (HS.out _).mono ?_
    rintro e w' ⟨rfl, hB⟩
    have c2 := below_then c1 (Nat.le_refl _) hB
    clear hB c1
    go_wp2
    go_ret
    exact ⟨rfl, c2⟩
  | true =>
    rw [crcAns_yes hb] at hI hS
    obtain ⟨ho, h6⟩ := bits_of hb
    have HF1 := Lib.hid (fun i (hi : i < z.size) w => ssFlip_any z i w hi (okB_zb z ho i hi))
    have HF2 := Lib.hid (fun i k (hi : i < z.size) (hk : k < z.size) w => ssFlip_any (flipS z i) k w (by rw [flipS_size]; exact hk) (okB_zb _ (flipS_ok ho i) k (by rw [flipS_size]; exact hk)))
    have HC1 := Lib.hid (fun i w => show Calls Try.prog 23 #[.string (flipS z i)] w fun e w' => e = .returned (.tuple #[.string (crcV (flipS z i)), .bool true]) ∧ Below w.heap.size w w' by
      have := iCrc_any (flipS z i) w (by rw [flipS_size]; omega)
      rw [crcAns_yes (mkB (flipS_ok ho i) (by rw [flipS_size]; exact h6))] at this
      exact this)
    have HC2 := Lib.hid (fun i k w => show Calls Try.prog 23 #[.string (flipS (flipS z i) k)] w fun e w' => e = .returned (.tuple #[.string (crcV (flipS (flipS z i) k)), .bool true]) ∧ Below w.heap.size w w' by
      have := iCrc_any (flipS (flipS z i) k) w (by rw [flipS_size, flipS_size]; omega)
      rw [crcAns_yes (mkB (flipS_ok (flipS_ok ho i) k) (by rw [flipS_size, flipS_size]; exact h6))] at this
      exact this)
    have HN1 := Lib.hid (fun i (hi : i < z.size) => str_ne (crc_flip1 ho hi))
    have HN2 := Lib.hid (fun i k (h1 : i < k) (h2 : k ≤ i + 7) (hk : k < z.size) => str_ne (crc_flip2 ho h1 h2 hk))
    obtain ⟨C, hC⟩ : ∃ C, crcV z = C := ⟨_, rfl⟩
    rw [hC] at hI hS HN1 HN2
    have HI := Lib.hid hI
    have HS := Lib.hid hS
    obtain ⟨q, hq⟩ : ∃ m, len1 % 7 = m := ⟨_, rfl⟩
    have hq7 : q < 7 := by omega
    have hmod : (len1 : Int) % 7 = (q : Int) := by omega
    clear hI hS hb ho hC hq
    go_wp2_with fail
    refine (HI.out _).mono ?_
    rintro e w' ⟨rfl, hB⟩
    have c1 := below_then b1 (Nat.le_refl _) hB
    clear hB b1
    go_wp2_with fail
    refine (HS.out _).mono ?_
    rintro e w' ⟨rfl, hB⟩
    have c2 := below_then c1 (Nat.le_refl _) hB
    clear hB c1
    by_cases h60 : 60 < z.size
    · have g60 : (60 : Int) < (z.size : Int) := by omega
      go_wp2
      go_ret
      exact ⟨rfl, c2⟩
    · have g60 : ¬ (60 : Int) < (z.size : Int) := by omega
      go_wp2
      clear g60 HI HS
      go_loopw [10] (fun i wr => ∃ k : Nat, k ≤ z.size ∧ i = .int .i64 k ∧ Below w.heap.size w wr) (fun i _ => z.size - (intOf i).toNat)
      case atStart => exact ⟨0, by omega, rfl, c2⟩
      case round =>
        clear c2
        obtain ⟨i, hi, rfl, rb⟩ := hrel
        by_cases hlt : i < z.size
        · have hf1 := HF1.out i hlt
          have hc1 := HC1.out i
          have hn1 := HN1.out i hlt
          obtain ⟨K, hK⟩ : ∃ K, i + 1 + q = K := ⟨_, rfl⟩
          have hKi : (i : Int) + 1 + (q : Int) = (K : Int) := by omega
          have i1 : (i : Int) < (z.size : Int) := by omega
          have hi6 : i ≤ 600 := by omega
          by_cases hkz : K < z.size
          · have hf2 := HF2.out i K hlt hkz
            have hc2 := HC2.out i K
            have hn2 := HN2.out i K (by omega) (by omega) hkz
            have i2 : (K : Int) < (z.size : Int) := by omega
            obtain ⟨X, hX⟩ : ∃ X, flipS z i = X := ⟨_, rfl⟩
            rw [hX] at hf1 hc1 hn1 hf2 hc2 hn2
            obtain ⟨Y, hY⟩ : ∃ G, flipS X K = G := ⟨_, rfl⟩
            rw [hY] at hf2 hc2 hn2
            obtain ⟨U, hU⟩ : ∃ G, crcV X = G := ⟨_, rfl⟩
            obtain ⟨V, hV⟩ : ∃ G, crcV Y = G := ⟨_, rfl⟩
            rw [hU] at hc1 hn1
            rw [hV] at hc2 hn2
            have G1 := Lib.hid hf1
            have G2 := Lib.hid hc1
            have G3 := Lib.hid hf2
            have G4 := Lib.hid hc2
            clear hf1 hc1 hf2 hc2 hX hY hU hV hK
            go_wp2_with fail
            refine (G1.out _).mono ?_
            rintro e w' ⟨rfl, hB⟩
            have d1 := below_then rb (Nat.le_refl _) hB
            clear hB rb
            go_wp2_with fail
            refine (G2.out _).mono ?_
            rintro e w' ⟨rfl, hB⟩
            have d2 := below_then d1 (Nat.le_refl _) hB
            clear hB d1
            go_wp2_with fail
            refine (G3.out _).mono ?_
            rintro e w' ⟨rfl, hB⟩
            have d3 := below_then d2 (Nat.le_refl _) hB
            clear hB d2
            go_wp2_with fail
            refine (G4.out _).mono ?_
            rintro e w' ⟨rfl, hB⟩
            have d4 := below_then d3 (Nat.le_refl _) hB
            clear hB d3
            go_wp2
            clear hn1 hn2 hKi
            go_roundw
            case rel => exact ⟨i + 1, by omega, by go_num, d4⟩
            case measure => simp [intOf]; omega
          · have i2 : ¬ (K : Int) < (z.size : Int) := by omega
            obtain ⟨X, hX⟩ : ∃ X, flipS z i = X := ⟨_, rfl⟩
            rw [hX] at hf1 hc1 hn1
            obtain ⟨U, hU⟩ : ∃ G, crcV X = G := ⟨_, rfl⟩
            rw [hU] at hc1 hn1
            have G1 := Lib.hid hf1
            have G2 := Lib.hid hc1
            have HK7 := Lib.hid hK
            clear hf1 hc1 hX hU hK
            go_wp2_with fail
            refine (G1.out _).mono ?_
            rintro e w' ⟨rfl, hB⟩
            have d1 := below_then rb (Nat.le_refl _) hB
            clear hB rb
            go_wp2_with fail
            refine (G2.out _).mono ?_
            rintro e w' ⟨rfl, hB⟩
            have d2 := below_then d1 (Nat.le_refl _) hB
            clear hB d1
            go_wp2
            clear hn1 hKi
            go_roundw
            case rel => exact ⟨i + 1, by omega, by go_num, d2⟩
            case measure => simp [intOf]; omega
        · obtain rfl : i = z.size := by omega
          go_wp2
          go_ret
          exact ⟨rfl, rb⟩
end Go.Proofs.Ytkpiloefmhhclaa
