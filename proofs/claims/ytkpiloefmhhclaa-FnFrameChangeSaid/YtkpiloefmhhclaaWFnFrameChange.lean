/- The walk of the law FnFrameChange. -/
import Derived.Test.YtkpiloefmhhclaaWFnFrame
import Derived.Test.YtkpiloefmhhclaaCrcDet
namespace Go.Proofs.Ytkpiloefmhhclaa
open Go.RowKit
set_option linter.unusedVariables false
set_option maxRecDepth 100000
def flagS : ByteArray := ⟨#[49, 49, 49, 48, 49, 48, 48, 48]⟩
theorem flagS_size : flagS.size = 8 := rfl
theorem flagS_ok : okB flagS flagS.size = true := by decide
theorem frmS_def (z : ByteArray) : frmS z = (flagS ++ innS z) ++ crcV (innS z) := rfl
theorem zb_frm_flag {z : ByteArray} {i : Nat} (hi : i < 8) : zb (frmS z) i = zb flagS i := by
  rw [frmS_def, zb_append_left _ _ _ (by rw [ByteArray.size_append, innS_size, flagS_size]; omega), zb_append_left _ _ _ (by rw [flagS_size]; exact hi)]
theorem zb_frm_crc {z : ByteArray} {i : Nat} (hi : i < 8) : zb (frmS z) (15 + z.size + i) = zb (crcV (innS z)) i := by
  rw [frmS_def, zb_append_right _ _ _ (by rw [ByteArray.size_append, innS_size, flagS_size]; omega) (by rw [ByteArray.size_append, innS_size, flagS_size, crcV_size]; omega), ByteArray.size_append, innS_size, flagS_size]
  congr 1; omega
theorem inn_flip {P : ByteArray} {j : Nat} (hj : j < P.size) : innS (flipS P j) = flipS (innS P) (7 + j) := by
  refine ba_ext (by rw [innS_size, flipS_size, flipS_size, innS_size]) fun i hi => ?_
  rw [innS_size, flipS_size] at hi
  rw [zb_flipS (by rw [innS_size]; exact hi)]
  unfold innS
  rw [flipS_size]
  by_cases h : i < 7
  · rw [zb_append_left _ _ _ (by rw [digS_size]; exact h), zb_append_left _ _ _ (by rw [digS_size]; exact h), if_neg (by omega)]
  · rw [zb_append_right _ _ _ (by rw [digS_size]; omega) (by rw [digS_size, flipS_size]; omega), zb_append_right _ _ _ (by rw [digS_size]; omega) (by rw [digS_size]; omega), digS_size, zb_flipS (by omega)]
    by_cases e : i = 7 + j
    · rw [if_pos (by omega), if_pos e]
    · rw [if_neg (by omega), if_neg e]
/-- A frame with one changed bit, but for those of the number of bits, is none. -/
theorem hit_flip {P : ByteArray} (ho : okB P P.size = true) (h100 : P.size ≤ 100) {i : Nat} (hi : i < 23 + P.size) (hw : i < 8 ∨ 15 ≤ i) : hitB (flipS (frmS P) i) 0 = false := by
  have hfs := frmS_size P
  have hfo := frmS_ok ho
  have hgs : (flipS (frmS P) i).size = 23 + P.size := by rw [flipS_size, hfs]
  have hG : ∀ j, j < 23 + P.size → zb (flipS (frmS P) i) j = if j = i then 97 - zb (frmS P) j else zb (frmS P) j := fun j hj => zb_flipS (by rw [hfs]; exact hj)
  cases hh : hitB (flipS (frmS P) i) 0 with
  | false => rfl
  | true =>
    exfalso
    obtain ⟨q1, q2, q3, q4⟩ := (hitB_iff _ _).1 hh
    rw [hgs] at q1 q3
    have hb : ∀ j, j < 23 + nAt (flipS (frmS P) i) 0 → zb (frmS (parP (flipS (frmS P) i) 0)) j = zb (flipS (frmS P) i) j := fun j hj => by
      rw [q4, zb_extract _ _ _ _ (by rw [hgs]; omega) (by omega), Nat.zero_add]
    rcases hw with h8 | h15
    · have e1 := hb i (by omega)
      rw [zb_frm_flag h8, hG i (by omega), if_pos rfl, zb_frm_flag h8] at e1
      rcases okB_zb flagS flagS_ok i (by rw [flagS_size]; exact h8) with f | f <;> omega
    · have hn : nAt (flipS (frmS P) i) 0 = P.size := by
        have e : nAt (flipS (frmS P) i) 0 = numF (digF P.size 7) 7 := numF_congr 7 fun k hk => by
          show zb (flipS (frmS P) i) (0 + 8 + k) = _
          rw [Nat.zero_add, hG (8 + k) (by omega), if_neg (by omega), zb_frm_num hk]
        rw [e, num_dig _ (by omega)]
      have hps : (parP (flipS (frmS P) i) 0).size = P.size := by unfold parP; rw [hn, size_extract _ _ _ (by rw [hgs]; omega)]; omega
      have hpz : ∀ k, k < P.size → zb (parP (flipS (frmS P) i) 0) k = zb (flipS (frmS P) i) (15 + k) := fun k hk => by
        unfold parP
        rw [hn, zb_extract _ _ _ _ (by rw [hgs]; omega) (by omega)]
      rw [hn] at hb
      by_cases hp : i < 15 + P.size
      · have hQ : parP (flipS (frmS P) i) 0 = flipS P (i - 15) := by
          refine ba_ext (by rw [hps, flipS_size]) fun k hk => ?_
          rw [hps] at hk
          rw [hpz k hk, hG (15 + k) (by omega), zb_flipS hk, zb_frm_pay hk]
          by_cases e : 15 + k = i
          · rw [if_pos e, if_pos (by omega)]
          · rw [if_neg e, if_neg (by omega)]
        have hc : crcV (innS (flipS P (i - 15))) = crcV (innS P) := by
          refine ba_ext (by rw [crcV_size, crcV_size]) fun k hk => ?_
          rw [crcV_size] at hk
          have e1 := hb (15 + P.size + k) (by omega)
          rw [hQ] at e1
          have e2 := zb_frm_crc (z := flipS P (i - 15)) hk
          rw [flipS_size] at e2
          rw [← e2, e1, hG _ (by omega), if_neg (by omega), zb_frm_crc hk]
        rw [inn_flip (by omega)] at hc
        exact crc_flip1 (innS_ok ho) (by rw [innS_size]; omega) hc
      · have hQ : parP (flipS (frmS P) i) 0 = P := by
          refine ba_ext hps fun k hk => ?_
          rw [hps] at hk
          rw [hpz k hk, hG (15 + k) (by omega), if_neg (by omega), zb_frm_pay hk]
        have e1 := hb i (by omega)
        rw [hQ, hG i hi, if_pos rfl] at e1
        rcases okB_zb _ hfo i (by rw [hfs]; exact hi) with f | f <;> omega
set_option maxHeartbeats 1600000 in
theorem fnFrameChange_walk (a0 : Option Addr) (len0 cap0 : Nat) (z0 : List Int) (w : World) (w0 : IsBytes w a0 len0 cap0 z0) :
    Calls Try.prog 8 #[.slice a0 len0 cap0] w fun e w' => e = .returned (.bool true) ∧ Below w.heap.size w w' := by
  by_cases hl : 1048576 < len0
  · go_enter Try.func8, Try.ntmps8
    go_wp2
    go_ret
    exact ⟨rfl, Below.refl _ _⟩
  go_enter Try.func8, Try.ntmps8
  go_wp2_with fail
  refine (drawFrm_any a0 len0 cap0 z0 _ w0).mono ?_
  rintro e W1 ⟨z, rfl, hz, b1⟩
  clear w0
  have hI := fun w => iFrame_any z w (by omega)
  have hS := fun w => sFrame_any z w (by omega)
  cases hp : payB z with
  | false =>
    rw [show frmAns z = noS by unfold frmAns; rw [hp]; rfl] at hI hS
    have HI := Lib.hid hI
    have HS := Lib.hid hS
    clear hI hS hp
    go_wp2_with fail
    refine (HI.out _).mono ?_
    rintro e w' ⟨rfl, hB⟩
    have c1 := below_then b1 (Nat.le_refl _) hB
    clear hB b1
    go_wp2_with fail
    refine (HS.out _).mono ?_
    rintro e w' ⟨rfl, hB⟩
    have c2 := below_then c1 (Nat.le_refl _) hB
    clear hB c1
    go_wp2
    go_ret
    exact ⟨rfl, c2⟩
  | true =>
    rw [show frmAns z = (frmS z, true) by unfold frmAns; rw [hp]; rfl] at hI hS
    obtain ⟨hbz, h100⟩ := (payB_iff z).1 hp
    have ho := (bits_of hbz).1
    have hfo := frmS_ok ho
    have hfs := frmS_size z
    have HNO := Lib.hid (fun i (hi : i < 23 + z.size) (hw : i < 8 ∨ 15 ≤ i) => par_no (z := flipS (frmS z) i) (k := 0) (fun h => by rw [show (0 : Int).toNat = 0 from rfl, hit_flip ho h100 hi hw] at h; exact absurd h.2.2.2 (by simp)))
    have HF := Lib.hid (fun i (hi : i < 23 + z.size) w => ssFlip_any (frmS z) i w (by rw [hfs]; exact hi) (okB_zb _ hfo i (by rw [hfs]; exact hi)))
    have HP := Lib.hid (fun i w => iParse_any (flipS (frmS z) i) 0 w (by rw [flipS_size, hfs]; omega))
    obtain ⟨F, hF⟩ : ∃ F, frmS z = F := ⟨_, rfl⟩
    rw [hF] at hI hS hfs HNO HF HP
    obtain ⟨N, hN⟩ : ∃ N, 23 + z.size = N := ⟨_, rfl⟩
    rw [hN] at hfs HNO HF
    have HI := Lib.hid hI
    have HS := Lib.hid hS
    have hfi : (F.size : Int) = (N : Int) := by omega
    have n6 : N ≤ 200 := by omega
    clear hI hS hp hbz ho hfo hF hN h100 hfs
    go_wp2_with fail
    refine (HI.out _).mono ?_
    rintro e w' ⟨rfl, hB⟩
    have c1 := below_then b1 (Nat.le_refl _) hB
    clear hB b1
    go_wp2_with fail
    refine (HS.out _).mono ?_
    rintro e w' ⟨rfl, hB⟩
    have c2 := below_then c1 (Nat.le_refl _) hB
    clear hB c1 HI HS
    go_wp2
    go_loopw [8] (fun i wr => ∃ k : Nat, k ≤ N ∧ i = .int .i64 k ∧ Below w.heap.size w wr) (fun i _ => N - (intOf i).toNat)
    case atStart => exact ⟨0, by omega, rfl, c2⟩
    case round =>
      clear c2
      obtain ⟨i, hi, rfl, rb⟩ := hrel
      by_cases hlt : i < N
      · have hf1 := HF.out i hlt
        have hp1 := HP.out i
        have i1 : (i : Int) < (N : Int) := by omega
        have hno := HNO.out i hlt
        by_cases hw : i < 8 ∨ 15 ≤ i
        · rw [hno hw] at hp1
          obtain ⟨G, hG⟩ : ∃ G, flipS F i = G := ⟨_, rfl⟩
          rw [hG] at hf1 hp1
          have G1 := Lib.hid hf1
          have G2 := Lib.hid hp1
          clear hno hf1 hp1 hG hw
          go_wp2_with fail
          refine (G1.out _).mono ?_
          rintro e w' ⟨rfl, hB⟩
          have d1 := below_then rb (Nat.le_refl _) hB
          clear hB rb
          go_wp2_with fail
          refine (G2.out _).mono ?_
          rintro e w' ⟨rfl, hB⟩
          have d2 := below_then d1 (Nat.le_refl _) hB
          clear hB d1
          go_wp2
          go_roundw
          case rel => exact ⟨i + 1, by omega, by go_num, d2⟩
          case measure => simp [intOf]; omega
        · have w1 : ¬ (i : Int) < 8 := by omega
          have w2 : ¬ (15 : Int) ≤ (i : Int) := by omega
          obtain ⟨x, hx⟩ : ∃ x, (parAns (flipS F i) 0).1 = x := ⟨_, rfl⟩
          obtain ⟨y, hy⟩ : ∃ x, (parAns (flipS F i) 0).2.1 = x := ⟨_, rfl⟩
          obtain ⟨c, hc⟩ : ∃ x, (parAns (flipS F i) 0).2.2 = x := ⟨_, rfl⟩
          rw [hx, hy, hc] at hp1
          obtain ⟨G, hG⟩ : ∃ G, flipS F i = G := ⟨_, rfl⟩
          rw [hG] at hf1 hp1
          have G1 := Lib.hid hf1
          have G2 := Lib.hid hp1
          clear hno hf1 hp1 hx hy hc hG hw
          go_wp2_with fail
          refine (G1.out _).mono ?_
          rintro e w' ⟨rfl, hB⟩
          have d1 := below_then rb (Nat.le_refl _) hB
          clear hB rb
          go_wp2_with fail
          refine (G2.out _).mono ?_
          rintro e w' ⟨rfl, hB⟩
          have d2 := below_then d1 (Nat.le_refl _) hB
          clear hB d1 G1 G2
          cases c
          all_goals
            go_wp2
            go_roundw
            case rel => exact ⟨i + 1, by omega, by go_num, d2⟩
            case measure => simp [intOf]; omega
      · obtain rfl : i = N := by omega
        go_wp2
        go_ret
        exact ⟨rfl, rb⟩
end Go.Proofs.Ytkpiloefmhhclaa
