/- Copies with lost bits: what they are, and how many bits are lost; of both sides. -/
import Derived.Test.YtpacaelnmpdnhaaDoorRplMath
import Derived.Test.YtpacaelnmpdnhaaDoorFrm0
namespace Go.Proofs.YtpacaelnmpdnhaaDoor
open Go.RowKit
set_option linter.unusedVariables false
set_option maxRecDepth 100000
/-- The copy with 0 in the place of each lost bit. -/
def fillS (z : ByteArray) : ByteArray := subS 63 48 z
theorem fillS_list (z : ByteArray) : (fillS z).data.toList = z.data.toList.map (subL 63 48) := subS_data 63 48 (by decide) z
theorem fillS_size (z : ByteArray) : (fillS z).size = z.size := by
  have h := congrArg List.length (fillS_list z)
  rw [List.length_map] at h
  exact h
theorem zb_fillS {z : ByteArray} {i : Nat} (hi : i < z.size) : zb (fillS z) i = if zb z i = 63 then 48 else zb z i := by
  have hl : i < z.data.toList.length := hi
  unfold zb
  rw [fillS_list, List.getD_eq_getElem?_getD, List.getD_eq_getElem?_getD, List.getElem?_map, List.getElem?_eq_getElem hl]
  show (subL 63 48 _).toNat = _
  unfold subL
  simp only [Option.getD_some]
  by_cases h : z.data.toList[i] = 63
  · rw [if_pos h, h]; rfl
  · rw [if_neg h, if_neg (fun e : z.data.toList[i].toNat = 63 => h (UInt8.toNat_inj.1 (e.trans (by decide))))]
/-- Whether a string is a copy. -/
def cpyB (z : ByteArray) : Bool := bitsB (fillS z)
theorem cpyB_iff (z : ByteArray) : cpyB z = true ↔ (∀ i, i < z.size → zb z i = 48 ∨ zb z i = 49 ∨ zb z i = 63) ∧ z.size ≤ 600 := by
  unfold cpyB bitsB
  rw [Bool.and_eq_true, decide_eq_true_eq, fillS_size]
  constructor
  · rintro ⟨h1, h2⟩
    refine ⟨fun i hi => ?_, h2⟩
    have h3 := okB_zb (fillS z) (by rw [fillS_size]; exact h1) i (by rw [fillS_size]; exact hi)
    rw [zb_fillS hi] at h3
    split at h3 <;> omega
  · rintro ⟨h1, h2⟩
    refine ⟨?_, h2⟩
    have := okB_of_zb (fillS z) fun i hi => by
      rw [fillS_size] at hi
      rw [zb_fillS hi]
      have := h1 i hi
      split <;> omega
    rwa [fillS_size] at this
/-- How many of the first k letters are marks of lost bits. -/
def lstN (z : ByteArray) : Nat → Nat
  | 0 => 0
  | k + 1 => lstN z k + (if zb z k = 63 then 1 else 0)
theorem lstN_le (z : ByteArray) : ∀ k, lstN z k ≤ k
  | 0 => Nat.le_refl _
  | k + 1 => by have := lstN_le z k; simp only [lstN]; split <;> omega
theorem lstN_count (z : ByteArray) : ∀ k, k ≤ z.size → (z.data.toList.take k).count 63 = lstN z k
  | 0, _ => rfl
  | k + 1, h => by
    rw [take_snoc' z k (by omega), List.count_append, lstN_count z k (by omega), List.count_cons, List.count_nil]
    simp only [lstN]
    congr 1
    rw [← zb_at z k (by omega)]
    by_cases e : z[k] = 63
    · rw [if_pos (by rw [e]; rfl), if_pos (by rw [e]; rfl)]
    · rw [if_neg (by simpa using e), if_neg (fun h : z[k].toNat = 63 => e (UInt8.toNat_inj.1 (h.trans (by decide))))]
theorem lst_count (z : ByteArray) : z.data.toList.count 63 = lstN z z.size := by
  rw [← lstN_count z z.size (Nat.le_refl _), List.take_of_length_le (by rw [data_size]; exact Nat.le_refl _)]
def lostA (z : ByteArray) : Int := if cpyB z then ((lstN z z.size : Nat) : Int) else -1
theorem sCopy_any (z : ByteArray) (w : World) (hs : z.size ≤ 1048576) :
    Calls Tryd.prog 29 #[.string z] w fun e w' => e = .returned (.bool (cpyB z)) ∧ w = w' := by
  have HN := Lib.hid (fun i (hi : i < z.size) (h : ¬ (zb z i = 48 ∨ zb z i = 49 ∨ zb z i = 63)) => show cpyB z = false by
    rw [Bool.eq_false_iff]; intro h2; exact h (((cpyB_iff z).1 h2).1 i hi))
  have HY := Lib.hid (fun (h : ∀ i, i < z.size → zb z i = 48 ∨ zb z i = 49 ∨ zb z i = 63) => show cpyB z = decide (z.size ≤ 600) by
    rw [Bool.eq_iff_iff, cpyB_iff, decide_eq_true_eq]; exact ⟨fun h2 => h2.2, fun h2 => ⟨h, h2⟩⟩)
  obtain ⟨B, hB⟩ : ∃ B, cpyB z = B := ⟨_, rfl⟩
  rw [hB] at HN HY ⊢
  clear hB
  go_enter Tryd.func29, Tryd.ntmps29
  go_wp2
  go_loopw [3] (fun i wr => ∃ k : Nat, k ≤ z.size ∧ i = .int .i64 k ∧ Hid (∀ t, t < k → zb z t = 48 ∨ zb z t = 49 ∨ zb z t = 63) ∧ wr = w) (fun i _ => z.size - (intOf i).toNat)
  case atStart => exact ⟨0, by omega, rfl, Lib.hid (fun t ht => absurd ht (Nat.not_lt_zero t)), rfl⟩
  case round =>
    obtain ⟨k, hk, rfl, HK, rfl⟩ := hrel
    by_cases hlt : k < z.size
    · have i0 : (0 : Int) ≤ (k : Int) := by omega
      have i1 : (k : Int) < (z.size : Int) := by omega
      have hz := zb_at z k hlt
      by_cases h : zb z k = 48 ∨ zb z k = 49 ∨ zb z k = 63
      · have HK2 : Hid (∀ t, t < k + 1 → zb z t = 48 ∨ zb z t = 49 ∨ zb z t = 63) := Lib.hid (fun t ht => by
          by_cases e : t = k
          · subst e; exact h
          · exact HK.out t (by omega))
        rw [← hz] at h
        clear hz HK
        rcases h with h | h | h
        all_goals
          go_wp2
          go_roundw
          case rel => exact ⟨k + 1, by omega, by go_num, HK2, by trivial⟩
          case measure => simp [intOf]; omega
      · have HX := Lib.hid (HN.out k hlt h)
        have n1 : ((z[k].toNat : Int) != 48) = true := by rw [hz, bne_iff_ne]; omega
        have n2 : ((z[k].toNat : Int) != 49) = true := by rw [hz, bne_iff_ne]; omega
        have n3 : ((z[k].toNat : Int) != 63) = true := by rw [hz, bne_iff_ne]; omega
        clear hz h
        go_wp2
        go_ret
        exact ⟨ret_bool HX.out.symm, rfl⟩
    · obtain rfl : k = z.size := by omega
      have HX := Lib.hid (HY.out HK.out)
      have i1 : ¬ (z.size : Int) < (z.size : Int) := by omega
      by_cases h6 : z.size ≤ 600
      · have HX2 : Hid (B = true) := Lib.hid (by rw [HX.out, decide_eq_true h6])
        have i2 : (z.size : Int) ≤ 600 := by omega
        go_wp2
        go_ret
        exact ⟨ret_bool HX2.out.symm, rfl⟩
      · have HX2 : Hid (B = false) := Lib.hid (by rw [HX.out, decide_eq_false h6])
        have i2 : ¬ (z.size : Int) ≤ 600 := by omega
        go_wp2
        go_ret
        exact ⟨ret_bool HX2.out.symm, rfl⟩
theorem sLost_any (z : ByteArray) (w : World) (hs : z.size ≤ 1048576) :
    Calls Tryd.prog 10 #[.string z] w fun e w' => e = .returned (.int .i64 (lostA z)) ∧ w = w' := by
  have HC := fun w => sCopy_any z w hs
  cases hc : cpyB z with
  | false =>
    rw [hc] at HC
    have HX : Hid (lostA z = -1) := Lib.hid (by unfold lostA; rw [hc]; rfl)
    have HC := Lib.hid HC
    clear hc
    go_enter Tryd.func10, Tryd.ntmps10
    go_wp2_with fail
    refine (HC.out _).mono ?_
    rintro e w1 ⟨rfl, rfl⟩
    go_wp2
    go_ret
    exact ⟨ret_int HX.out.symm, rfl⟩
  | true =>
    rw [hc] at HC
    have HX : Hid (lostA z = (lstN z z.size : Nat)) := Lib.hid (by unfold lostA; rw [hc]; rfl)
    have HC := Lib.hid HC
    have HL := Lib.hid (lstN_le z)
    have HS : Hid (∀ k, lstN z (k + 1) = lstN z k + (if zb z k = 63 then 1 else 0)) := Lib.hid (fun k => rfl)
    clear hc
    go_enter Tryd.func10, Tryd.ntmps10
    go_wp2_with fail
    refine (HC.out _).mono ?_
    rintro e w1 ⟨rfl, rfl⟩
    go_wp2
    go_loopw [3, 4] (fun n i wr => ∃ k m : Nat, k ≤ z.size ∧ i = .int .i64 k ∧ n = .int .i64 m ∧ Hid (m = lstN z k) ∧ m ≤ k ∧ wr = w) (fun _ i _ => z.size - (intOf i).toNat)
    case atStart => exact ⟨0, 0, by omega, rfl, rfl, Lib.hid rfl, by omega, rfl⟩
    case round =>
      obtain ⟨k, m, hk, rfl, rfl, HM, hmk, rfl⟩ := hrel
      by_cases hlt : k < z.size
      · have i0 : (0 : Int) ≤ (k : Int) := by omega
        have i1 : (k : Int) < (z.size : Int) := by omega
        have hz := zb_at z k hlt
        by_cases h : zb z k = 63
        · have HM2 : Hid (m + 1 = lstN z (k + 1)) := Lib.hid (by rw [HS.out, if_pos h, HM.out])
          rw [← hz] at h
          clear hz
          go_wp2
          go_roundw
          case rel => exact ⟨k + 1, m + 1, by omega, by go_num, by go_num, HM2, by omega, by trivial⟩
          case measure => simp [intOf]; omega
        · have HM2 : Hid (m = lstN z (k + 1)) := Lib.hid (by rw [HS.out, if_neg h, HM.out]; rfl)
          have n3 : ((z[k].toNat : Int) == 63) = false := by rw [hz, beq_eq_false_iff_ne]; omega
          clear hz h
          go_wp2
          go_roundw
          case rel => exact ⟨k + 1, m, by omega, by go_num, rfl, HM2, by omega, by trivial⟩
          case measure => simp [intOf]; omega
      · obtain rfl : k = z.size := by omega
        have i1 : ¬ (z.size : Int) < (z.size : Int) := by omega
        go_wp2
        go_ret
        exact ⟨ret_int (by rw [HX.out, HM.out]), rfl⟩
end Go.Proofs.YtpacaelnmpdnhaaDoor
