/- Check bits and frames, of both sides. -/
import Derived.Test.YtdafepfjjmdkeaaDoorFrm0
import Derived.Test.YtdafepfjjmdkeaaDoorMrgE
namespace Go.Proofs.YtdafepfjjmdkeaaDoor
open Go.RowKit
set_option linter.unusedVariables false
set_option maxRecDepth 100000
theorem bits_of {z : ByteArray} (h : bitsB z = true) : okB z z.size = true ∧ z.size ≤ 600 := by unfold bitsB at h; simp only [Bool.and_eq_true, decide_eq_true_eq] at h; exact h
theorem bits_zb {z : ByteArray} (h : bitsB z = true) {i : Nat} (hi : i < z.size) : zb z i = 48 ∨ zb z i = 49 := okB_zb z (bits_of h).1 i hi
/-- A step of the check bits. -/
def crcS (x b : Nat) : Nat := if (x / 128 + b) % 2 = 1 then (2 * x % 256) ^^^ 7 else 2 * x % 256
theorem crcS_lt (x b : Nat) : crcS x b < 256 := by
  unfold crcS
  split
  · exact Nat.xor_lt_two_pow (n := 8) (Nat.mod_lt _ (by decide)) (by decide)
  · exact Nat.mod_lt _ (by decide)
def crcF (f : Nat → Nat) : Nat → Nat
  | 0 => 0
  | k + 1 => crcS (crcF f k) (f k - 48)
theorem crcF_lt (f : Nat → Nat) : ∀ k, crcF f k < 256
  | 0 => by show 0 < 256; omega
  | k + 1 => crcS_lt _ _
def crcV (z : ByteArray) : ByteArray := digS (crcF (zb z) z.size) 8
theorem crcV_size (z : ByteArray) : (crcV z).size = 8 := digS_size _ _
def crcAns (z : ByteArray) : ByteArray × Bool := if bitsB z then (crcV z, true) else noS
theorem crcAns_yes {z : ByteArray} (h : bitsB z = true) : crcAns z = (crcV z, true) := by unfold crcAns; rw [if_pos h]
theorem crcAns_no {z : ByteArray} (h : bitsB z = false) : crcAns z = noS := by unfold crcAns; rw [if_neg (by rw [h]; decide)]
/-- The values of a step on the program's side. -/
theorem icrc_value (x b : Nat) (hx : x < 256) (hb : b < 2) : ∃ D T A C E : Nat, (x : Int) / 128 = D ∧ bits .xor .i64 (b : Int) (D : Int) = T ∧ (x : Int) * 2 = A ∧ bits .and .i64 (A : Int) 255 = C ∧ (T : Int) * 7 = E ∧ bits .xor .i64 (C : Int) (E : Int) = (crcS x b : Nat) ∧ A ≤ 512 ∧ E ≤ 7 := by
  refine ⟨x / 128, b ^^^ (x / 128), 2 * x, (2 * x) &&& 255, (b ^^^ (x / 128)) * 7, (Int.natCast_ediv x 128).symm, xor64 _ _ (by omega) (by omega), by omega, and64 (2 * x) 255 (by omega) (by omega), by omega, ?_, by omega, ?_⟩
  · have e1 : (2 * x) &&& 255 = 2 * x % 256 := Nat.and_two_pow_sub_one_eq_mod (2 * x) 8
    have hd : x / 128 < 2 := by omega
    have e2 : b ^^^ (x / 128) = (x / 128 + b) % 2 := by rw [xor_bit _ _ hb hd, Nat.add_comm]
    rw [e1, e2, xor64 _ _ (by omega) (by omega)]
    unfold crcS
    by_cases h : (x / 128 + b) % 2 = 1
    · rw [if_pos h, h]
    · rw [if_neg h, show (x / 128 + b) % 2 = 0 by omega]; simp
  · rw [xor_bit _ _ hb (by omega)]; omega
/-- The values of a step on the model's side. -/
theorem scrc_value (x b : Nat) (hx : x < 256) (hb : b < 2) : ∃ D T M : Nat, (x : Int) / 128 = D ∧ bits .xor .i64 (D : Int) (b : Int) = T ∧ (x : Int) * 2 % 256 = M ∧ M < 256 ∧ (T = 1 → bits .xor .i64 (M : Int) 7 = (crcS x b : Nat)) ∧ (¬ T = 1 → M = crcS x b) := by
  have hd : x / 128 < 2 := by omega
  refine ⟨x / 128, (x / 128 + b) % 2, 2 * x % 256, (Int.natCast_ediv x 128).symm, xor64_bit _ _ hd hb, by omega, by omega, ?_, ?_⟩
  · intro h
    have := xor64 (2 * x % 256) 7 (by omega) (by omega)
    unfold crcS
    rw [if_pos h]; exact this
  · intro h
    unfold crcS
    rw [if_neg h]
theorem iCrc_any (z : ByteArray) (w : World) (hs : z.size ≤ 1048576) :
    Calls Tryd.prog 47 #[.string z] w fun e w' => e = .returned (.tuple #[.string (crcAns z).1, .bool (crcAns z).2]) ∧ Below w.heap.size w w' := by
  have hv := fun w => bitsValid_any z w (by omega)
  cases hb : bitsB z with
  | false =>
    rw [hb] at hv
    have HX := Lib.hid (crcAns_no hb)
    clear hb
    go_enter Tryd.func47, Tryd.ntmps47
    go_wp2_with fail
    refine (hv _).mono ?_
    rintro e w1 ⟨rfl, rfl⟩
    go_wp2
    go_ret2
    exact ⟨ret_sAns HX.out, Below.refl _ _⟩
  | true =>
    rw [hb] at hv
    have HX := Lib.hid (crcAns_yes hb)
    have HB := Lib.hid (fun i (hi : i < z.size) => bits_zb hb hi)
    have h6 := (bits_of hb).2
    clear hb
    go_enter Tryd.func47, Tryd.ntmps47
    go_wp2_with fail
    refine (hv _).mono ?_
    rintro e w1 ⟨rfl, rfl⟩
    clear hv
    go_wp2
    go_loopw [4, 12] (fun x i wr => ∃ k : Nat, k ≤ z.size ∧ i = .int .i64 k ∧ x = .int .i64 (crcF (zb z) k : Nat) ∧ Below w.heap.size w wr) (fun _ i _ => z.size - (intOf i).toNat)
    case atStart => exact ⟨0, by omega, rfl, rfl, Below.refl _ _⟩
    case round =>
      obtain ⟨k, hk, rfl, rfl, rb⟩ := hrel
      by_cases hlt : k < z.size
      · obtain ⟨b, hb2, hbz⟩ := isBit _ (HB.out k hlt)
        have hnx : crcF (zb z) (k + 1) = crcS (crcF (zb z) k) b := by show crcS _ (zb z k - 48) = _; rw [hbz]; congr 1; omega
        have hx := crcF_lt (zb z) k
        obtain ⟨x, hxx⟩ : ∃ x, crcF (zb z) k = x := ⟨_, rfl⟩
        rw [hxx] at hnx hx ⊢
        obtain ⟨D, T, A, C, E, v1, v2, v3, v4, v5, v6, v7, v8⟩ := icrc_value x b hx hb2
        have v0 : IntKind.u8.wrap ((z[k].toNat : Int) - 48) = (b : Int) := by rw [zb_at z k hlt, hbz, show ((48 + b : Nat) : Int) - 48 = (b : Int) by omega]; exact IntWalk.u8_in _ (by omega)
        have i0 : (0 : Int) ≤ (k : Int) := by omega
        have i1 : (k : Int) < (z.size : Int) := by omega
        have HN := Lib.hid hnx
        obtain ⟨R, hR⟩ : ∃ R, crcS x b = R := ⟨_, rfl⟩
        rw [hR] at v6 hnx
        have HR := Lib.hid hnx
        clear hnx hR hxx hbz HN
        go_wp2
        clear v0 v1 v2 v3 v4 v5 v6
        go_roundw
        case rel => exact ⟨k + 1, by omega, by go_num, by rw [HR.out], rb⟩
        case measure => simp [intOf]; omega
      · obtain rfl : k = z.size := by omega
        have hx := crcF_lt (zb z) z.size
        have hD := fun w => digitsOf_any (crcF (zb z) z.size) 8 w (by omega) (by omega)
        obtain ⟨x, hxx⟩ : ∃ x, crcF (zb z) z.size = x := ⟨_, rfl⟩
        rw [hxx] at hx hD ⊢
        have HXX := Lib.hid hxx
        clear hxx
        go_wp2_with fail
        refine (hD _).mono ?_
        rintro e w1 ⟨rfl, hb1⟩
        have b1 := below_then rb (Nat.le_refl _) hb1
        clear hb1 rb hD
        go_wp2
        go_ret2
        exact ⟨ret_sAns (by rw [HX.out]; unfold crcV; rw [HXX.out]), b1⟩
theorem digS_cons (n k : Nat) : strF 1 (fun _ => 48 + n / tw k % 2) ++ digS n k = digS n (k + 1) := by
  apply strF_of
  · rw [ByteArray.size_append, strF_size, digS_size]; omega
  · intro i hi
    by_cases h : i < 1
    · obtain rfl : i = 0 := by omega
      rw [zb_append_left _ _ _ (by rw [strF_size]; omega), zb_strF (by omega) (by omega)]
      show _ = 48 + n / tw (k + 1 - 1 - 0) % 2
      rw [show k + 1 - 1 - 0 = k by omega]
    · rw [zb_append_right _ _ _ (by rw [strF_size]; omega) (by rw [strF_size, digS_size]; omega), strF_size]
      unfold digS
      rw [zb_strF (by omega) (digF_lt _ _ _)]
      show 48 + n / tw (k - 1 - (i - 1)) % 2 = 48 + n / tw (k + 1 - 1 - i) % 2
      rw [show k - 1 - (i - 1) = k + 1 - 1 - i by omega]
theorem l6Binary_any (n c : Nat) (w : World) (hn : n ≤ 1152921504606846976) (hc : c ≤ 60) :
    Calls Tryd.prog 59 #[.int .i64 n, .int .i64 c] w fun e w' => e = .returned (.string (digS n c)) ∧ Below w.heap.size w w' := by
  go_enter Tryd.func59, Tryd.ntmps59
  go_wp2
  go_loopw [0, 5, 6] (fun x s i wr => ∃ k : Nat, k ≤ c ∧ i = .int .i64 k ∧ x = .int .i64 (n / tw k : Nat) ∧ s = .string (digS n k) ∧ Below w.heap.size w wr) (fun _ _ i _ => c - (intOf i).toNat)
  case atStart => exact ⟨0, by omega, rfl, by simp [tw], rfl, Below.refl _ _⟩
  case round =>
    obtain ⟨k, hk, rfl, rfl, rfl, rb⟩ := hrel
    by_cases hlt : k < c
    · have hs := digS_cons n k
      have hX2 : n / tw (k + 1) = n / tw k / 2 := by rw [Nat.div_div_eq_div_mul, show tw (k + 1) = tw k * 2 from Nat.pow_succ 2 k]
      have hXn := Nat.div_le_self n (tw k)
      have hz := digS_size n k
      have hz1 := strF_size 1 (fun _ => 48 + n / tw k % 2)
      obtain ⟨X, hX⟩ : ∃ X, n / tw k = X := ⟨_, rfl⟩
      rw [hX] at hs hX2 hXn hz1 ⊢
      have hL := fun w => l9Dec_bit (X % 2) w (by omega)
      obtain ⟨y, hy⟩ : ∃ y, strF 1 (fun _ => 48 + X % 2) = y := ⟨_, rfl⟩
      obtain ⟨S, hS⟩ : ∃ S, digS n k = S := ⟨_, rfl⟩
      rw [hy] at hs hz1 hL
      rw [hS] at hs hz ⊢
      have v1 : (X : Int) % 2 = ((X % 2 : Nat) : Int) := by omega
      obtain ⟨B, hB⟩ : ∃ B, X % 2 = B := ⟨_, rfl⟩
      rw [hB] at v1 hL
      have HS := Lib.hid hs
      have H2 := Lib.hid hX2
      clear hs hX2 hX hy hS hB
      go_wp2_with fail
      refine (hL _).mono ?_
      rintro e w1 ⟨rfl, hb1⟩
      have b1 := below_then rb (Nat.le_refl _) hb1
      clear hb1 rb hL v1
      go_wp2
      go_roundw
      case rel => exact ⟨k + 1, by omega, by go_num, by rw [H2.out]; go_num, by rw [HS.out], b1⟩
      case measure => simp [intOf]; omega
    · obtain rfl : k = c := by omega
      go_wp2
      go_ret
      exact ⟨rfl, rb⟩
theorem l6Crc_any (z : ByteArray) (w : World) (hb : okB z z.size = true) (hs : z.size ≤ 1048576) :
    Calls Tryd.prog 60 #[.string z] w fun e w' => e = .returned (.string (crcV z)) ∧ Below w.heap.size w w' := by
  have HB := Lib.hid (okB_zb z hb)
  clear hb
  go_enter Tryd.func60, Tryd.ntmps60
  go_wp2
  go_loopw [3, 4] (fun x i wr => ∃ k : Nat, k ≤ z.size ∧ i = .int .i64 k ∧ x = .int .i64 (crcF (zb z) k : Nat) ∧ Below w.heap.size w wr) (fun _ i _ => z.size - (intOf i).toNat)
  case atStart => exact ⟨0, by omega, rfl, rfl, Below.refl _ _⟩
  case round =>
    obtain ⟨k, hk, rfl, rfl, rb⟩ := hrel
    by_cases hlt : k < z.size
    · obtain ⟨b, hb2, hbz⟩ := isBit _ (HB.out k hlt)
      have hnx : crcF (zb z) (k + 1) = crcS (crcF (zb z) k) b := by show crcS _ (zb z k - 48) = _; rw [hbz]; congr 1; omega
      have hx := crcF_lt (zb z) k
      obtain ⟨x, hxx⟩ : ∃ x, crcF (zb z) k = x := ⟨_, rfl⟩
      rw [hxx] at hnx hx ⊢
      obtain ⟨D, T, M, v1, v2, v3, v4, v5, v6⟩ := scrc_value x b hx hb2
      have v0 : (z[k].toNat : Int) - 48 = (b : Int) := by rw [zb_at z k hlt, hbz]; omega
      have i0 : (0 : Int) ≤ (k : Int) := by omega
      have i1 : (k : Int) < (z.size : Int) := by omega
      by_cases hT : T = 1
      · subst hT
        have v7 := v5 rfl
        rw [← hnx] at v7
        obtain ⟨R, hR⟩ : ∃ R, crcF (zb z) (k + 1) = R := ⟨_, rfl⟩
        rw [hR] at v7
        have HR := Lib.hid hR
        clear hnx hR hxx hbz v5 v6
        go_wp2
        clear v0 v1 v2 v3 v7
        go_roundw
        case rel => exact ⟨k + 1, by omega, by go_num, by rw [HR.out], rb⟩
        case measure => simp [intOf]; omega
      · have v7 := v6 hT
        rw [← hnx] at v7
        have HR := Lib.hid v7
        have HV := Lib.hid v3
        obtain ⟨t1, t2⟩ : ((T : Int) == 1) = false ∧ ((T : Int) != 1) = true := by constructor <;> simp <;> omega
        clear hnx v7 hxx hbz v5 v6 hT
        go_wp2
        clear v0 v1 v2 v3 t1 t2
        go_roundw
        case rel => exact ⟨k + 1, by omega, by go_num, by rw [← HR.out, ← HV.out], rb⟩
        case measure => simp [intOf]; omega
    · obtain rfl : k = z.size := by omega
      have hx := crcF_lt (zb z) z.size
      have hD := fun w => l6Binary_any (crcF (zb z) z.size) 8 w (by omega) (by omega)
      obtain ⟨x, hxx⟩ : ∃ x, crcF (zb z) z.size = x := ⟨_, rfl⟩
      rw [hxx] at hx hD ⊢
      have HXX := Lib.hid hxx
      clear hxx
      go_wp2_with fail
      refine (hD _).mono ?_
      rintro e w1 ⟨rfl, hb1⟩
      have b1 := below_then rb (Nat.le_refl _) hb1
      clear hb1 rb hD
      go_wp2
      go_ret
      exact ⟨ret_str (by unfold crcV; rw [HXX.out]), b1⟩
end Go.Proofs.YtdafepfjjmdkeaaDoor
