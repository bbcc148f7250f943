/- Check bits are sums: the mathematics. -/
import Derived.Test.YtkpiloefmhhclaaFrm1
namespace Go.Proofs.Ytkpiloefmhhclaa
open Go.RowKit
set_option linter.unusedVariables false
set_option maxRecDepth 100000
theorem two_xor (x y : Nat) : 2 * (x ^^^ y) = (2 * x) ^^^ (2 * y) := by
  have h := Nat.shiftLeft_xor_distrib (a := x) (b := y) (i := 1)
  simp only [Nat.shiftLeft_eq, Nat.pow_one] at h
  rw [Nat.mul_comm 2 (x ^^^ y), h, Nat.mul_comm x 2, Nat.mul_comm y 2]
theorem xor_mod2 (a c : Nat) : (a ^^^ c) % 2 = (a + c) % 2 := by
  have h := Nat.xor_mod_two_pow (a := a) (b := c) (n := 1)
  rw [Nat.pow_one] at h
  rw [h, xor_bit _ _ (Nat.mod_lt _ (by decide)) (Nat.mod_lt _ (by decide))]; omega
theorem crcS_eq (x b : Nat) : crcS x b = (2 * x % 256) ^^^ (if (x / 128 + b) % 2 = 1 then 7 else 0) := by
  unfold crcS
  split
  · rfl
  · exact (Nat.xor_zero _).symm
theorem crcS_xor (x y b d : Nat) : crcS (x ^^^ y) (b ^^^ d) = crcS x b ^^^ crcS y d := by
  rw [crcS_eq, crcS_eq, crcS_eq]
  have h1 : 2 * (x ^^^ y) % 256 = (2 * x % 256) ^^^ (2 * y % 256) := by rw [two_xor]; exact Nat.xor_mod_two_pow (n := 8)
  have h2 : (x ^^^ y) / 128 = (x / 128) ^^^ (y / 128) := Nat.xor_div_two_pow (n := 7)
  have h3 := xor_mod2 (x / 128) (y / 128)
  have h4 := xor_mod2 b d
  rw [h1, h2]
  obtain ⟨A, hA⟩ : ∃ A, 2 * x % 256 = A := ⟨_, rfl⟩
  obtain ⟨B, hB⟩ : ∃ A, 2 * y % 256 = A := ⟨_, rfl⟩
  obtain ⟨E, hE⟩ : ∃ A, x / 128 ^^^ y / 128 = A := ⟨_, rfl⟩
  obtain ⟨F, hF⟩ : ∃ A, b ^^^ d = A := ⟨_, rfl⟩
  rw [hE] at h3
  rw [hF] at h4
  rw [hA, hB, hE, hF]
  by_cases p : (x / 128 + b) % 2 = 1 <;> by_cases q : (y / 128 + d) % 2 = 1
  · rw [if_pos p, if_pos q, if_neg (by omega)]
    rw [Nat.xor_zero, Nat.xor_assoc A 7, Nat.xor_comm B 7, ← Nat.xor_assoc 7 7 B, Nat.xor_self, Nat.zero_xor]
  · rw [if_pos p, if_neg q, if_pos (by omega), Nat.xor_zero, Nat.xor_assoc, Nat.xor_assoc, Nat.xor_comm B 7]
  · rw [if_neg p, if_pos q, if_pos (by omega), Nat.xor_zero, Nat.xor_assoc]
  · rw [if_neg p, if_neg q, if_neg (by omega), Nat.xor_zero, Nat.xor_zero, Nat.xor_zero]
theorem crcF_xor {f g h : Nat → Nat} : ∀ k, (∀ i, i < k → h i - 48 = (f i - 48) ^^^ (g i - 48)) → crcF h k = crcF f k ^^^ crcF g k
  | 0, _ => by show (0 : Nat) = 0 ^^^ 0; decide
  | k + 1, hh => by
    simp only [crcF]
    rw [crcF_xor k (fun i hi => hh i (by omega)), hh k (by omega), crcS_xor]
theorem crcF_congr {f g : Nat → Nat} : ∀ k, (∀ i, i < k → f i = g i) → crcF f k = crcF g k
  | 0, _ => rfl
  | k + 1, h => by simp only [crcF]; rw [crcF_congr k (fun i hi => h i (by omega)), h k (by omega)]
theorem addB_sub {x y : Nat} (hx : x = 48 ∨ x = 49) (hy : y = 48 ∨ y = 49) : addB x y - 48 = (x - 48) ^^^ (y - 48) := by
  rcases hx with rfl | rfl <;> rcases hy with rfl | rfl <;> decide
theorem addB_dig {p q : Nat} (hp : p < 2) (hq : q < 2) : addB (48 + p) (48 + q) = 48 + (p + q) % 2 := by
  have h1 : p = 0 ∨ p = 1 := by omega
  have h2 : q = 0 ∨ q = 1 := by omega
  rcases h1 with rfl | rfl <;> rcases h2 with rfl | rfl <;> decide
theorem digS_xor (n m c : Nat) : digS (n ^^^ m) c = addS (digS n c) (digS m c) := by
  unfold addS
  rw [digS_size]
  show strF c _ = strF c _
  refine strF_congr fun i hi => ?_
  have e1 : zb (digS n c) i = digF n c i := zb_strF hi (digF_lt _ _ _)
  have e2 : zb (digS m c) i = digF m c i := zb_strF hi (digF_lt _ _ _)
  rw [e1, e2]
  unfold digF
  rw [addB_dig (Nat.mod_lt _ (by decide)) (Nat.mod_lt _ (by decide))]
  have h := Nat.xor_div_two_pow (a := n) (b := m) (n := c - 1 - i)
  rw [show tw (c - 1 - i) = 2 ^ (c - 1 - i) from rfl, h, xor_mod2]
  omega
/-- The check bits of a sum are the sum of the check bits. -/
theorem crcV_add {a b : ByteArray} (ha : okB a a.size = true) (hb : okB b b.size = true) (h : a.size = b.size) : crcV (addS a b) = addS (crcV a) (crcV b) := by
  unfold crcV
  rw [addS_size, ← digS_xor, ← h]
  congr 1
  refine crcF_xor a.size fun i hi => ?_
  rw [zb_addS a b i hi]
  exact addB_sub (okB_zb a ha i hi) (okB_zb b hb i (by omega))
theorem crc_feed (x : Nat) (hx : x < 256) (j : Nat) (hj : j < 8) : crcS (x * tw j % 256) (x / tw (8 - 1 - j) % 2) = x * tw (j + 1) % 256 := by
  have h : j = 0 ∨ j = 1 ∨ j = 2 ∨ j = 3 ∨ j = 4 ∨ j = 5 ∨ j = 6 ∨ j = 7 := by omega
  unfold crcS
  rcases h with rfl | rfl | rfl | rfl | rfl | rfl | rfl | rfl
  · show (if (x * 1 % 256 / 128 + x / 128 % 2) % 2 = 1 then _ else 2 * (x * 1 % 256) % 256) = x * 2 % 256; rw [if_neg (by omega)]; omega
  · show (if (x * 2 % 256 / 128 + x / 64 % 2) % 2 = 1 then _ else 2 * (x * 2 % 256) % 256) = x * 4 % 256; rw [if_neg (by omega)]; omega
  · show (if (x * 4 % 256 / 128 + x / 32 % 2) % 2 = 1 then _ else 2 * (x * 4 % 256) % 256) = x * 8 % 256; rw [if_neg (by omega)]; omega
  · show (if (x * 8 % 256 / 128 + x / 16 % 2) % 2 = 1 then _ else 2 * (x * 8 % 256) % 256) = x * 16 % 256; rw [if_neg (by omega)]; omega
  · show (if (x * 16 % 256 / 128 + x / 8 % 2) % 2 = 1 then _ else 2 * (x * 16 % 256) % 256) = x * 32 % 256; rw [if_neg (by omega)]; omega
  · show (if (x * 32 % 256 / 128 + x / 4 % 2) % 2 = 1 then _ else 2 * (x * 32 % 256) % 256) = x * 64 % 256; rw [if_neg (by omega)]; omega
  · show (if (x * 64 % 256 / 128 + x / 2 % 2) % 2 = 1 then _ else 2 * (x * 64 % 256) % 256) = x * 128 % 256; rw [if_neg (by omega)]; omega
  · show (if (x * 128 % 256 / 128 + x / 1 % 2) % 2 = 1 then _ else 2 * (x * 128 % 256) % 256) = x * 256 % 256; rw [if_neg (by omega)]; omega
theorem crc_tail (z : ByteArray) : ∀ j, j ≤ 8 → crcF (zb (z ++ crcV z)) (z.size + j) = crcF (zb z) z.size * tw j % 256
  | 0, _ => by
    have hx := crcF_lt (zb z) z.size
    have e : crcF (zb (z ++ crcV z)) z.size = crcF (zb z) z.size := crcF_congr _ fun i hi => zb_append_left _ _ _ hi
    show crcF (zb (z ++ crcV z)) z.size = _ * 1 % 256
    rw [e]; omega
  | j + 1, hj => by
    have ih := crc_tail z j (by omega)
    have hx := crcF_lt (zb z) z.size
    show crcS (crcF (zb (z ++ crcV z)) (z.size + j)) (zb (z ++ crcV z) (z.size + j) - 48) = _
    rw [ih, zb_append_right _ _ _ (by omega) (by rw [crcV_size]; omega), Nat.add_sub_cancel_left]
    have e1 : zb (crcV z) j = digF (crcF (zb z) z.size) 8 j := zb_strF (by omega) (digF_lt _ _ _)
    rw [e1]
    unfold digF
    rw [Nat.add_sub_cancel_left]
    exact crc_feed _ hx j (by omega)
/-- Bits with their check bits behind them have zeros as check bits. -/
theorem crcV_zero (z : ByteArray) : crcV (z ++ crcV z) = ⟨#[48, 48, 48, 48, 48, 48, 48, 48]⟩ := by
  have h := crc_tail z 8 (Nat.le_refl _)
  have e : crcF (zb z) z.size * tw 8 % 256 = 0 := by show _ * 256 % 256 = 0; omega
  rw [e] at h
  unfold crcV at h ⊢
  rw [ByteArray.size_append, digS_size, h]
  rfl
end Go.Proofs.Ytkpiloefmhhclaa
