/- Changed bits change the check bits: the mathematics. -/
import Derived.Test.YtkpiloefmhhclaaCrcMath
import Derived.Test.YtkpiloefmhhclaaSsFlip
namespace Go.Proofs.Ytkpiloefmhhclaa
open Go.RowKit
set_option linter.unusedVariables false
set_option maxRecDepth 100000
theorem crcS_nz {x : Nat} (hx : x < 256) (h : x ≠ 0) : crcS x 0 ≠ 0 := by
  unfold crcS
  by_cases p : (x / 128 + 0) % 2 = 1
  · rw [if_pos p]
    intro e
    have h2 := xor_mod2 (2 * x % 256) 7
    rw [e] at h2
    omega
  · rw [if_neg p]; omega
theorem crcF_zero {f : Nat → Nat} : ∀ m, (∀ j, j < m → f j = 48) → crcF f m = 0
  | 0, _ => rfl
  | m + 1, h => by
    simp only [crcF]
    rw [crcF_zero m (fun j hj => h j (by omega)), h m (by omega)]; rfl
theorem crcF_keep {f : Nat → Nat} (m : Nat) (h0 : crcF f m ≠ 0) : ∀ d, (∀ j, m ≤ j → j < m + d → f j = 48) → crcF f (m + d) ≠ 0
  | 0, _ => h0
  | d + 1, h => by
    have ih := crcF_keep m h0 d (fun j h1 h2 => h j h1 (by omega))
    show crcS (crcF f (m + d)) (f (m + d) - 48) ≠ 0
    rw [h (m + d) (by omega) (by omega)]
    exact crcS_nz (crcF_lt _ _) ih
/-- The check bits' register behind a 1 and some zeros. -/
def sIt : Nat → Nat
  | 0 => 7
  | j + 1 => crcS (sIt j) 0
theorem sIt_one : ∀ j, j < 7 → crcS (sIt j) 1 ≠ 0 := by decide
theorem crcF_one {f : Nat → Nat} {i : Nat} (h0 : ∀ j, j < i → f j = 48) (h1 : f i = 49) : crcF f (i + 1) = 7 := by
  simp only [crcF]
  rw [crcF_zero i h0, h1]; rfl
theorem crcF_its {f : Nat → Nat} {i : Nat} (h0 : ∀ j, j < i → f j = 48) (h1 : f i = 49) : ∀ d, (∀ j, i < j → j < i + 1 + d → f j = 48) → crcF f (i + 1 + d) = sIt d
  | 0, _ => crcF_one h0 h1
  | d + 1, h => by
    have ih := crcF_its h0 h1 d (fun j a b => h j a (by omega))
    show crcS (crcF f (i + 1 + d)) (f (i + 1 + d) - 48) = crcS (sIt d) 0
    rw [ih, h (i + 1 + d) (by omega) (by omega)]
def oneF (i j : Nat) : Nat := if j = i then 49 else 48
def twoF (i k j : Nat) : Nat := if j = i ∨ j = k then 49 else 48
theorem one_nz {i n : Nat} (h : i < n) : crcF (oneF i) n ≠ 0 := by
  have e := crcF_one (f := oneF i) (i := i) (fun j hj => if_neg (by omega)) (if_pos rfl)
  have := crcF_keep (f := oneF i) (i + 1) (by rw [e]; decide) (n - (i + 1)) (fun j h1 h2 => if_neg (by omega))
  rwa [show i + 1 + (n - (i + 1)) = n by omega] at this
theorem two_nz {i k n : Nat} (h1 : i < k) (h2 : k ≤ i + 7) (h : k < n) : crcF (twoF i k) n ≠ 0 := by
  have e := crcF_its (f := twoF i k) (i := i) (fun j hj => if_neg (by omega)) (if_pos (.inl rfl)) (k - (i + 1)) (fun j a b => if_neg (by omega))
  rw [show i + 1 + (k - (i + 1)) = k by omega] at e
  have e2 : crcF (twoF i k) (k + 1) = crcS (sIt (k - (i + 1))) 1 := by
    show crcS (crcF (twoF i k) k) (twoF i k k - 48) = _
    rw [e, show twoF i k k = 49 from if_pos (.inr rfl)]
  have := crcF_keep (f := twoF i k) (k + 1) (by rw [e2]; exact sIt_one _ (by omega)) (n - (k + 1)) (fun j a b => if_neg (by omega))
  rwa [show k + 1 + (n - (k + 1)) = n by omega] at this
theorem digS_inj {a b : Nat} (ha : a < 256) (hb : b < 256) (h : digS a 8 = digS b 8) : a = b := by
  have hd : ∀ j, j < 8 → digF a 8 j = digF b 8 j := fun j hj => by
    have e1 : zb (digS a 8) j = digF a 8 j := zb_strF hj (digF_lt _ _ _)
    have e2 : zb (digS b 8) j = digF b 8 j := zb_strF hj (digF_lt _ _ _)
    rw [← e1, ← e2, h]
  have d0 : 48 + a / 128 % 2 = 48 + b / 128 % 2 := hd 0 (by omega)
  have d1 : 48 + a / 64 % 2 = 48 + b / 64 % 2 := hd 1 (by omega)
  have d2 : 48 + a / 32 % 2 = 48 + b / 32 % 2 := hd 2 (by omega)
  have d3 : 48 + a / 16 % 2 = 48 + b / 16 % 2 := hd 3 (by omega)
  have d4 : 48 + a / 8 % 2 = 48 + b / 8 % 2 := hd 4 (by omega)
  have d5 : 48 + a / 4 % 2 = 48 + b / 4 % 2 := hd 5 (by omega)
  have d6 : 48 + a / 2 % 2 = 48 + b / 2 % 2 := hd 6 (by omega)
  have d7 : 48 + a / 1 % 2 = 48 + b / 1 % 2 := hd 7 (by omega)
  omega
/-- What differs by a pattern that the check bits see has other check bits. -/
theorem crcV_ne {z y : ByteArray} (f : Nat → Nat) (hs : y.size = z.size) (hx : ∀ j, j < z.size → zb y j - 48 = (zb z j - 48) ^^^ (f j - 48)) (h : crcF f z.size ≠ 0) : ¬ crcV y = crcV z := by
  intro e
  unfold crcV at e
  rw [hs] at e
  have e2 := digS_inj (crcF_lt _ _) (crcF_lt _ _) e
  rw [crcF_xor z.size hx] at e2
  apply h
  have e3 : crcF (zb z) z.size ^^^ (crcF (zb z) z.size ^^^ crcF f z.size) = crcF (zb z) z.size ^^^ crcF (zb z) z.size := by rw [e2]
  rw [← Nat.xor_assoc, Nat.xor_self, Nat.zero_xor] at e3
  exact e3
theorem inv_sub {x : Nat} (h : x = 48 ∨ x = 49) : 97 - x - 48 = (x - 48) ^^^ 1 := by rcases h with rfl | rfl <;> decide
theorem crc_flip1 {z : ByteArray} (ho : okB z z.size = true) {i : Nat} (hi : i < z.size) : ¬ crcV (flipS z i) = crcV z := by
  refine crcV_ne (oneF i) (flipS_size _ _) (fun j hj => ?_) (one_nz hi)
  rw [zb_flipS hj]
  unfold oneF
  by_cases e : j = i
  · rw [if_pos e, if_pos e]; exact inv_sub (okB_zb z ho j hj)
  · rw [if_neg e, if_neg e]; exact (Nat.xor_zero _).symm
theorem crc_flip2 {z : ByteArray} (ho : okB z z.size = true) {i k : Nat} (h1 : i < k) (h2 : k ≤ i + 7) (hk : k < z.size) : ¬ crcV (flipS (flipS z i) k) = crcV z := by
  refine crcV_ne (twoF i k) (by rw [flipS_size, flipS_size]) (fun j hj => ?_) (two_nz h1 h2 hk)
  rw [zb_flipS (by rw [flipS_size]; exact hj), zb_flipS hj]
  unfold twoF
  by_cases e : j = k
  · rw [if_pos e, if_neg (by omega), if_pos (.inr e)]; exact inv_sub (okB_zb z ho j hj)
  · by_cases e2 : j = i
    · rw [if_neg e, if_pos e2, if_pos (.inl e2)]; exact inv_sub (okB_zb z ho j hj)
    · rw [if_neg e, if_neg e2, if_neg (by omega)]; exact (Nat.xor_zero _).symm
end Go.Proofs.Ytkpiloefmhhclaa
