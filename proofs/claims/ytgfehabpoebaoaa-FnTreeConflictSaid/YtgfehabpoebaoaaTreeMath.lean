/- The code of a path is the Walsh code of the number that its bits are, the lowest one first. -/
import Derived.Test.YtgfehabpoebaoaaFam4
import Derived.Test.YtgfehabpoebaoaaWalMath
namespace Go.Proofs.Ytgfehabpoebaoaa
open Go.RowKit
set_option linter.unusedVariables false
set_option maxRecDepth 100000
/-- The number of the first bits of a path. -/
def vlN (p : ByteArray) : Nat → Nat
  | 0 => 0
  | j + 1 => vlN p j + (zb p j - 48) * tw j
theorem bit_of {p : ByteArray} (h : okB p p.size = true) {j : Nat} (hj : j < p.size) : zb p j - 48 < 2 := by have := okB_zb p h j hj; omega
theorem vlN_lt {p : ByteArray} (h : okB p p.size = true) : ∀ j, j ≤ p.size → vlN p j < tw j
  | 0, _ => tw_pos 0
  | j + 1, hj => by
    have h1 := vlN_lt h j (by omega)
    have h2 := bit_of h (j := j) (by omega)
    rw [tw_succ]
    show vlN p j + (zb p j - 48) * tw j < _
    have h3 : (zb p j - 48) * tw j ≤ 1 * tw j := Nat.mul_le_mul_right _ (by omega)
    omega
theorem tw_split {m j : Nat} (h : j < m) : ∃ q, tw m = (2 * q) * tw j := ⟨tw (m - j - 1), by
  unfold tw
  rw [show 2 * 2 ^ (m - j - 1) = 2 ^ (m - j - 1 + 1) by rw [Nat.pow_succ]; omega, ← Nat.pow_add]
  congr 1
  omega⟩
theorem vlN_bit {p : ByteArray} (h : okB p p.size = true) : ∀ m, m ≤ p.size → ∀ j, j < m → vlN p m / tw j % 2 = zb p j - 48
  | 0, _, j, hj => by omega
  | m + 1, hm, j, hj => by
    have hp := tw_pos j
    show (vlN p m + (zb p m - 48) * tw m) / tw j % 2 = _
    by_cases e : j = m
    · subst e
      have h1 := vlN_lt h j (by omega)
      have h2 := bit_of h (j := j) (by omega)
      rw [Nat.add_mul_div_right _ _ (by omega), Nat.div_eq_of_lt h1]
      omega
    · obtain ⟨q, hq⟩ := tw_split (show j < m by omega)
      rw [hq, ← Nat.mul_assoc, Nat.add_mul_div_right _ _ (by omega), show (zb p m - 48) * (2 * q) = 2 * ((zb p m - 48) * q) by rw [Nat.mul_left_comm]]
      have ih := vlN_bit h m (by omega) j (by omega)
      omega
/-- The same from a number's bits. -/
def cdN (n : Nat) : Nat → Nat → Nat
  | 0, _ => 0
  | j + 1, k => if Nat.blt k (tw j) then cdN n j k else (cdN n j (k - tw j) + n / tw j % 2) % 2
theorem cdN_wal : ∀ m, m < 7 → ∀ n, n < tw m → ∀ k, k < tw m → cdN n m k = walF n k := by decide +kernel
theorem codeF_cdN {p : ByteArray} {n : Nat} : ∀ m, (∀ j, j < m → n / tw j % 2 = zb p j - 48) → ∀ k, codeF p m k = cdN n m k
  | 0, _, _ => rfl
  | m + 1, h, k => by
    simp only [codeF, cdN]
    rw [codeF_cdN m (fun j hj => h j (by omega)) k, codeF_cdN m (fun j hj => h j (by omega)) (k - tw m), h m (by omega)]
    by_cases e : k < tw m
    · rw [if_pos e, if_pos (by simpa using e)]
    · rw [if_neg e, if_neg (by simpa using e)]
theorem tree_wal {p : ByteArray} (h : pathB p = true) : treeS p p.size = walshB (tw p.size) (vlN p p.size) ∧ vlN p p.size < tw p.size := by
  obtain ⟨h1, h2⟩ := (pathB_iff p).1 h
  have hv := vlN_lt h1 p.size (Nat.le_refl _)
  refine ⟨ba_ext (by rw [treeS_size, walshB_size]) fun i hi => ?_, hv⟩
  rw [treeS_size] at hi
  rw [zb_treeS _ _ _ hi, zb_walsh _ _ _ hi, codeF_cdN p.size (vlN_bit h1 p.size (Nat.le_refl _)), cdN_wal p.size (by omega) _ hv i hi]
theorem codeF_same {p q : ByteArray} : ∀ m, (∀ j, j < m → zb p j = zb q j) → ∀ k, codeF p m k = codeF q m k
  | 0, _, _ => rfl
  | m + 1, h, k => by
    simp only [codeF]
    rw [codeF_same m (fun j hj => h j (by omega)) k, codeF_same m (fun j hj => h j (by omega)) (k - tw m), h m (by omega)]
/-- The path without its last bit. -/
theorem tree_half {p : ByteArray} {e : Nat} (h : pathB p = true) (he : e ≤ p.size) : pathB (p.extract 0 e) = true ∧ (p.extract 0 e).size = e ∧
    (p.size = e + 1 → (treeS p p.size).extract 0 (tw e) = treeS (p.extract 0 e) e) := by
  obtain ⟨h1, h2⟩ := (pathB_iff p).1 h
  have hs := size_extract p 0 e he
  rw [Nat.sub_zero] at hs
  have hz : ∀ j, j < e → zb (p.extract 0 e) j = zb p j := fun j hj => by rw [zb_extract p 0 e j he (by omega), Nat.zero_add]
  refine ⟨(pathB_iff _).2 ⟨okB_of_zb _ fun i hi => ?_, by omega⟩, hs, fun hp => ?_⟩
  · rw [hs] at hi
    rw [hz i hi]
    exact okB_zb p h1 i (by omega)
  · have ht := tw_succ e
    have hsz : (treeS p p.size).size = tw (e + 1) := by rw [treeS_size, hp]
    refine ba_ext (by rw [size_extract _ _ _ (by omega), treeS_size, Nat.sub_zero]) fun i hi => ?_
    rw [size_extract _ _ _ (by omega), Nat.sub_zero] at hi
    rw [zb_extract _ _ _ _ (by omega) (by omega), Nat.zero_add, zb_treeS _ _ _ hi, zb_treeS _ _ _ (by rw [hp]; omega), hp]
    have e1 : codeF p (e + 1) i = codeF p e i := by simp only [codeF]; rw [if_pos hi]
    rw [e1, codeF_same e hz]
end Go.Proofs.Ytgfehabpoebaoaa
