/- Plain mathematics of protected blocks with a bit changed in some of them: all are corrected. -/
import Derived.Test.YtabokoodpobnnaaDoorHamMath
import Derived.Test.YtabokoodpobnnaaDoorWFnSyndrome
namespace Go.Proofs.YtabokoodpobnnaaDoor
open Go.RowKit
set_option linter.unusedVariables false
set_option maxRecDepth 100000
theorem blk_syn_all : (List.range 16).all (fun b => Nat.beq (synF (blkV (bitF b)) 7) 0) = true := by kernel_rfl
theorem blk_syn {q : Nat → Nat} (h : ∀ i, i < 4 → q i = 48 ∨ q i = 49) : synF (blkV q) 7 = 0 := by
  obtain ⟨b, hb, e⟩ := as_bits' 4 q h
  have h1 := Nat.eq_of_beq_eq_true (List.all_eq_true.1 blk_syn_all b (List.mem_range.2 hb))
  rw [← h1]
  exact synF_congr 7 fun i hi => blkV_congr e hi
theorem blk_bit {q : Nat → Nat} (h : ∀ i, i < 4 → q i = 48 ∨ q i = 49) {j : Nat} (hj : j < 7) : blkV q j = 48 ∨ blkV q j = 49 := by
  unfold blkV
  by_cases e0 : j = 0
  · rw [if_pos e0]; exact ck3_bit _ _ _
  · rw [if_neg e0]
    by_cases e1 : j = 1
    · rw [if_pos e1]; exact ck3_bit _ _ _
    · rw [if_neg e1]
      by_cases e2 : j = 2
      · rw [if_pos e2]; exact h 0 (by omega)
      · rw [if_neg e2]
        by_cases e3 : j = 3
        · rw [if_pos e3]; exact ck3_bit _ _ _
        · rw [if_neg e3]; exact h _ (by omega)
/-- A block with the bit of place k changed, from 1 on; none for 0. -/
def chgF (f : Nat → Nat) (k j : Nat) : Nat := if j + 1 = k then 97 - f j else f j
theorem chgF_zero (f : Nat → Nat) (j : Nat) : chgF f 0 j = f j := if_neg (by omega)
theorem chg_syn {f : Nat → Nat} (hb : ∀ j, j < 7 → f j = 48 ∨ f j = 49) (h0 : synF f 7 = 0) {k : Nat} (hk : k ≤ 7) : synF (chgF f k) 7 = k := by
  cases k with
  | zero => rw [synF_congr 7 (fun i hi => chgF_zero f i), h0]
  | succ k =>
    have := synF_add (f := f) (g := fun i => if i = k then 49 else 48) (h := chgF f (k + 1)) 7 (fun i hi => by
      unfold chgF
      by_cases e : i = k
      · rw [if_pos (show i + 1 = k + 1 by omega), if_pos e]
        rcases hb i hi with x | x <;> rw [x] <;> decide
      · rw [if_neg (show ¬ i + 1 = k + 1 by omega), if_neg e]
        rcases hb i hi with x | x <;> rw [x] <;> decide)
    rw [this, h0, syn_unit k (by omega), Nat.zero_xor]
theorem chg_cor {f : Nat → Nat} (hb : ∀ j, j < 7 → f j = 48 ∨ f j = 49) (h0 : synF f 7 = 0) {k j : Nat} (hk : k ≤ 7) (hj : j < 7) : corF (chgF f k) j = f j := by
  unfold corF
  rw [chg_syn hb h0 hk]
  have := hb j hj
  by_cases e : k = j + 1
  · rw [if_pos e]; unfold chgF; rw [if_pos e.symm]; omega
  · rw [if_neg e]; unfold chgF; rw [if_neg (fun h => e h.symm)]
theorem chg_bit {f : Nat → Nat} (hb : ∀ j, j < 7 → f j = 48 ∨ f j = 49) (k : Nat) {j : Nat} (hj : j < 7) : chgF f k j = 48 ∨ chgF f k j = 49 := by
  have := hb j hj
  unfold chgF
  split <;> omega
/-- The block of so many bits. -/
def encB (z : ByteArray) (b : Nat) (j : Nat) : Nat := encF z (7 * b + j)
theorem encB_blk (z : ByteArray) (b : Nat) {j : Nat} (hj : j < 7) : encB z b j = blkV (fun k => zb z (4 * b + k)) j := by
  unfold encB encF
  rw [show (7 * b + j) / 7 = b by omega, show (7 * b + j) % 7 = j by omega]
/-- The place that the law changes in a block. -/
def plK (L b : Nat) : Nat := (L + b * b) % 8
theorem plK_le (L b : Nat) : plK L b ≤ 7 := by unfold plK; omega
def upK (L t b : Nat) : Nat := if b < t then plK L b else 0
theorem upK_le (L t b : Nat) : upK L t b ≤ 7 := by have := plK_le L b; unfold upK; split <;> omega
def cxF (z : ByteArray) (L t p : Nat) : Nat := chgF (encB z (p / 7)) (upK L t (p / 7)) (p % 7)
def cxS (z : ByteArray) (L t : Nat) : ByteArray := strF (z.size / 4 * 7) (cxF z L t)
/-- How many blocks are changed. -/
def kN (g : Nat → Nat) : Nat → Nat
  | 0 => 0
  | b + 1 => kN g b + if g b = 0 then 0 else 1
theorem kN_le (g : Nat → Nat) : ∀ b, kN g b ≤ b
  | 0 => Nat.le_refl _
  | b + 1 => by have := kN_le g b; simp only [kN]; split <;> omega
theorem kN_congr {g h : Nat → Nat} : ∀ b, (∀ i, i < b → g i = h i) → kN g b = kN h b
  | 0, _ => rfl
  | b + 1, e => by simp only [kN]; rw [kN_congr b (fun i hi => e i (by omega)), e b (by omega)]
theorem kN_zero : ∀ b, kN (fun _ => 0) b = 0
  | 0 => rfl
  | b + 1 => by simp only [kN]; rw [kN_zero b]; rfl
theorem kN_up0 (L m : Nat) : kN (upK L 0) m = 0 := by
  rw [kN_congr (g := upK L 0) (h := fun _ => 0) m (fun i _ => by unfold upK; rw [if_neg (by omega)]), kN_zero]
theorem kN_upm (L m : Nat) : kN (upK L m) m = kN (plK L) m := kN_congr m (fun i hi => by unfold upK; rw [if_pos hi])
theorem cxS_size (z : ByteArray) (L t : Nat) : (cxS z L t).size = z.size / 4 * 7 := strF_size _ _
theorem encB_bit {z : ByteArray} (hok : okB z z.size = true) {b : Nat} (hb : b < z.size / 4) : ∀ j, j < 7 → encB z b j = 48 ∨ encB z b j = 49 := fun j hj => by
  rw [encB_blk z b hj]
  exact blk_bit (fun k hk => okB_zb z hok _ (by omega)) hj
theorem encB_syn {z : ByteArray} (hok : okB z z.size = true) {b : Nat} (hb : b < z.size / 4) : synF (encB z b) 7 = 0 := by
  rw [synF_congr 7 (fun i hi => encB_blk z b hi)]
  exact blk_syn (fun k hk => okB_zb z hok _ (by omega))
theorem cxF_bit {z : ByteArray} (hok : okB z z.size = true) (L t : Nat) {p : Nat} (hp : p < z.size / 4 * 7) : cxF z L t p = 48 ∨ cxF z L t p = 49 :=
  chg_bit (encB_bit hok (by omega)) _ (by omega)
theorem zb_cxS {z : ByteArray} (hok : okB z z.size = true) (L t : Nat) {p : Nat} (hp : p < z.size / 4 * 7) : zb (cxS z L t) p = cxF z L t p :=
  zb_strF hp (by have := cxF_bit hok L t hp; omega)
theorem cxS_ok {z : ByteArray} (hok : okB z z.size = true) (L t : Nat) : okB (cxS z L t) (cxS z L t).size = true := okB_of_zb _ fun i hi => by
  rw [cxS_size] at hi
  rw [zb_cxS hok L t hi]
  exact cxF_bit hok L t hi
theorem blkF_cxS {z : ByteArray} (hok : okB z z.size = true) (L t : Nat) {b j : Nat} (hb : b < z.size / 4) (hj : j < 7) : blkF (cxS z L t) b j = chgF (encB z b) (upK L t b) j := by
  unfold blkF
  rw [zb_cxS hok L t (by omega)]
  unfold cxF
  rw [show (7 * b + j) / 7 = b by omega, show (7 * b + j) % 7 = j by omega]
theorem cnt_cxS {z : ByteArray} (hok : okB z z.size = true) (L t : Nat) : ∀ b, b ≤ z.size / 4 → cntF (cxS z L t) b = kN (upK L t) b
  | 0, _ => rfl
  | b + 1, h => by
    simp only [cntF, kN]
    rw [cnt_cxS hok L t b (by omega), synF_congr 7 (fun i hi => blkF_cxS hok L t (by omega) hi), chg_syn (encB_bit hok (by omega)) (encB_syn hok (by omega)) (upK_le L t b)]
theorem plF4_blk (q : Nat → Nat) {i : Nat} (hi : i < 4) : blkV q (plF4 i) = q i := by
  have : i = 0 ∨ i = 1 ∨ i = 2 ∨ i = 3 := by omega
  rcases this with rfl | rfl | rfl | rfl <;> rfl
/-- The changed blocks are decoded to the bits. -/
theorem hd_cxS {z : ByteArray} (hok : okB z z.size = true) (h4 : z.size % 4 = 0) (h6 : z.size / 4 * 7 ≤ 600) (L t : Nat) : hdAns (cxS z L t) = (z, ((kN (upK L t) (z.size / 4) : Nat) : Int), true) := by
  have hs := cxS_size z L t
  unfold hdAns
  rw [if_pos ⟨bitsM (cxS_ok hok L t) (by omega), by omega⟩, hs, show z.size / 4 * 7 / 7 = z.size / 4 by omega, cnt_cxS hok L t _ (Nat.le_refl _)]
  have e : z = strF (z.size / 4 * 4) (decF (cxS z L t)) := strF_of _ _ _ (by omega) fun i hi => by
    unfold decF
    rw [corF_congr (fun j hj => blkF_cxS hok L t (show i / 4 < z.size / 4 by omega) hj) (plF4_lt _), chg_cor (encB_bit hok (by omega)) (encB_syn hok (by omega)) (upK_le L t _) (plF4_lt _), encB_blk z _ (plF4_lt _), plF4_blk _ (by omega)]
    rw [show 4 * (i / 4) + i % 4 = i by omega]
  rw [← e]
theorem cxS_start {z : ByteArray} (L : Nat) : cxS z L 0 = strF (z.size / 4 * 7) (encF z) := strF_congr fun i hi => by
  unfold cxF upK
  rw [if_neg (by omega), chgF_zero]
  unfold encB
  rw [show 7 * (i / 7) + i % 7 = i by omega]
theorem cxS_same {z : ByteArray} {L t : Nat} (h : plK L t = 0) : cxS z L (t + 1) = cxS z L t := strF_congr fun i hi => by
  unfold cxF
  congr 1
  unfold upK
  by_cases e : i / 7 = t
  · rw [e, if_pos (by omega), if_neg (by omega), h]
  · by_cases e2 : i / 7 < t
    · rw [if_pos (by omega), if_pos e2]
    · rw [if_neg (by omega), if_neg e2]
theorem cxS_flip {z : ByteArray} (hok : okB z z.size = true) {L t k : Nat} (ht : t < z.size / 4) (h : plK L t = k + 1) : flipS (cxS z L t) (7 * t + k) = cxS z L (t + 1) := by
  have hk7 := plK_le L t
  refine strF_of _ _ _ (by rw [flipS_size, cxS_size]) fun i hi => ?_
  rw [zb_flipS (by rw [cxS_size]; exact hi), zb_cxS hok L t hi]
  unfold cxF upK
  by_cases e : i / 7 = t
  · by_cases e2 : i = 7 * t + k
    · rw [if_pos e2, e, if_neg (Nat.lt_irrefl t), if_pos (Nat.lt_succ_self t), h, chgF_zero]
      unfold chgF
      rw [if_pos (by omega)]
    · rw [if_neg e2, e, if_neg (Nat.lt_irrefl t), if_pos (Nat.lt_succ_self t), h, chgF_zero]
      unfold chgF
      rw [if_neg (by omega)]
  · rw [if_neg (show ¬ i = 7 * t + k by omega)]
    by_cases e2 : i / 7 < t
    · rw [if_pos e2, if_pos (by omega)]
    · rw [if_neg e2, if_neg (by omega)]
theorem syn_cxS {z : ByteArray} (hok : okB z z.size = true) {L t : Nat} (ht : t < z.size / 4) : synAns ((cxS z L (t + 1)).extract (7 * t) (7 * t + 7)) = ((plK L t : Nat) : Int) := by
  have hs := cxS_size z L (t + 1)
  have hE := size_extract (cxS z L (t + 1)) (7 * t) (7 * t + 7) (by omega)
  have ho := okCut (cxS_ok hok L (t + 1)) (7 * t) (7 * t + 7) (by omega)
  unfold synAns
  rw [if_pos ⟨bitsM ho (by omega), by omega⟩, syn_blk _ _ (by omega), synF_congr 7 (fun i hi => blkF_cxS hok L (t + 1) ht hi), chg_syn (encB_bit hok ht) (encB_syn hok ht) (upK_le L (t + 1) t)]
  unfold upK
  rw [if_pos (by omega)]
end Go.Proofs.YtabokoodpobnnaaDoor
