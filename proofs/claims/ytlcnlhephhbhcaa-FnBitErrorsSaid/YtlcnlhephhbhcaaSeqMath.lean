/- The bytes of a string as a function of the index; shifts, sums and correlations of bits on plain numbers. -/
import Derived.Test.YtlcnlhephhbhcaaRegBits
import Derived.Deep.OwnRows
import Derived.Laws.BytesArg
import Derived.Below
namespace Go.Proofs.Ytlcnlhephhbhcaa
open Go.RowKit
set_option linter.unusedVariables false
/-- The byte of a string at an index, as a number (0 behind the end). -/
def zb (z : ByteArray) (i : Nat) : Nat := (z.data.toList.getD i 0).toNat
theorem zb_at (z : ByteArray) (i : Nat) (h : i < z.size) : z[i].toNat = zb z i := by
  unfold zb
  have h' : i < z.data.toList.length := h
  rw [List.getD_eq_getElem?_getD, List.getElem?_eq_getElem h']; rfl
theorem zb_lt (z : ByteArray) (i : Nat) : zb z i < 256 := UInt8.toNat_lt _
/-- The string of n bytes that a function tells. -/
def strF (n : Nat) (f : Nat → Nat) : ByteArray := ⟨((List.range n).map fun i => UInt8.ofNat (f i)).toArray⟩
theorem strF_size (n : Nat) (f : Nat → Nat) : (strF n f).size = n := by simp [strF, ByteArray.size]
theorem zb_strF {n : Nat} {f : Nat → Nat} {i : Nat} (h : i < n) (hf : f i < 256) : zb (strF n f) i = f i := by
  unfold zb strF
  simp only [List.getD_eq_getElem?_getD, List.getElem?_map, List.getElem?_range h, Option.map_some, Option.getD_some]
  rw [UInt8.toNat_ofNat']; omega
theorem ba_ext {a b : ByteArray} (hs : a.size = b.size) (h : ∀ i, i < a.size → zb a i = zb b i) : a = b := by
  have e : a.data.toList = b.data.toList := by
    apply List.ext_getElem hs
    intro i h1 h2
    have h1' : i < a.size := h1
    have := h i h1'
    rw [← zb_at a i h1', ← zb_at b i (by omega)] at this
    exact UInt8.toNat_inj.1 this
  cases a; cases b
  congr 1
  exact Array.toList_inj.1 e
theorem strF_of (z : ByteArray) (n : Nat) (f : Nat → Nat) (hn : z.size = n) (h : ∀ i, i < n → zb z i = f i) : z = strF n f := by
  apply ba_ext (by rw [strF_size, hn])
  intro i hi
  rw [hn] at hi
  rw [zb_strF hi (by rw [← h i hi]; exact zb_lt _ _), h i hi]
theorem strF_congr {n : Nat} {f g : Nat → Nat} (h : ∀ i, i < n → f i = g i) : strF n f = strF n g := by
  unfold strF
  congr 2
  apply List.map_congr_left
  intro i hi
  rw [h i (List.mem_range.1 hi)]
theorem size_extract (z : ByteArray) (a b : Nat) (hb : b ≤ z.size) : (z.extract a b).size = b - a := by
  rw [ByteArray.size_extract]; omega
theorem data_size (z : ByteArray) : z.data.toList.length = z.size := rfl
theorem zb_extract (z : ByteArray) (a b i : Nat) (hb : b ≤ z.size) (hi : a + i < b) : zb (z.extract a b) i = zb z (a + i) := by
  have h1 : i < (z.extract a b).size := by rw [size_extract _ _ _ hb]; omega
  have h2 : a + i < z.size := by omega
  rw [← zb_at _ _ h1, ← zb_at _ _ h2]
  rw [ByteArray.getElem_extract]
theorem zb_append_left (a b : ByteArray) (i : Nat) (h : i < a.size) : zb (a ++ b) i = zb a i := by
  have h1 : i < (a ++ b).size := by rw [ByteArray.size_append]; omega
  rw [← zb_at _ _ h1, ← zb_at _ _ h, ByteArray.getElem_append_left h]
theorem zb_append_right (a b : ByteArray) (i : Nat) (h : a.size ≤ i) (hi : i < a.size + b.size) : zb (a ++ b) i = zb b (i - a.size) := by
  have h1 : i < (a ++ b).size := by rw [ByteArray.size_append]; omega
  rw [← zb_at _ _ h1, ← zb_at b _ (by omega), ByteArray.getElem_append_right h]
/-- A sequence: 1 to 255 bits. -/
def seqB (z : ByteArray) : Bool := okB z z.size && (decide (1 ≤ z.size) && decide (z.size ≤ 255))
theorem seqB_iff (z : ByteArray) : seqB z = true ↔ okB z z.size = true ∧ 1 ≤ z.size ∧ z.size ≤ 255 := by
  unfold seqB; simp only [Bool.and_eq_true, decide_eq_true_eq]
theorem okB_zb (z : ByteArray) (h : okB z z.size = true) (i : Nat) (hi : i < z.size) : zb z i = 48 ∨ zb z i = 49 := by
  unfold okB at h
  rw [List.all_eq_true] at h
  have h1 := h z[i] (by rw [List.take_of_length_le (by rw [data_size]; exact Nat.le_refl _)]; exact List.getElem_mem _)
  rw [← zb_at z i hi]
  simp only [Bool.or_eq_true, beq_iff_eq] at h1
  rcases h1 with e | e
  · left; rw [e]; rfl
  · right; rw [e]; rfl
theorem okB_of_zb (z : ByteArray) (h : ∀ i, i < z.size → zb z i = 48 ∨ zb z i = 49) : okB z z.size = true := by
  unfold okB
  rw [List.all_eq_true]
  intro c hc
  rw [List.take_of_length_le (by rw [data_size]; exact Nat.le_refl _)] at hc
  obtain ⟨i, hi, rfl⟩ := List.getElem_of_mem hc
  have h1 := h i hi
  rw [← zb_at z i hi] at h1
  simp only [Bool.or_eq_true, beq_iff_eq]
  rcases h1 with e | e
  · left; exact UInt8.toNat_inj.1 e
  · right; exact UInt8.toNat_inj.1 e
/-- A number modulo another one, from 0 on. -/
def modN (k : Int) (n : Nat) : Nat := (k % (n : Int)).toNat
theorem modN_lt (k : Int) (n : Nat) (h : 0 < n) : modN k n < n := by
  have h1 := Int.emod_nonneg k (show (n : Int) ≠ 0 by omega)
  have h2 := Int.emod_lt_of_pos k (show (0 : Int) < n by omega)
  unfold modN; omega
theorem modN_eq (k : Int) (n : Nat) (h : 0 < n) : ((modN k n : Nat) : Int) = k % (n : Int) := by
  have h1 := Int.emod_nonneg k (show (n : Int) ≠ 0 by omega)
  unfold modN; omega
theorem tmod_pos (k : Int) (n : Nat) (h : 0 < n) (h0 : 0 ≤ k.tmod n) : k.tmod n = (modN k n : Nat) := by
  rw [modN_eq k n h]
  have h1 := Int.emod_nonneg k (show (n : Int) ≠ 0 by omega)
  have h2 := Int.emod_lt_of_pos k (show (0 : Int) < n by omega)
  rw [Int.tmod_eq_emod] at h0 ⊢
  by_cases hc : 0 ≤ k ∨ (n : Int) ∣ k
  · rw [if_pos hc] at h0 ⊢; omega
  · rw [if_neg hc] at h0; omega
theorem tmod_neg (k : Int) (n : Nat) (h : 0 < n) (h0 : k.tmod n < 0) : k.tmod n + n = (modN k n : Nat) := by
  rw [modN_eq k n h]
  have h1 := Int.emod_nonneg k (show (n : Int) ≠ 0 by omega)
  rw [Int.tmod_eq_emod] at h0 ⊢
  by_cases hc : 0 ≤ k ∨ (n : Int) ∣ k
  · rw [if_pos hc] at h0; omega
  · rw [if_neg hc]; omega
theorem tmod_bd (k : Int) (n : Nat) (h : 0 < n) : - (n : Int) ≤ k.tmod n ∧ k.tmod n < n := by
  by_cases h0 : 0 ≤ k.tmod n
  · have := tmod_pos k n h h0; have := modN_lt k n h; omega
  · have := tmod_neg k n h (by omega); have := modN_lt k n h; omega
theorem tmod_twice (k : Int) (n : Nat) (h : 0 < n) : (k.tmod n + n) % (n : Int) = (modN k n : Nat) := by
  have hl := modN_lt k n h
  by_cases h0 : 0 ≤ k.tmod n
  · rw [tmod_pos k n h h0, Int.add_emod_right]; exact Int.emod_eq_of_lt (by omega) (by omega)
  · rw [tmod_neg k n h (by omega)]; exact Int.emod_eq_of_lt (by omega) (by omega)
theorem modN_of_nat (k n : Nat) : modN (k : Int) n = k % n := by unfold modN; omega
/-- The byte of the shifted string. -/
def shB (z : ByteArray) (k : Nat) (i : Nat) : Nat := zb z ((k + i) % z.size)
/-- A sequence that begins later. -/
def shift (z : ByteArray) (k : Int) : ByteArray := strF z.size (shB z (modN k z.size))
theorem shift_size (z : ByteArray) (k : Int) : (shift z k).size = z.size := strF_size _ _
theorem zb_shift (z : ByteArray) (k : Int) (i : Nat) (hi : i < z.size) : zb (shift z k) i = zb z ((modN k z.size + i) % z.size) := zb_strF hi (zb_lt _ _)
theorem mod_wrap (k i n : Nat) (hk : k < n) (hi : i < n) : (k + i) % n = if k + i < n then k + i else k + i - n := by
  split
  · exact Nat.mod_eq_of_lt ‹_›
  · rw [Nat.mod_eq_sub_mod (by omega)]; exact Nat.mod_eq_of_lt (by omega)
/-- What the model lays together. -/
theorem shift_cut (z : ByteArray) (k : Nat) (hk : k < z.size) : z.extract k z.size ++ z.extract 0 k = strF z.size (shB z k) := by
  have s1 := size_extract z k z.size (Nat.le_refl _)
  have s2 := size_extract z 0 k (by omega)
  apply strF_of _ _ _ (by rw [ByteArray.size_append, s1, s2]; omega)
  intro i hi
  unfold shB
  rw [mod_wrap k i z.size hk hi]
  by_cases h : k + i < z.size
  · rw [if_pos h, zb_append_left _ _ _ (by omega), zb_extract _ _ _ _ (Nat.le_refl _) (by omega)]
  · rw [if_neg h, zb_append_right _ _ _ (by omega) (by omega), s1, zb_extract _ _ _ _ (by omega) (by omega)]
    congr 1; omega
/-- The sum of a function over the first numbers. -/
def sumI (f : Nat → Int) : Nat → Int
  | 0 => 0
  | n + 1 => sumI f n + f n
theorem sumI_congr {f g : Nat → Int} : ∀ n, (∀ i, i < n → f i = g i) → sumI f n = sumI g n
  | 0, _ => rfl
  | n + 1, h => by simp only [sumI]; rw [sumI_congr n (fun i hi => h i (by omega)), h n (by omega)]
theorem sumI_bd {f : Nat → Int} (hf : ∀ i, -1 ≤ f i ∧ f i ≤ 1) : ∀ n : Nat, -(n : Int) ≤ sumI f n ∧ sumI f n ≤ n
  | 0 => by simp [sumI]
  | n + 1 => by have := sumI_bd hf n; have := hf n; simp only [sumI]; omega
theorem sumI_neg (f : Nat → Int) : ∀ n, sumI (fun i => - f i) n = - sumI f n
  | 0 => by simp [sumI]
  | n + 1 => by simp only [sumI]; rw [sumI_neg f n]; omega
/-- 1 if two numbers are equal, else -1. -/
def agr (a b : Nat) : Int := if a = b then 1 else -1
theorem agr_bd (a b : Nat) : -1 ≤ agr a b ∧ agr a b ≤ 1 := by unfold agr; split <;> omega
/-- Ones minus zeros. -/
def balN (z : ByteArray) : Int := sumI (fun i => agr (zb z i) 49) z.size
/-- The correlation of two sequences for a shift. -/
def crossN (a b : ByteArray) (k : Nat) : Int := sumI (fun i => agr (zb a i) (shB b k i)) a.size
/-- The byte of the sum of two bits. -/
def addB (x y : Nat) : Nat := if x = y then 48 else 49
/-- The correlation of a sequence that does not repeat. -/
def aperN (z : ByteArray) (k : Nat) : Int := sumI (fun i => agr (zb z i) (zb z (k + i))) (z.size - k)
/-- A world in which a block is a row of bytes. -/
def Bytes (w : World) (b : Nat) (t : TypeId) (n : Nat) (f : Nat → Nat) : Prop := w.rowIs b t n (fun v => .int .u8 (f v : Nat))
theorem Bytes.cell {w : World} {b : Nat} {t : TypeId} {n : Nat} {f : Nat → Nat} (h : Bytes w b t n f) (i : Nat) (hi : i < n) : w.cell? ⟨b, i, none⟩ = some (.int .u8 (f i : Nat)) := World.rowIs.cell h hi
theorem Bytes.below {w w' : World} {b : Nat} {t : TypeId} {n B : Nat} {f : Nat → Nat} (h : Bytes w b t n f) (hb : Below B w w') (hB : b < B) : Bytes w' b t n f := World.rowIs.of_block h (hb.block b hB)
theorem Bytes.lt {w : World} {b : Nat} {t : TypeId} {n : Nat} {f : Nat → Nat} (h : Bytes w b t n f) : b < w.heap.size := World.rowIs.lt h
theorem Bytes.congr {w : World} {b : Nat} {t : TypeId} {n : Nat} {f g : Nat → Nat} (h : Bytes w b t n f) (e : ∀ i, i < n → f i = g i) : Bytes w b t n g := World.rowIs.congr h fun i hi => by rw [e i hi]
theorem Bytes.set {w : World} {b : Nat} {t : TypeId} {n : Nat} {f g : Nat → Nat} (h : Bytes w b t n f) (y u : Nat) (hg : ∀ v, v < n → g v = if v = y then u else f v) : Bytes (w.setCell ⟨b, y, none⟩ (.int .u8 (u : Nat))) b t n g :=
  World.rowIs.congr (World.rowIs.set h y _) fun i hi => by rw [hg i hi]; split <;> rfl
theorem Bytes.new {w : World} {t : TypeId} {n b : Nat} (hb : b = w.heap.size) : Bytes (w.alloc (.cells (madeCells #[.int .u8 0] n) t)) b t n (fun _ => 0) := by
  subst hb; exact World.rowIs_made w _ n t
theorem Bytes.str {P : Program} {w : World} {b : Nat} {t : TypeId} {N : Nat} {f : Nat → Nat} (h : Bytes w b t N f) (src e dst : TypeId) (hs : P.underlying src = some (.slice e)) (he : P.underlying e = some (.int .u8)) (hd : P.underlying dst = some .string)
    (off n cap : Nat) (hn : off + n ≤ N) : (convert src dst (.slice (some ⟨b, off, none⟩) n cap)).run P w = .ok (.string (strF n (fun i => f (off + i)))) w := by
  have := run_convert_bytes_arg (P := P) w src e hs he b off n cap ((List.range n).map fun i => ((f (off + i) : Nat) : Int)) (by simp) (fun i hi => by
    rw [h.cell (off + i) (by omega)]
    simp [List.getD_eq_getElem?_getD, List.getElem?_range hi]) dst hd
  rw [this]
  congr 1
  unfold strOfNums strF
  simp [List.map_map, Function.comp_def]
end Go.Proofs.Ytlcnlhephhbhcaa
