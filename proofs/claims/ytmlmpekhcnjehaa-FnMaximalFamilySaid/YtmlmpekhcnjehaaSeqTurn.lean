/- The bytes of a string as a function of the index; shifts, sums and correlations of bits on plain numbers. Contracts: which texts are sequences, of both sides; remainders; shifted strings. copy(dst, s) from a string into a row of the call's own: the run, its world by a name of its own. Contracts: turned copies of a sequence of the program, shifted strings of the model, ShiftBits of both sides. A string repeated: the contract of l9Many. -/
import Derived.Test.YtmlmpekhcnjehaaRegBits
import Derived.Test.YtmlmpekhcnjehaaRegBase
import Derived.Deep.OwnRows
import Derived.Laws.BytesArg
import Derived.Below
import Derived.Lib.LazyBuf
namespace Go.Proofs.Ytmlmpekhcnjehaa
open Go.RowKit
set_option linter.unusedVariables false
/-- The byte of a string at an index, as a number (0 behind the end). -/
def zb (z : ByteArray) (i : Nat) : Nat := (z.data.toList.getD i 0).toNat
theorem zb_at (z : ByteArray) (i : Nat) (h : i < z.size) : z[i].toNat = zb z i := by
  unfold zb
  have h' : i < z.data.toList.length := h
  rw [List.getD_eq_getElem?_getD, List.getElem?_eq_getElem h']; rfl
theorem zb_lt (z : ByteArray) (i : Nat) : zb z i < 256 := UInt8.toNat_lt _
/-- The string of n bytes that a function tells. -/
def strF (n : Nat) (f : Nat → Nat) : ByteArray := ⟨((List.range n).map fun i => UInt8.ofNat (f i)).toArray⟩
theorem strF_size (n : Nat) (f : Nat → Nat) : (strF n f).size = n := by simp [strF, ByteArray.size]
theorem zb_strF {n : Nat} {f : Nat → Nat} {i : Nat} (h : i < n) (hf : f i < 256) : zb (strF n f) i = f i := by
  unfold zb strF
  simp only [List.getD_eq_getElem?_getD, List.getElem?_map, List.getElem?_range h, Option.map_some, Option.getD_some]
  rw [UInt8.toNat_ofNat']; omega
theorem ba_ext {a b : ByteArray} (hs : a.size = b.size) (h : ∀ i, i < a.size → zb a i = zb b i) : a = b := by
  have e : a.data.toList = b.data.toList := by
    apply List.ext_getElem hs
    intro i h1 h2
    have h1' : i < a.size := h1
    have := h i h1'
    rw [← zb_at a i h1', ← zb_at b i (by omega)] at this
    exact UInt8.toNat_inj.1 this
  cases a; cases b
  congr 1
  exact Array.toList_inj.1 e
theorem strF_of (z : ByteArray) (n : Nat) (f : Nat → Nat) (hn : z.size = n) (h : ∀ i, i < n → zb z i = f i) : z = strF n f := by
  apply ba_ext (by rw [strF_size, hn])
  intro i hi
  rw [hn] at hi
  rw [zb_strF hi (by rw [← h i hi]; exact zb_lt _ _), h i hi]
theorem strF_congr {n : Nat} {f g : Nat → Nat} (h : ∀ i, i < n → f i = g i) : strF n f = strF n g := by
  unfold strF
  congr 2
  apply List.map_congr_left
  intro i hi
  rw [h i (List.mem_range.1 hi)]
theorem size_extract (z : ByteArray) (a b : Nat) (hb : b ≤ z.size) : (z.extract a b).size = b - a := by
  rw [ByteArray.size_extract]; omega
theorem data_size (z : ByteArray) : z.data.toList.length = z.size := rfl
theorem zb_extract (z : ByteArray) (a b i : Nat) (hb : b ≤ z.size) (hi : a + i < b) : zb (z.extract a b) i = zb z (a + i) := by
  have h1 : i < (z.extract a b).size := by rw [size_extract _ _ _ hb]; omega
  have h2 : a + i < z.size := by omega
  rw [← zb_at _ _ h1, ← zb_at _ _ h2]
  rw [ByteArray.getElem_extract]
theorem zb_append_left (a b : ByteArray) (i : Nat) (h : i < a.size) : zb (a ++ b) i = zb a i := by
  have h1 : i < (a ++ b).size := by rw [ByteArray.size_append]; omega
  rw [← zb_at _ _ h1, ← zb_at _ _ h, ByteArray.getElem_append_left h]
theorem zb_append_right (a b : ByteArray) (i : Nat) (h : a.size ≤ i) (hi : i < a.size + b.size) : zb (a ++ b) i = zb b (i - a.size) := by
  have h1 : i < (a ++ b).size := by rw [ByteArray.size_append]; omega
  rw [← zb_at _ _ h1, ← zb_at b _ (by omega), ByteArray.getElem_append_right h]
/-- A sequence: 1 to 255 bits. -/
def seqB (z : ByteArray) : Bool := okB z z.size && (decide (1 ≤ z.size) && decide (z.size ≤ 255))
theorem seqB_iff (z : ByteArray) : seqB z = true ↔ okB z z.size = true ∧ 1 ≤ z.size ∧ z.size ≤ 255 := by
  unfold seqB; simp only [Bool.and_eq_true, decide_eq_true_eq]
theorem okB_zb (z : ByteArray) (h : okB z z.size = true) (i : Nat) (hi : i < z.size) : zb z i = 48 ∨ zb z i = 49 := by
  unfold okB at h
  rw [List.all_eq_true] at h
  have h1 := h z[i] (by rw [List.take_of_length_le (by rw [data_size]; exact Nat.le_refl _)]; exact List.getElem_mem _)
  rw [← zb_at z i hi]
  simp only [Bool.or_eq_true, beq_iff_eq] at h1
  rcases h1 with e | e
  · left; rw [e]; rfl
  · right; rw [e]; rfl
theorem okB_of_zb (z : ByteArray) (h : ∀ i, i < z.size → zb z i = 48 ∨ zb z i = 49) : okB z z.size = true := by
  unfold okB
  rw [List.all_eq_true]
  intro c hc
  rw [List.take_of_length_le (by rw [data_size]; exact Nat.le_refl _)] at hc
  obtain ⟨i, hi, rfl⟩ := List.getElem_of_mem hc
  have h1 := h i hi
  rw [← zb_at z i hi] at h1
  simp only [Bool.or_eq_true, beq_iff_eq]
  rcases h1 with e | e
  · left; exact UInt8.toNat_inj.1 e
  · right; exact UInt8.toNat_inj.1 e
/-- A number modulo another one, from 0 on. -/
def modN (k : Int) (n : Nat) : Nat := (k % (n : Int)).toNat
theorem modN_lt (k : Int) (n : Nat) (h : 0 < n) : modN k n < n := by
  have h1 := Int.emod_nonneg k (show (n : Int) ≠ 0 by omega)
  have h2 := Int.emod_lt_of_pos k (show (0 : Int) < n by omega)
  unfold modN; omega
theorem modN_eq (k : Int) (n : Nat) (h : 0 < n) : ((modN k n : Nat) : Int) = k % (n : Int) := by
  have h1 := Int.emod_nonneg k (show (n : Int) ≠ 0 by omega)
  unfold modN; omega
theorem tmod_pos (k : Int) (n : Nat) (h : 0 < n) (h0 : 0 ≤ k.tmod n) : k.tmod n = (modN k n : Nat) := by
  rw [modN_eq k n h]
  have h1 := Int.emod_nonneg k (show (n : Int) ≠ 0 by omega)
  have h2 := Int.emod_lt_of_pos k (show (0 : Int) < n by omega)
  rw [Int.tmod_eq_emod] at h0 ⊢
  by_cases hc : 0 ≤ k ∨ (n : Int) ∣ k
  · rw [if_pos hc] at h0 ⊢; omega
  · rw [if_neg hc] at h0; omega
theorem tmod_neg (k : Int) (n : Nat) (h : 0 < n) (h0 : k.tmod n < 0) : k.tmod n + n = (modN k n : Nat) := by
  rw [modN_eq k n h]
  have h1 := Int.emod_nonneg k (show (n : Int) ≠ 0 by omega)
  rw [Int.tmod_eq_emod] at h0 ⊢
  by_cases hc : 0 ≤ k ∨ (n : Int) ∣ k
  · rw [if_pos hc] at h0; omega
  · rw [if_neg hc]; omega
theorem tmod_bd (k : Int) (n : Nat) (h : 0 < n) : - (n : Int) ≤ k.tmod n ∧ k.tmod n < n := by
  by_cases h0 : 0 ≤ k.tmod n
  · have := tmod_pos k n h h0; have := modN_lt k n h; omega
  · have := tmod_neg k n h (by omega); have := modN_lt k n h; omega
theorem tmod_twice (k : Int) (n : Nat) (h : 0 < n) : (k.tmod n + n) % (n : Int) = (modN k n : Nat) := by
  have hl := modN_lt k n h
  by_cases h0 : 0 ≤ k.tmod n
  · rw [tmod_pos k n h h0, Int.add_emod_right]; exact Int.emod_eq_of_lt (by omega) (by omega)
  · rw [tmod_neg k n h (by omega)]; exact Int.emod_eq_of_lt (by omega) (by omega)
theorem modN_of_nat (k n : Nat) : modN (k : Int) n = k % n := by unfold modN; omega
/-- The byte of the shifted string. -/
def shB (z : ByteArray) (k : Nat) (i : Nat) : Nat := zb z ((k + i) % z.size)
/-- A sequence that begins later. -/
def shift (z : ByteArray) (k : Int) : ByteArray := strF z.size (shB z (modN k z.size))
theorem shift_size (z : ByteArray) (k : Int) : (shift z k).size = z.size := strF_size _ _
theorem zb_shift (z : ByteArray) (k : Int) (i : Nat) (hi : i < z.size) : zb (shift z k) i = zb z ((modN k z.size + i) % z.size) := zb_strF hi (zb_lt _ _)
theorem mod_wrap (k i n : Nat) (hk : k < n) (hi : i < n) : (k + i) % n = if k + i < n then k + i else k + i - n := by
  split
  · exact Nat.mod_eq_of_lt ‹_›
  · rw [Nat.mod_eq_sub_mod (by omega)]; exact Nat.mod_eq_of_lt (by omega)
/-- What the model lays together. -/
theorem shift_cut (z : ByteArray) (k : Nat) (hk : k < z.size) : z.extract k z.size ++ z.extract 0 k = strF z.size (shB z k) := by
  have s1 := size_extract z k z.size (Nat.le_refl _)
  have s2 := size_extract z 0 k (by omega)
  apply strF_of _ _ _ (by rw [ByteArray.size_append, s1, s2]; omega)
  intro i hi
  unfold shB
  rw [mod_wrap k i z.size hk hi]
  by_cases h : k + i < z.size
  · rw [if_pos h, zb_append_left _ _ _ (by omega), zb_extract _ _ _ _ (Nat.le_refl _) (by omega)]
  · rw [if_neg h, zb_append_right _ _ _ (by omega) (by omega), s1, zb_extract _ _ _ _ (by omega) (by omega)]
    congr 1; omega
/-- The sum of a function over the first numbers. -/
def sumI (f : Nat → Int) : Nat → Int
  | 0 => 0
  | n + 1 => sumI f n + f n
theorem sumI_congr {f g : Nat → Int} : ∀ n, (∀ i, i < n → f i = g i) → sumI f n = sumI g n
  | 0, _ => rfl
  | n + 1, h => by simp only [sumI]; rw [sumI_congr n (fun i hi => h i (by omega)), h n (by omega)]
theorem sumI_bd {f : Nat → Int} (hf : ∀ i, -1 ≤ f i ∧ f i ≤ 1) : ∀ n : Nat, -(n : Int) ≤ sumI f n ∧ sumI f n ≤ n
  | 0 => by simp [sumI]
  | n + 1 => by have := sumI_bd hf n; have := hf n; simp only [sumI]; omega
theorem sumI_neg (f : Nat → Int) : ∀ n, sumI (fun i => - f i) n = - sumI f n
  | 0 => by simp [sumI]
  | n + 1 => by simp only [sumI]; rw [sumI_neg f n]; omega
/-- 1 if two numbers are equal, else -1. -/
def agr (a b : Nat) : Int := if a = b then 1 else -1
theorem agr_bd (a b : Nat) : -1 ≤ agr a b ∧ agr a b ≤ 1 := by unfold agr; split <;> omega
/-- Ones minus zeros. -/
def balN (z : ByteArray) : Int := sumI (fun i => agr (zb z i) 49) z.size
/-- The correlation of two sequences for a shift. -/
def crossN (a b : ByteArray) (k : Nat) : Int := sumI (fun i => agr (zb a i) (shB b k i)) a.size
/-- The byte of the sum of two bits. -/
def addB (x y : Nat) : Nat := if x = y then 48 else 49
/-- The correlation of a sequence that does not repeat. -/
def aperN (z : ByteArray) (k : Nat) : Int := sumI (fun i => agr (zb z i) (zb z (k + i))) (z.size - k)
/-- A world in which a block is a row of bytes. -/
def Bytes (w : World) (b : Nat) (t : TypeId) (n : Nat) (f : Nat → Nat) : Prop := w.rowIs b t n (fun v => .int .u8 (f v : Nat))
theorem Bytes.cell {w : World} {b : Nat} {t : TypeId} {n : Nat} {f : Nat → Nat} (h : Bytes w b t n f) (i : Nat) (hi : i < n) : w.cell? ⟨b, i, none⟩ = some (.int .u8 (f i : Nat)) := World.rowIs.cell h hi
theorem Bytes.below {w w' : World} {b : Nat} {t : TypeId} {n B : Nat} {f : Nat → Nat} (h : Bytes w b t n f) (hb : Below B w w') (hB : b < B) : Bytes w' b t n f := World.rowIs.of_block h (hb.block b hB)
theorem Bytes.lt {w : World} {b : Nat} {t : TypeId} {n : Nat} {f : Nat → Nat} (h : Bytes w b t n f) : b < w.heap.size := World.rowIs.lt h
theorem Bytes.congr {w : World} {b : Nat} {t : TypeId} {n : Nat} {f g : Nat → Nat} (h : Bytes w b t n f) (e : ∀ i, i < n → f i = g i) : Bytes w b t n g := World.rowIs.congr h fun i hi => by rw [e i hi]
theorem Bytes.set {w : World} {b : Nat} {t : TypeId} {n : Nat} {f g : Nat → Nat} (h : Bytes w b t n f) (y u : Nat) (hg : ∀ v, v < n → g v = if v = y then u else f v) : Bytes (w.setCell ⟨b, y, none⟩ (.int .u8 (u : Nat))) b t n g :=
  World.rowIs.congr (World.rowIs.set h y _) fun i hi => by rw [hg i hi]; split <;> rfl
theorem Bytes.new {w : World} {t : TypeId} {n b : Nat} (hb : b = w.heap.size) : Bytes (w.alloc (.cells (madeCells #[.int .u8 0] n) t)) b t n (fun _ => 0) := by
  subst hb; exact World.rowIs_made w _ n t
theorem Bytes.str {P : Program} {w : World} {b : Nat} {t : TypeId} {N : Nat} {f : Nat → Nat} (h : Bytes w b t N f) (src e dst : TypeId) (hs : P.underlying src = some (.slice e)) (he : P.underlying e = some (.int .u8)) (hd : P.underlying dst = some .string)
    (off n cap : Nat) (hn : off + n ≤ N) : (convert src dst (.slice (some ⟨b, off, none⟩) n cap)).run P w = .ok (.string (strF n (fun i => f (off + i)))) w := by
  have := run_convert_bytes_arg (P := P) w src e hs he b off n cap ((List.range n).map fun i => ((f (off + i) : Nat) : Int)) (by simp) (fun i hi => by
    rw [h.cell (off + i) (by omega)]
    simp [List.getD_eq_getElem?_getD, List.getElem?_range hi]) dst hd
  rw [this]
  congr 1
  unfold strOfNums strF
  simp [List.map_map, Function.comp_def]
end Go.Proofs.Ytmlmpekhcnjehaa
namespace Go.Proofs.Ytmlmpekhcnjehaa
open Go.RowKit
set_option linter.unusedVariables false
theorem bits_of_seq {z : ByteArray} (h : z.size ≤ 255) : bitsB z = okB z z.size := by unfold bitsB; rw [decide_eq_true (by omega), Bool.and_true]
theorem seq_out {z : ByteArray} (h : ¬ (1 ≤ z.size ∧ z.size ≤ 255)) : false = seqB z := by
  cases hb : seqB z with
  | false => rfl
  | true => exact absurd ((seqB_iff z).1 hb).2 h
theorem seq_in {z : ByteArray} (h1 : 1 ≤ z.size) (h2 : z.size ≤ 255) : bitsB z = seqB z := by
  unfold seqB; rw [bits_of_seq h2, decide_eq_true h1, decide_eq_true h2]; simp
set_option maxRecDepth 100000 in
theorem iSequenceValid_any (z : ByteArray) (w : World) (hs : z.size ≤ 9223372036854775807) :
    Calls Try.prog 38 #[.string z] w fun e w' => e = .returned (.bool (seqB z)) ∧ w = w' := by
  by_cases h1 : 0 < z.size
  · by_cases h2 : z.size ≤ 255
    · have hb := fun w => bitsValid_any z w (by omega)
      rw [seq_in (by omega) h2] at hb
      go_enter Try.func38, Try.ntmps38
      go_wp2_with (first | (go_at_call 60; refine (hb _).mono ?_; rintro e w' ⟨rfl, rfl⟩))
      go_ret
      exact ⟨rfl, rfl⟩
    · go_enter Try.func38, Try.ntmps38
      go_wp2
      go_ret
      exact ⟨ret_bool (seq_out (by omega)), rfl⟩
  · go_enter Try.func38, Try.ntmps38
    go_wp2
    go_ret
    exact ⟨ret_bool (seq_out (by omega)), rfl⟩
theorem iSequenceValid_yes (z : ByteArray) (w : World) (h : seqB z = true) :
    Calls Try.prog 38 #[.string z] w fun e w' => e = .returned (.bool true) ∧ w = w' := by
  rw [← h]; exact iSequenceValid_any z w (by have := ((seqB_iff z).1 h).2; omega)
theorem iSequenceValid_no (z : ByteArray) (w : World) (hs : z.size ≤ 9223372036854775807) (h : seqB z = false) :
    Calls Try.prog 38 #[.string z] w fun e w' => e = .returned (.bool false) ∧ w = w' := by
  rw [← h]; exact iSequenceValid_any z w hs
theorem seq_spec {z : ByteArray} (h : okB z z.size = true) (h2 : z.size ≤ 600) : (decide ((1 : Int) ≤ z.size) && decide ((z.size : Int) ≤ 255)) = seqB z := by
  unfold seqB; rw [h, Bool.true_and, Bool.eq_iff_iff]; simp; omega
theorem seq_nobits {z : ByteArray} (h : bitsB z = false) : false = seqB z := by
  cases hb : seqB z with
  | false => rfl
  | true => have := (seqB_iff z).1 hb; rw [bits_of_seq this.2.2, this.1] at h; cases h
set_option maxRecDepth 100000 in
theorem sSequenceValid_any (z : ByteArray) (w : World) (hs : z.size ≤ 9223372036854775807) :
    Calls Try.prog 94 #[.string z] w fun e w' => e = .returned (.bool (seqB z)) ∧ w = w' := by
  have hb := fun w => l1Bits_any z w hs
  cases hv : bitsB z with
  | true =>
    rw [hv] at hb
    have h6 : z.size ≤ 600 ∧ okB z z.size = true := by unfold bitsB at hv; simp only [Bool.and_eq_true, decide_eq_true_eq] at hv; exact ⟨hv.2, hv.1⟩
    have HR := Lib.hid (seq_spec h6.2 h6.1)
    clear hv h6
    go_enter Try.func94, Try.ntmps94
    go_wp2_with (first | (go_at_call 104; refine (hb _).mono ?_; rintro e w' ⟨rfl, rfl⟩) | (go_at_call 64; refine (l1In_any _ _ _ _).mono ?_; rintro e w' ⟨rfl, rfl⟩))
    go_ret
    exact ⟨ret_bool (by have := HR.out; rw [← this]), rfl⟩
  | false =>
    rw [hv] at hb
    have HR := Lib.hid (seq_nobits hv)
    clear hv
    go_enter Try.func94, Try.ntmps94
    go_wp2_with (first | (go_at_call 104; refine (hb _).mono ?_; rintro e w' ⟨rfl, rfl⟩))
    go_ret
    exact ⟨ret_bool HR.out, rfl⟩
theorem sSequenceValid_yes (z : ByteArray) (w : World) (h : seqB z = true) :
    Calls Try.prog 94 #[.string z] w fun e w' => e = .returned (.bool true) ∧ w = w' := by
  rw [← h]; exact sSequenceValid_any z w (by have := ((seqB_iff z).1 h).2; omega)
theorem sSequenceValid_no (z : ByteArray) (w : World) (hs : z.size ≤ 9223372036854775807) (h : seqB z = false) :
    Calls Try.prog 94 #[.string z] w fun e w' => e = .returned (.bool false) ∧ w = w' := by
  rw [← h]; exact sSequenceValid_any z w hs
/-- Two sequences of the same length. -/
def pairB (a b : ByteArray) : Bool := seqB a && (seqB b && decide (a.size = b.size))
theorem pairB_iff (a b : ByteArray) : pairB a b = true ↔ seqB a = true ∧ seqB b = true ∧ a.size = b.size := by
  unfold pairB; simp only [Bool.and_eq_true, decide_eq_true_eq]
set_option maxRecDepth 100000 in
theorem iPair_any (a b : ByteArray) (w : World) (ha : a.size ≤ 9223372036854775807) (hb : b.size ≤ 9223372036854775807) :
    Calls Try.prog 40 #[.string a, .string b] w fun e w' => e = .returned (.bool (pairB a b)) ∧ w = w' := by
  cases h1 : seqB a with
  | false =>
    have HR := Lib.hid (show false = pairB a b by unfold pairB; rw [h1]; rfl)
    go_enter Try.func40, Try.ntmps40
    go_wp2_with (first | (go_at_call 38; refine (iSequenceValid_no a _ ha h1).mono ?_; rintro e w' ⟨rfl, rfl⟩))
    go_ret
    exact ⟨ret_bool HR.out, rfl⟩
  | true =>
    cases h2 : seqB b with
    | false =>
      have HR := Lib.hid (show false = pairB a b by unfold pairB; rw [h1, h2]; rfl)
      go_enter Try.func40, Try.ntmps40
      go_wp2_with (fail)
      refine (iSequenceValid_yes a _ h1).mono ?_
      rintro e w' ⟨rfl, rfl⟩
      go_wp2_with (fail)
      refine (iSequenceValid_no b _ hb h2).mono ?_
      rintro e w' ⟨rfl, rfl⟩
      go_wp2
      go_ret
      exact ⟨ret_bool HR.out, rfl⟩
    | true =>
      have HR := Lib.hid (show decide (a.size = b.size) = pairB a b by unfold pairB; rw [h1, h2]; rfl)
      go_enter Try.func40, Try.ntmps40
      go_wp2_with (fail)
      refine (iSequenceValid_yes a _ h1).mono ?_
      rintro e w' ⟨rfl, rfl⟩
      go_wp2_with (fail)
      refine (iSequenceValid_yes b _ h2).mono ?_
      rintro e w' ⟨rfl, rfl⟩
      go_wp2
      go_ret
      exact ⟨ret_bool (by rw [← HR.out, Bool.eq_iff_iff]; simp; omega), rfl⟩
theorem iPair_yes (a b : ByteArray) (w : World) (h : pairB a b = true) :
    Calls Try.prog 40 #[.string a, .string b] w fun e w' => e = .returned (.bool true) ∧ w = w' := by
  have h' := (pairB_iff a b).1 h
  have h1 := (seqB_iff a).1 h'.1
  have h2 := (seqB_iff b).1 h'.2.1
  rw [← h]; exact iPair_any a b w (by omega) (by omega)
theorem iPair_no (a b : ByteArray) (w : World) (ha : a.size ≤ 9223372036854775807) (hb : b.size ≤ 9223372036854775807) (h : pairB a b = false) :
    Calls Try.prog 40 #[.string a, .string b] w fun e w' => e = .returned (.bool false) ∧ w = w' := by
  rw [← h]; exact iPair_any a b w ha hb
set_option maxRecDepth 100000 in
theorem sPair_any (a b : ByteArray) (w : World) (ha : a.size ≤ 9223372036854775807) (hb : b.size ≤ 9223372036854775807) :
    Calls Try.prog 79 #[.string a, .string b] w fun e w' => e = .returned (.bool (pairB a b)) ∧ w = w' := by
  cases h1 : seqB a with
  | false =>
    have HR := Lib.hid (show false = pairB a b by unfold pairB; rw [h1]; rfl)
    go_enter Try.func79, Try.ntmps79
    go_wp2_with (first | (go_at_call 94; refine (sSequenceValid_no a _ ha h1).mono ?_; rintro e w' ⟨rfl, rfl⟩))
    go_ret
    exact ⟨ret_bool HR.out, rfl⟩
  | true =>
    cases h2 : seqB b with
    | false =>
      have HR := Lib.hid (show false = pairB a b by unfold pairB; rw [h1, h2]; rfl)
      go_enter Try.func79, Try.ntmps79
      go_wp2_with (fail)
      refine (sSequenceValid_yes a _ h1).mono ?_
      rintro e w' ⟨rfl, rfl⟩
      go_wp2_with (fail)
      refine (sSequenceValid_no b _ hb h2).mono ?_
      rintro e w' ⟨rfl, rfl⟩
      go_wp2
      go_ret
      exact ⟨ret_bool HR.out, rfl⟩
    | true =>
      have HR := Lib.hid (show decide (a.size = b.size) = pairB a b by unfold pairB; rw [h1, h2]; rfl)
      go_enter Try.func79, Try.ntmps79
      go_wp2_with (fail)
      refine (sSequenceValid_yes a _ h1).mono ?_
      rintro e w' ⟨rfl, rfl⟩
      go_wp2_with (fail)
      refine (sSequenceValid_yes b _ h2).mono ?_
      rintro e w' ⟨rfl, rfl⟩
      go_wp2
      go_ret
      exact ⟨ret_bool (by rw [← HR.out, Bool.eq_iff_iff]; simp; omega), rfl⟩
theorem sPair_yes (a b : ByteArray) (w : World) (h : pairB a b = true) :
    Calls Try.prog 79 #[.string a, .string b] w fun e w' => e = .returned (.bool true) ∧ w = w' := by
  have h' := (pairB_iff a b).1 h
  have h1 := (seqB_iff a).1 h'.1
  have h2 := (seqB_iff b).1 h'.2.1
  rw [← h]; exact sPair_any a b w (by omega) (by omega)
theorem sPair_no (a b : ByteArray) (w : World) (ha : a.size ≤ 9223372036854775807) (hb : b.size ≤ 9223372036854775807) (h : pairB a b = false) :
    Calls Try.prog 79 #[.string a, .string b] w fun e w' => e = .returned (.bool false) ∧ w = w' := by
  rw [← h]; exact sPair_any a b w ha hb
set_option maxRecDepth 100000 in
theorem modulo_any (k : Int) (n : Nat) (w : World) (h1 : 1 ≤ n) (h2 : n ≤ 255) :
    Calls Try.prog 39 #[.int .i64 k, .int .i64 n] w fun e w' => e = .returned (.int .i64 (modN k n : Nat)) ∧ w = w' := by
  have hb := tmod_bd k n (by omega)
  have hn : ¬ ((n : Int) = 0) := by omega
  by_cases h0 : k.tmod n < 0
  · have HR := Lib.hid (tmod_neg k n (by omega) h0)
    go_enter Try.func39, Try.ntmps39
    go_wp2
    go_ret
    exact ⟨ret_int HR.out, rfl⟩
  · have HR := Lib.hid (tmod_pos k n (by omega) (by omega))
    go_enter Try.func39, Try.ntmps39
    go_wp2
    go_ret
    exact ⟨ret_int HR.out, rfl⟩
set_option maxRecDepth 100000 in
theorem l2Mod_any (k : Int) (n : Nat) (w : World) (h1 : 1 ≤ n) (h2 : n ≤ 255) :
    Calls Try.prog 105 #[.int .i64 k, .int .i64 n] w fun e w' => e = .returned (.int .i64 (modN k n : Nat)) ∧ w = w' := by
  have hb := tmod_bd k n (by omega)
  have hn : ¬ ((n : Int) = 0) := by omega
  have HR := Lib.hid (tmod_twice k n (by omega))
  go_enter Try.func105, Try.ntmps105
  go_wp2
  go_ret
  exact ⟨ret_int HR.out, rfl⟩
end Go.Proofs.Ytmlmpekhcnjehaa
namespace Go.Proofs.Ytmlmpekhcnjehaa
open Go.RowKit
set_option linter.unusedVariables false
theorem copy_string_row {P : Program} {w : World} (dT sT ty elem : TypeId) (hu : P.underlying dT = some (.slice elem)) (hz : ∀ w, (Go.sizeOf elem).run P w = .ok 1 w)
    (g off dLen dCap : Nat) (x : ByteArray) (hle : x.size ≤ dLen) (t : TypeId) (N : Nat) (f : Nat → Nat) (hr : Bytes w g t N f) (hfit : off + x.size ≤ N) (B : Nat) (w0 : World) (hb : Below B w0 w) (hBg : B ≤ g) :
    ∃ w', (Builtin.copy_ #[dT, sT] ty #[.slice (some ⟨g, off, none⟩) dLen dCap, .string x]).run P w = .ok (goInt x.size) w' ∧
      Bytes w' g t N (fun j => if off ≤ j ∧ j < off + x.size then zb x (j - off) else f j) ∧ Below B w0 w' := by
  have hrun := run_copy_string (P := P) w dT sT ty elem g off dLen dCap x hu hz hle (fun j hj => by rw [hr.cell (off + j) (by omega)]; rfl) (fun j _ => World.rowIs.frozen hr _)
  refine ⟨_, hrun, ?_, below_setCells hBg _ _ _ hb⟩
  have hl : (x.data.toList.map fun c => Value.int .u8 (c.toNat : Int)).length = x.size := by rw [List.length_map]; rfl
  refine World.rowIs.congr (rowIs_setCells _ off w _ hr) fun j hj => ?_
  rw [hl]
  by_cases hc : off ≤ j ∧ j < off + x.size
  · simp only [if_pos hc]
    have hx : j - off < x.data.toList.length := by show _ < x.size; omega
    rw [List.getElem?_map, List.getElem?_eq_getElem hx]
    unfold zb
    rw [List.getD_eq_getElem?_getD, List.getElem?_eq_getElem hx]
    rfl
  · simp only [if_neg hc]
end Go.Proofs.Ytmlmpekhcnjehaa
namespace Go.Proofs.Ytmlmpekhcnjehaa
open Go.RowKit
set_option linter.unusedVariables false
theorem ret_str {a b : ByteArray} (h : a = b) : Ending.returned (.string a) = .returned (.string b) := by rw [h]
theorem ret_slice {x : Option Addr} {a b : Nat} (h : a = b) : Ending.returned (.slice x a a) = .returned (.slice x b b) := by rw [h]
theorem sizeOf_u8 : ∀ w, (Go.sizeOf 5).run Try.prog w = .ok 1 w := fun _ => by kernel_rfl
theorem make_bytes (n : Nat) (h : n ≤ 9223372036854775807) (hb : 1 * n ≤ 281474976710656) (w : World) :
    (Instr.makeSlice 27 (.int .i64 (n : Int)) (.int .i64 (n : Int))).run Try.prog w = .ok (.slice (some ⟨w.heap.size, 0, none⟩) n n) (w.alloc (.cells (madeCells #[.int .u8 0] n) 5)) :=
  run_make_row' (P := Try.prog) 27 5 (.int .u8 0) 1 (by kernel_rfl) (by kernel_rfl) rfl .i64 .i64 n hb h w
/-- The row of a string twice: what stands at an index. -/
theorem twice_at (z : ByteArray) (i : Nat) (hi : i < 2 * z.size) :
    (if z.size ≤ i ∧ i < z.size + z.size then zb z (i - z.size) else if 0 ≤ i ∧ i < 0 + z.size then zb z (i - 0) else 0) = zb z (i % z.size) := by
  by_cases h : i < z.size
  · rw [if_neg (by omega), if_pos (by omega), Nat.mod_eq_of_lt h, Nat.sub_zero]
  · rw [if_pos (by omega), Nat.mod_eq_sub_mod (by omega), Nat.mod_eq_of_lt (by omega)]
set_option maxRecDepth 100000 in
theorem turned_any (z : ByteArray) (k : Int) (w : World) (h1 : 1 ≤ z.size) (h2 : z.size ≤ 255) :
    Calls Try.prog 41 #[.string z, .int .i64 k] w fun e w' => e = .returned (.slice (some ⟨w.heap.size, modN k z.size, none⟩) z.size z.size) ∧ Bytes w' w.heap.size 5 (2 * z.size) (fun i => zb z (i % z.size)) ∧ Below w.heap.size w w' := by
  have hmk := make_bytes (2 * z.size) (by omega) (by omega)
  rw [show ((2 * z.size : Nat) : Int) = 2 * (z.size : Int) by omega] at hmk
  have hm := modN_lt k z.size (by omega)
  obtain ⟨w1, c1, r1, b1⟩ := copy_string_row (P := Try.prog) 27 9 3 5 (by kernel_rfl) sizeOf_u8 w.heap.size 0 (2 * z.size) (2 * z.size) z (by omega) 5 (2 * z.size) (fun _ => 0) (Bytes.new (w := w) rfl) (by omega) w.heap.size w ((Below.refl _ _).alloc (Nat.le_refl _) _) (Nat.le_refl _)
  obtain ⟨w2, c2, r2, b2⟩ := copy_string_row (P := Try.prog) 27 9 3 5 (by kernel_rfl) sizeOf_u8 w.heap.size z.size (2 * z.size - z.size) (2 * z.size - z.size) z (by omega) 5 (2 * z.size) _ r1 (by omega) w.heap.size w b1 (Nat.le_refl _)
  have R := Lib.hid (r2.congr (fun i hi => twice_at z i hi))
  clear r1 r2 b1
  go_enter Try.func41, Try.ntmps41
  go_wp2_with (first | (go_at_call 39; refine (modulo_any k z.size _ h1 h2).mono ?_; rintro e w' ⟨rfl, rfl⟩))
  go_ret
  exact ⟨ret_slice (by omega), R.out, b2⟩
set_option maxRecDepth 100000 in
theorem l2Shift_any (z : ByteArray) (k : Int) (w : World) (h1 : 1 ≤ z.size) (h2 : z.size ≤ 255) :
    Calls Try.prog 97 #[.string z, .int .i64 k] w fun e w' => e = .returned (.string (shift z k)) ∧ ∃ n, w' = w.drewN n := by
  have hm := modN_lt k z.size (by omega)
  have hs := shift_cut z (modN k z.size) hm
  obtain ⟨y, hy⟩ : ∃ y, strF z.size (shB z (modN k z.size)) = y := ⟨_, rfl⟩
  have hl := fun w => l2Mod_any k z.size w h1 h2
  rw [hy] at hs
  have HY : Hid (shift z k = y) := Lib.hid (by unfold shift; exact hy)
  obtain ⟨m, hM⟩ : ∃ m, modN k z.size = m := ⟨_, rfl⟩
  rw [hM] at hm hs hl
  have s1 := size_extract z m z.size (Nat.le_refl _)
  have s2 := size_extract z 0 m (by omega)
  clear hy hM
  go_enter Try.func97, Try.ntmps97
  go_wp2_with (first | (go_at_call 105; refine (hl _).mono ?_; rintro e w' ⟨rfl, rfl⟩))
  go_quiet (fail)
  go_wp2
  go_ret
  exact ⟨ret_str HY.out.symm, _, rfl⟩
end Go.Proofs.Ytmlmpekhcnjehaa
namespace Go.Proofs.Ytmlmpekhcnjehaa
open Go.RowKit
set_option linter.unusedVariables false
/-- A string repeated. -/
def many (s : ByteArray) (n : Nat) : ByteArray := strF (s.size * n) (fun i => zb s (i % s.size))
theorem many_size (s : ByteArray) (n : Nat) : (many s n).size = s.size * n := strF_size _ _
theorem zb_many (s : ByteArray) (n i : Nat) (h : i < s.size * n) : zb (many s n) i = zb s (i % s.size) := zb_strF h (zb_lt _ _)
def Rep (s O : ByteArray) (d : Nat) : Prop := O.size = s.size * d ∧ ∀ i, i < O.size → zb O i = zb s (i % s.size)
theorem Rep.append {s O S : ByteArray} {d c : Nat} (h : Rep s O d) (k : Rep s S c) : Rep s (O ++ S) (d + c) := by
  refine ⟨by rw [ByteArray.size_append, h.1, k.1, Nat.mul_add], fun i hi => ?_⟩
  rw [ByteArray.size_append] at hi
  by_cases e : i < O.size
  · rw [zb_append_left _ _ _ e, h.2 i e]
  · rw [zb_append_right _ _ _ (by omega) hi, k.2 _ (by omega), h.1, Nat.sub_mul_mod (by rw [← h.1]; omega)]
theorem Rep.eq {s O : ByteArray} {n : Nat} (h : Rep s O n) : O = many s n := strF_of _ _ _ h.1 fun i hi => h.2 i (by rw [h.1]; exact hi)
/-- What holds at each round: the rest is to be repeated m times. -/
def MInv (s : ByteArray) (n : Nat) (S O : ByteArray) (m : Nat) : Prop := ∃ c d, Rep s S c ∧ Rep s O d ∧ d + m * c = n
theorem MInv.start (s : ByteArray) (n : Nat) : MInv s n s ⟨#[]⟩ n :=
  ⟨1, 0, ⟨by omega, fun i hi => by rw [Nat.mod_eq_of_lt hi]⟩, ⟨rfl, fun i hi => absurd hi (Nat.not_lt_zero i)⟩, by omega⟩
theorem MInv.odd {s S O : ByteArray} {n m : Nat} (h : MInv s n S O m) (hm : m % 2 = 1) : MInv s n (S ++ S) (O ++ S) (m / 2) := by
  obtain ⟨c, d, h1, h2, h3⟩ := h
  refine ⟨c + c, d + c, h1.append h1, h2.append h1, ?_⟩
  have e : m = 2 * (m / 2) + 1 := by omega
  have e2 : m * c = 2 * (m / 2) * c + 1 * c := by rw [← Nat.add_mul, ← e]
  rw [Nat.mul_assoc, Nat.mul_comm 2, Nat.mul_assoc] at e2
  rw [Nat.mul_add]
  have e3 : m / 2 * (c * 2) = m / 2 * c + m / 2 * c := by rw [Nat.mul_comm c 2, Nat.two_mul, Nat.mul_add]
  omega
theorem MInv.even {s S O : ByteArray} {n m : Nat} (h : MInv s n S O m) (hm : ¬ m % 2 = 1) : MInv s n (S ++ S) O (m / 2) := by
  obtain ⟨c, d, h1, h2, h3⟩ := h
  refine ⟨c + c, d, h1.append h1, h2, ?_⟩
  have e : m = 2 * (m / 2) := by omega
  have e2 : m * c = 2 * (m / 2) * c := by rw [← e]
  rw [Nat.mul_assoc, Nat.mul_comm 2, Nat.mul_assoc] at e2
  rw [Nat.mul_add]
  have e3 : m / 2 * (c * 2) = m / 2 * c + m / 2 * c := by rw [Nat.mul_comm c 2, Nat.two_mul, Nat.mul_add]
  omega
theorem MInv.done {s S O : ByteArray} {n : Nat} (h : MInv s n S O 0) : O = many s n := by
  obtain ⟨c, d, h1, h2, h3⟩ := h
  obtain rfl : d = n := by omega
  exact h2.eq
theorem MInv.bd {s S O : ByteArray} {n m B : Nat} (h : MInv s n S O m) (hm : 0 < m) (hB : s.size * n ≤ B) : S.size ≤ B ∧ O.size + S.size ≤ B := by
  obtain ⟨c, d, h1, h2, h3⟩ := h
  have e1 : c ≤ m * c := Nat.le_mul_of_pos_left c hm
  have e2 : s.size * (d + c) ≤ s.size * n := Nat.mul_le_mul_left _ (by omega)
  rw [Nat.mul_add] at e2
  have := h1.1
  have := h2.1
  omega
end Go.Proofs.Ytmlmpekhcnjehaa
