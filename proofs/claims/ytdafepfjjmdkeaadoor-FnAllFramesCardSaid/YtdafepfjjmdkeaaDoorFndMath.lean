/- The next frame in bits, from an index on. -/
import Derived.Test.YtdafepfjjmdkeaaDoorFrm11
import Derived.Lib.IndexMore
namespace Go.Proofs.YtdafepfjjmdkeaaDoor
open Go.RowKit
set_option linter.unusedVariables false
set_option maxRecDepth 100000
/-- The first index from a on, of the next f, at which a frame begins; else a + f. -/
def nxN (z : ByteArray) : Nat → Nat → Nat
  | 0, a => a
  | f + 1, a => if hitB z a = true then a else nxN z f (a + 1)
/-- The first index from a on at which a frame begins; one that is not less than the length, if there is none. -/
def nx (z : ByteArray) (a : Nat) : Nat := nxN z (z.size - a) a
theorem nx_hit {z : ByteArray} {a : Nat} (h : hitB z a = true) : nx z a = a := by
  unfold nx
  cases z.size - a with
  | zero => rfl
  | succ f => simp only [nxN]; rw [if_pos h]
theorem nx_end {z : ByteArray} {a : Nat} (h : z.size ≤ a) : nx z a = a := by
  unfold nx; rw [show z.size - a = 0 by omega]; rfl
theorem nx_miss {z : ByteArray} {a : Nat} (h : hitB z a = false) (ha : a < z.size) : nx z a = nx z (a + 1) := by
  unfold nx
  obtain ⟨f, hf⟩ : ∃ f, z.size - a = f + 1 := ⟨z.size - a - 1, by omega⟩
  rw [hf, show z.size - (a + 1) = f by omega]
  simp only [nxN]; rw [if_neg (by rw [h]; simp)]
theorem nx_jump {z : ByteArray} {a b : Nat} (hab : a ≤ b) (hb : b ≤ z.size) (h : ∀ j, a ≤ j → j < b → hitB z j = false) : nx z a = nx z b := by
  obtain ⟨d, rfl⟩ : ∃ d, b = a + d := ⟨b - a, by omega⟩
  induction d generalizing a with
  | zero => rfl
  | succ d ih =>
    rw [nx_miss (h a (Nat.le_refl _) (by omega)) (by omega), ih (a := a + 1) (by omega) (by omega) (fun j h1 h2 => h j (by omega) (by omega))]
    congr 1; omega
theorem hit_lt {z : ByteArray} {a : Nat} (h : hitB z a = true) : a + 23 ≤ z.size := ((hitB_iff z a).1 h).1
theorem nx_far {z : ByteArray} {a : Nat} (h : ∀ j, a ≤ j → hitB z j = false) : z.size ≤ nx z a := by
  rcases Nat.le_total z.size a with h1 | h1
  · rw [nx_end h1]; exact h1
  · rw [nx_jump h1 (Nat.le_refl _) (fun j h2 _ => h j h2), nx_end (Nat.le_refl _)]; exact Nat.le_refl _
theorem nxN_is (z : ByteArray) : ∀ f a, a ≤ nxN z f a ∧ nxN z f a ≤ a + f ∧ (∀ j, a ≤ j → j < nxN z f a → hitB z j = false) ∧ (nxN z f a < a + f → hitB z (nxN z f a) = true)
  | 0, a => by simp only [nxN]; exact ⟨Nat.le_refl _, Nat.le_refl _, fun j h1 h2 => by omega, fun h => by omega⟩
  | f + 1, a => by
    simp only [nxN]
    by_cases h : hitB z a = true
    · rw [if_pos h]; exact ⟨Nat.le_refl _, by omega, fun j h1 h2 => by omega, fun _ => h⟩
    · rw [if_neg h]
      obtain ⟨h1, h2, h3, h4⟩ := nxN_is z f (a + 1)
      refine ⟨by omega, by omega, fun j j1 j2 => ?_, fun hl => h4 (by omega)⟩
      by_cases e : j = a
      · subst e; simpa using h
      · exact h3 j (by omega) j2
theorem nx_le (z : ByteArray) (a : Nat) : a ≤ nx z a := (nxN_is z _ a).1
theorem nx_none {z : ByteArray} {a j : Nat} (h1 : a ≤ j) (h2 : j < nx z a) : hitB z j = false := (nxN_is z _ a).2.2.1 j h1 h2
theorem nx_yes {z : ByteArray} {a : Nat} (h : nx z a < z.size) : hitB z (nx z a) = true := (nxN_is z (z.size - a) a).2.2.2 (by have := nx_le z a; unfold nx at h this; omega)
/-- What finding a frame answers. -/
def fndV (z : ByteArray) (k : Int) : Int := if bitsB z = true ∧ 0 ≤ k ∧ nx z k.toNat < z.size then ((nx z k.toNat : Nat) : Int) else -1
theorem fndV_no {z : ByteArray} {k : Int} (h : ¬ (bitsB z = true ∧ 0 ≤ k ∧ nx z k.toNat < z.size)) : fndV z k = -1 := by unfold fndV; rw [if_neg h]
theorem fndV_yes {z : ByteArray} {a : Nat} (hb : bitsB z = true) (h : nx z a < z.size) : fndV z a = (nx z a : Nat) := by
  unfold fndV; rw [Int.toNat_natCast, if_pos ⟨hb, by omega, h⟩]
theorem fndV_off {z : ByteArray} {a : Nat} (h : z.size ≤ nx z a) : fndV z a = -1 := fndV_no (by rw [Int.toNat_natCast]; omega)
/-! ### The flag of a frame -/
def flagS : ByteArray := ⟨#[49, 49, 49, 48, 49, 48, 48, 48]⟩
theorem flag_size : flagS.size = 8 := by decide
/-- Where a frame begins, its flag stands. -/
theorem hit_flag {z : ByteArray} {a : Nat} (h : hitB z a = true) : z.extract a (a + 8) = flagS := by
  obtain ⟨h1, h2, h3, h4⟩ := (hitB_iff z a).1 h
  have e : (z.extract a (a + 23 + nAt z a)).extract 0 8 = z.extract a (a + 8) := extract_twice z a _ 0 8 (by omega) (by omega) h3
  rw [← e, ← h4]
  unfold frmS
  have s1 : ((⟨#[49, 49, 49, 48, 49, 48, 48, 48]⟩ : ByteArray) ++ innS (parP z a)).size = 8 + (innS (parP z a)).size := by rw [ByteArray.size_append]; rfl
  have hs : ∀ (x y : ByteArray), (x ++ y).size = x.size + y.size := fun _ _ => ByteArray.size_append
  refine ba_ext (by rw [size_extract _ _ _ (by rw [hs, s1]; omega)]; rfl) fun i hi => ?_
  rw [size_extract _ _ _ (by rw [hs, s1]; omega)] at hi
  rw [zb_extract _ _ _ _ (by rw [hs, s1]; omega) (by omega), Nat.zero_add, zb_append_left _ _ _ (by rw [s1]; omega), zb_append_left _ _ _ (by show i < 8; omega)]
  rfl
/-- Where there is no flag, no frame begins. -/
theorem occ_flag {z : ByteArray} {a j : Nat} (ha : a ≤ z.size) (h : hitB z (a + j) = true) : Lib.occAt (z.extract a z.size).data.toList flagS.data.toList j = true := by
  have h1 := hit_lt h
  have e : (z.extract (a + j) (a + j + 8)).data.toList = flagS.data.toList := by rw [hit_flag h]
  rw [Lib.extract_data, show a + j + 8 - (a + j) = 8 by omega] at e
  unfold Lib.occAt
  rw [Lib.extract_to_end, List.drop_drop, List.isPrefixOf_iff_prefix, ← e]
  exact List.take_prefix _ _
/-- No flag: no frame from here on. -/
theorem no_flag {z : ByteArray} {a : Nat} (ha : a ≤ z.size) (h : Lib.index (z.extract a z.size).data.toList flagS.data.toList = -1) : z.size ≤ nx z a := by
  rcases Lib.index_spec (z.extract a z.size).data.toList flagS.data.toList with ⟨_, h2⟩ | ⟨i, h1, _, _, _⟩
  · refine nx_far fun j hj => ?_
    cases hh : hitB z j with
    | false => rfl
    | true =>
      obtain ⟨d, rfl⟩ : ∃ d, j = a + d := ⟨j - a, by omega⟩
      have h3 := hit_lt hh
      have h4 := h2 d (by rw [← Lib.size_eq, size_extract _ _ _ (Nat.le_refl _)]; omega)
      rw [occ_flag ha hh] at h4; cases h4
  · rw [h] at h1; omega
/-- A flag: no frame before it. -/
theorem at_flag {z : ByteArray} {a : Nat} (ha : a ≤ z.size) (h : ¬ Lib.index (z.extract a z.size).data.toList flagS.data.toList = -1) :
    ∃ i : Nat, Lib.index (z.extract a z.size).data.toList flagS.data.toList = i ∧ a + i + 8 ≤ z.size ∧ nx z a = nx z (a + i) := by
  rcases Lib.index_spec (z.extract a z.size).data.toList flagS.data.toList with ⟨h1, _⟩ | ⟨i, h1, h2, h3, h4⟩
  · exact absurd h1 h
  · have hr := Lib.index_room (z.extract a z.size).data.toList flagS.data.toList (by rw [h1]; omega)
    rw [h1, ← Lib.size_eq, ← Lib.size_eq, size_extract _ _ _ (Nat.le_refl _), flag_size] at hr
    refine ⟨i, h1, by omega, nx_jump (by omega) (by omega) fun j j1 j2 => ?_⟩
    cases hh : hitB z j with
    | false => rfl
    | true =>
      obtain ⟨d, rfl⟩ : ∃ d, j = a + d := ⟨j - a, by omega⟩
      have h5 := h4 d (by omega)
      rw [occ_flag ha hh] at h5; cases h5
end Go.Proofs.YtdafepfjjmdkeaaDoor
