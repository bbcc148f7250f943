/- How many paths are free, one bit further down: the mathematics of FnFreePaths. -/
import Derived.Test.YtgkiilpcobgboaaFamFree2
namespace Go.Proofs.Ytgkiilpcobgboaa
open Go.RowKit
set_option linter.unusedVariables false
theorem begB_iff (p q : ByteArray) : begB p q = true ↔ ∀ i, i < p.size → i < q.size → zb p i = zb q i := by
  have key : ∀ x y : ByteArray, x.size ≤ y.size → ((x.toList == (y.extract 0 x.size).toList) = true ↔ ∀ i, i < x.size → zb x i = zb y i) := fun x y h => by
    constructor
    · intro e i hi
      have e' : x = y.extract 0 x.size := Classical.byContradiction (fun hne => by rw [str_ne hne] at e; cases e)
      have := zb_extract y 0 x.size i h (by omega)
      rw [Nat.zero_add] at this
      rw [← this, ← e']
    · intro hh
      have : x = y.extract 0 x.size := by
        apply ba_ext (by rw [size_extract _ _ _ h]; omega)
        intro i hi
        rw [zb_extract y 0 x.size i h (by omega), Nat.zero_add]
        exact hh i hi
      rw [← this]; exact beq_self_eq_true _
  unfold begB
  by_cases h : p.size ≤ q.size
  · rw [if_pos h, key p q h]
    exact ⟨fun hh i h1 _ => hh i h1, fun hh i h1 => hh i h1 (by omega)⟩
  · rw [if_neg h]
    have : ((p.extract 0 q.size).toList == q.toList) = (q.toList == (p.extract 0 q.size).toList) := BEq.comm
    rw [this, key q p (by omega)]
    exact ⟨fun hh i _ h2 => (hh i h2).symm, fun hh i h2 => (hh i (by omega) h2).symm⟩
theorem zb_dig {n c i : Nat} (h : i < c) : zb (digS n c) i = digF n c i := zb_strF h (digF_lt _ _ _)
theorem dig_down {i b d t : Nat} (hb : b < 2) (ht : t < d) : digF (2 * i + b) (d + 1) t = digF i d t := by
  unfold digF
  rw [show d + 1 - 1 - t = (d - 1 - t) + 1 by omega, tw_succ, ← Nat.div_div_eq_div_mul, show (2 * i + b) / 2 = i by omega]
theorem beg_down {i b d : Nat} {q : ByteArray} (hb : b < 2) (h : begB (digS (2 * i + b) (d + 1)) q = true) : begB (digS i d) q = true := by
  rw [begB_iff] at h ⊢
  intro t h1 h2
  rw [digS_size] at h1
  have := h t (by rw [digS_size]; omega) h2
  rw [zb_dig (by omega), dig_down hb h1] at this
  rw [zb_dig h1, this]
theorem beg_up {i b d : Nat} {q : ByteArray} (hb : b < 2) (hq : q.size ≤ d) (h : begB (digS i d) q = true) : begB (digS (2 * i + b) (d + 1)) q = true := by
  rw [begB_iff] at h ⊢
  intro t h1 h2
  have := h t (by rw [digS_size]; omega) h2
  rw [zb_dig (by omega)] at this
  rw [zb_dig (by omega), dig_down hb (by omega), this]
theorem free_iff (n : Nat) (F : Nat → ByteArray) (p : ByteArray) : freeB n F p = true ↔ ∀ j, j < n → confB p (F j) = false := by
  unfold freeB
  rw [List.all_eq_true]
  constructor
  · intro h j hj; have := h j (List.mem_range.2 hj); simpa using this
  · intro h j hj; rw [h j (List.mem_range.1 hj)]; rfl
theorem conf_dig {i d : Nat} {q : ByteArray} (hd : d ≤ 6) : confB (digS i d) q = (pathB q && begB (digS i d) q) := by unfold confB; rw [digS_path i d hd, Bool.true_and]
theorem free_down {n : Nat} {F : Nat → ByteArray} {i b d : Nat} (hb : b < 2) (hd : d + 1 ≤ 6) (h : freeB n F (digS i d) = true) : freeB n F (digS (2 * i + b) (d + 1)) = true := by
  rw [free_iff] at h ⊢
  intro j hj
  have := h j hj
  rw [conf_dig (by omega)] at this
  rw [conf_dig hd]
  cases e : begB (digS (2 * i + b) (d + 1)) (F j) with
  | false => simp
  | true => rw [beg_down hb e] at this; exact this
theorem free_up {n : Nat} {F : Nat → ByteArray} {i b d : Nat} (hb : b < 2) (hd : d + 1 ≤ 6) (hF : ∀ j, j < n → (F j).size ≤ d) (h : freeB n F (digS (2 * i + b) (d + 1)) = true) : freeB n F (digS i d) = true := by
  rw [free_iff] at h ⊢
  intro j hj
  have := h j hj
  rw [conf_dig hd] at this
  rw [conf_dig (by omega)]
  cases e : begB (digS i d) (F j) with
  | false => simp
  | true => rw [beg_up hb (hF j hj) e] at this; exact this
theorem frL_step (n : Nat) (F : Nat → ByteArray) (d k : Nat) : (frL n F d (k + 1)).length = (frL n F d k).length + (if freeB n F (digS k d) = true then 1 else 0) := by
  cases h : freeB n F (digS k d) with
  | true => rw [frL_yes h, List.length_append]; simp
  | false => rw [frL_no h]; simp
theorem fr_twice {n : Nat} {F : Nat → ByteArray} {d : Nat} (hd : d + 1 ≤ 6) : ∀ k, 2 * (frL n F d k).length ≤ (frL n F (d + 1) (2 * k)).length
  | 0 => by simp [frL]
  | k + 1 => by
    have := fr_twice (n := n) (F := F) hd k
    rw [show 2 * (k + 1) = 2 * k + 1 + 1 by omega, frL_step, frL_step, frL_step]
    by_cases h : freeB n F (digS k d) = true
    · have h0 := free_down (b := 0) (by omega) hd h
      have h1 := free_down (b := 1) (by omega) hd h
      rw [Nat.add_zero] at h0
      rw [if_pos h, if_pos h0, if_pos h1]; omega
    · rw [if_neg h]; omega
theorem fr_same {n : Nat} {F : Nat → ByteArray} {d : Nat} (hd : d + 1 ≤ 6) (hF : ∀ j, j < n → (F j).size ≤ d) : ∀ k, (frL n F (d + 1) (2 * k)).length = 2 * (frL n F d k).length
  | 0 => by simp [frL]
  | k + 1 => by
    have := fr_same hd hF k
    rw [show 2 * (k + 1) = 2 * k + 1 + 1 by omega, frL_step, frL_step, frL_step]
    by_cases h : freeB n F (digS k d) = true
    · have h0 := free_down (b := 0) (by omega) hd h
      have h1 := free_down (b := 1) (by omega) hd h
      rw [Nat.add_zero] at h0
      rw [if_pos h, if_pos h0, if_pos h1]; omega
    · have h0 : ¬ freeB n F (digS (2 * k) (d + 1)) = true := fun e => h (free_up (b := 0) (by omega) hd hF e)
      have h1 : ¬ freeB n F (digS (2 * k + 1) (d + 1)) = true := fun e => h (free_up (b := 1) (by omega) hd hF e)
      rw [if_neg h, if_neg h0, if_neg h1]; omega
theorem fr_none (F : Nat → ByteArray) (d : Nat) : ∀ k, (frL 0 F d k).length = k
  | 0 => by simp [frL]
  | k + 1 => by rw [frL_step, fr_none F d k, if_pos (by simp [freeB])]
end Go.Proofs.Ytgkiilpcobgboaa
