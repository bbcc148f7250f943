/- Digits in the order of strings. -/
import Derived.Test.YtgkiilpcobgboaaAllocMath
namespace Go.Proofs.Ytgkiilpcobgboaa
open Go.RowKit
set_option linter.unusedVariables false
theorem free_but {n m : Nat} {F F' : Nat → ByteArray} {p q : ByteArray} (h : ∀ q, freeB m F' q = (freeB n F q && !confB q p)) : freeB m F' q = (freeB n F q && !confB q p) := h q
theorem freeB_snoc {n : Nat} {F F' : Nat → ByteArray} {p : ByteArray} (hF : ∀ j, j < n → F' j = F j) (hp : F' n = p) (q : ByteArray) : freeB (n + 1) F' q = (freeB n F q && !confB q p) := by
  rw [Bool.eq_iff_iff, Bool.and_eq_true, free_iff, free_iff, Bool.not_eq_true']
  constructor
  · intro h
    exact ⟨fun j hj => by rw [← hF j hj]; exact h j (by omega), by rw [← hp]; exact h n (by omega)⟩
  · rintro ⟨h1, h2⟩ j hj
    by_cases e : j < n
    · rw [hF j e]; exact h1 j e
    · obtain rfl : j = n := by omega
      rw [hp]; exact h2
theorem freeB_cons {n : Nat} {F F' : Nat → ByteArray} {p : ByteArray} (hp : F' 0 = p) (hF : ∀ j, j < n → F' (j + 1) = F j) (q : ByteArray) : freeB (n + 1) F' q = (freeB n F q && !confB q p) := by
  rw [Bool.eq_iff_iff, Bool.and_eq_true, free_iff, free_iff, Bool.not_eq_true']
  constructor
  · intro h
    exact ⟨fun j hj => by rw [← hF j hj]; exact h (j + 1) (by omega), by rw [← hp]; exact h 0 (by omega)⟩
  · rintro ⟨h1, h2⟩ j hj
    cases j with
    | zero => rw [hp]; exact h2
    | succ j => rw [hF j (by omega)]; exact h1 j (by omega)
theorem frI_but {n m : Nat} {F F' : Nat → ByteArray} {d i0 : Nat} (hd : d ≤ 6) (h0 : i0 < tw d) (h : ∀ q, freeB m F' q = (freeB n F q && !confB q (digS i0 d))) :
    frI m F' d (tw d) = (List.range (tw d)).filter fun i => freeB n F (digS i d) && !decide (i = i0) := by
  unfold frI
  apply List.filter_congr
  intro i hi
  rw [h, conf_same hd (List.mem_range.1 hi) h0]
theorem al_less {n m : Nat} {F F' : Nat → ByteArray} {d i0 : Nat} (hd : d ≤ 6) (h0 : i0 < tw d) (hf : freeB n F (digS i0 d) = true) (h : ∀ q, freeB m F' q = (freeB n F q && !confB q (digS i0 d))) :
    (frI m F' d (tw d)).length + 1 = (frI n F d (tw d)).length := by
  rw [frI_but hd h0 h]
  exact one_less (G := fun i => freeB n F (digS i d)) (tw d) h0 hf
theorem dig_less : ∀ d, d < 7 → ∀ a, a < 64 → ∀ b, b < 64 → a < b → b < tw d → (!Op.bytesLess (digS b d).toList (digS a d).toList && !((digS b d).toList == (digS a d).toList)) = true := by
  decide +kernel
theorem al_math {n : Nat} {F : Nat → ByteArray} {D : Int} (hn : n ≤ 60) (h : (allocAns n F D).2 = true) : 0 < freeAns n F D ∧ (((allocAns n F D).1.size : Nat) : Int) = D ∧ (∀ j, j < n → confB (allocAns n F D).1 (F j) = false) ∧
    (∀ F' : Nat → ByteArray, (∀ j, j < n → F' j = F j) → F' n = (allocAns n F D).1 → freeAns (n + 1) F' D = freeAns n F D - 1) ∧
    (∀ F' : Nat → ByteArray, F' 0 = (allocAns n F D).1 → (∀ j, j < n → F' (j + 1) = F j) → freeAns n F D = 1 ∨ (!Op.bytesLess (allocAns (n + 1) F' D).1.toList (allocAns n F D).1.toList && !((allocAns (n + 1) F' D).1.toList == (allocAns n F D).1.toList)) = true) := by
  cases hu : usedB n F D with
  | false => unfold allocAns at h; rw [hu] at h; cases h
  | true =>
    obtain ⟨hn7, ⟨d0, d1⟩, hp⟩ := (usedB_iff _ _ _).1 hu
    obtain ⟨d, rfl⟩ : ∃ d : Nat, D = (d : Int) := ⟨D.toNat, by omega⟩
    have hd : d ≤ 6 := by omega
    have hfa : ∀ (m : Nat) (G : Nat → ByteArray), usedB m G (d : Int) = true → freeAns m G (d : Int) = (((frI m G d (tw d)).length : Nat) : Int) := fun m G hm => by
      unfold freeAns; rw [hm, Int.toNat_natCast, frL_map, List.length_map]; rfl
    have hal : ∀ (m : Nat) (G : Nat → ByteArray), usedB m G (d : Int) = true → 0 < (frI m G d (tw d)).length → (allocAns m G (d : Int)).1 = LS (frL m G d (tw d)) 0 := fun m G hm hl => by
      unfold allocAns
      rw [hm, Int.toNat_natCast]
      simp only [if_true]
      rw [if_neg (by rw [frL_map, List.length_map]; omega)]
    have hl : 0 < (frI n F d (tw d)).length := by
      unfold allocAns at h
      rw [hu, Int.toNat_natCast] at h
      simp only [if_true] at h
      split at h
      · cases h
      · rename_i hl; rw [frL_map, List.length_map] at hl; omega
    obtain ⟨i0, hi0, hLS, hmin⟩ := frI_head hl
    obtain ⟨hi1, hi2⟩ := frI_mem.1 hi0
    rw [hfa n F hu, hal n F hu hl, hLS]
    have hused : ∀ F' : Nat → ByteArray, (∀ q, freeB (n + 1) F' q = (freeB n F q && !confB q (digS i0 d))) → (∀ j, j < n + 1 → pathB (F' j) = true) → usedB (n + 1) F' (d : Int) = true := fun F' _ hq =>
      (usedB_iff _ _ _).2 ⟨by omega, ⟨d0, d1⟩, by unfold allPath; rw [List.all_eq_true]; exact fun i hi => hq i (List.mem_range.1 hi)⟩
    refine ⟨by omega, by rw [digS_size], (free_iff _ _ _).1 hi2, fun F' hF hl' => ?_, fun F' hl' hF => ?_⟩
    · have hb := freeB_snoc hF hl'
      have hm := hused F' hb (fun j hj => by
        by_cases e : j < n
        · rw [hF j e]; exact allPath_at hp j e
        · obtain rfl : j = n := by omega
          rw [hl']; exact digS_path i0 d hd)
      rw [hfa (n + 1) F' hm]
      have := al_less hd hi1 hi2 hb
      omega
    · have hb := freeB_cons hl' hF
      have hm := hused F' hb (fun j hj => by
        cases j with
        | zero => rw [hl']; exact digS_path i0 d hd
        | succ j => rw [hF j (by omega)]; exact allPath_at hp j (by omega))
      have hc := al_less hd hi1 hi2 hb
      by_cases e1 : (frI n F d (tw d)).length = 1
      · left; omega
      · right
        have hl2 : 0 < (frI (n + 1) F' d (tw d)).length := by omega
        rw [hal (n + 1) F' hm hl2]
        obtain ⟨i1, hi3, hLS1, -⟩ := frI_head hl2
        rw [hLS1]
        obtain ⟨h5, h6⟩ := frI_mem.1 hi3
        rw [hb, Bool.and_eq_true, Bool.not_eq_true', conf_same hd h5 hi1, decide_eq_false_iff_not] at h6
        have := hmin i1 (frI_mem.2 ⟨h5, h6.1⟩)
        have t64 : tw d ≤ 64 := by
          have : (2 : Nat) ^ d ≤ 2 ^ 6 := Nat.pow_le_pow_right (by omega) hd
          simpa [tw] using this
        exact dig_less d (by omega) i0 (by omega) i1 (by omega) (by omega) h5
end Go.Proofs.Ytgkiilpcobgboaa
