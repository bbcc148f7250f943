/- Who is known in a cell; what is asked of a new station: the mathematics of FnAdmitFull. -/
import Derived.Test.YtjnipbopimpggabCelAdm
namespace Go.Proofs.Ytjnipbopimpggab
open Go.RowKit
set_option linter.unusedVariables false
/-- Has one of the first n stations the name? -/
def knN (f : Nat → Usr) (z : ByteArray) : Nat → Bool
  | 0 => false
  | k + 1 => knN f z k || ((f k).code.toList == z.toList)
theorem knN_false (f : Nat → Usr) (z : ByteArray) : ∀ n, knN f z n = false ↔ ∀ i, i < n → ((f i).code.toList == z.toList) = false
  | 0 => by simp [knN]
  | n + 1 => by
    simp only [knN, Bool.or_eq_false_iff]
    rw [knN_false f z n]
    constructor
    · rintro ⟨h1, h2⟩ i hi
      by_cases e : i = n
      · rw [e]; exact h2
      · exact h1 i (by omega)
    · intro h
      exact ⟨fun i hi => h i (by omega), h n (by omega)⟩
theorem ix_neg (f : Nat → Usr) (z : ByteArray) : ∀ d k, ixI f z k d < 0 ↔ ∀ i, k ≤ i → i < k + d → ((f i).code.toList == z.toList) = false
  | 0, k => by
    constructor
    · intro _ i h1 h2; omega
    · intro _; show (-1 : Int) < 0; decide
  | d + 1, k => by
    cases hq : ((f k).code.toList == z.toList) with
    | true =>
      rw [ix_hit hq (by omega)]
      constructor
      · intro h; omega
      · intro h; have := h k (by omega) (by omega); rw [hq] at this; cases this
    | false =>
      rw [ix_step hq, ix_neg f z d (k + 1)]
      constructor
      · intro h i h1 h2
        by_cases e : i = k
        · rw [e]; exact hq
        · exact h i (by omega) (by omega)
      · intro h i h1 h2; exact h i (by omega) (by omega)
theorem ixN_known (n : Nat) (f : Nat → Usr) (z : ByteArray) : decide (ixN n f z < 0) = !(knN f z n) := by
  rw [Bool.eq_iff_iff, decide_eq_true_eq]
  unfold ixN
  rw [ix_neg, Bool.not_eq_true', knN_false]
  constructor
  · intro h i hi; exact h i (by omega) (by omega)
  · intro h i _ hi; exact h i (by omega)
def aloneU (z : ByteArray) (_ : Nat) : Usr := ⟨z, ⟨#[48]⟩, 0, 1⟩
theorem alone_cell (z : ByteArray) : cellB 1 (aloneU z) = nameB z := by
  have h1 : pathB ⟨#[48]⟩ = true := by decide
  unfold cellB
  simp only [celN, freeN, aloneU, Usr.stn, stnB, stnG]
  rw [h1]
  simp
theorem free_alloc (n : Nat) (F : Nat → ByteArray) (D : Int) : (allocAns n F D).2 = decide (0 < freeAns n F D) := by
  unfold allocAns freeAns
  cases h : usedB n F D with
  | false => simp [noS]
  | true =>
    simp only [if_true]
    obtain ⟨l, hl⟩ : ∃ l, (frL n F D.toNat (tw D.toNat)).length = l := ⟨_, rfl⟩
    rw [hl]
    by_cases e : l = 0
    · subst e; simp [noS]
    · rw [if_neg e]; simp; omega
theorem ad_good {n : Nat} {f : Nat → Usr} {z : ByteArray} {D L : Int} (h : cellB n f = true) :
    adB n f z D L = (nameB z && (!(knN f z n) && (decide (n < 8) && (decide (1 ≤ L) && (decide (L ≤ 20) && decide (0 < freeAns n (pthF f) D)))))) := by
  unfold adB adP adA losB
  rw [h, ixN_known, free_alloc]
  cases nameB z <;> cases knN f z n <;> cases decide (n < 8) <;> cases decide (1 ≤ L) <;> cases decide (L ≤ 20) <;> rfl
end Go.Proofs.Ytjnipbopimpggab
