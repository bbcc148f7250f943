/- A text has an index exactly if it is a Walsh code. -/
import Derived.Test.YtgfehabpoebaoaaWalMath
namespace Go.Proofs.Ytgfehabpoebaoaa
open Go.RowKit
set_option linter.unusedVariables false
set_option maxRecDepth 100000
/-- Whether one of the first codes of an order is the text. -/
def hitW (z : ByteArray) (o : Nat) (b : Bool) : Nat → Bool
  | 0 => b
  | n + 1 => hitW z o b n || decide (walshB (tw o) n = z)
/-- Whether a code of one of the first orders is the text. -/
def allW (z : ByteArray) : Nat → Bool
  | 0 => false
  | o + 1 => hitW z o (allW z o) (tw o)
theorem hitW_iff (z : ByteArray) (o : Nat) (b : Bool) : ∀ n, hitW z o b n = true ↔ b = true ∨ ∃ k, k < n ∧ walshB (tw o) k = z
  | 0 => by simp [hitW]
  | n + 1 => by
    unfold hitW
    rw [Bool.or_eq_true, hitW_iff z o b n, decide_eq_true_eq]
    constructor
    · rintro ((h | ⟨k, hk, e⟩) | h)
      · exact .inl h
      · exact .inr ⟨k, by omega, e⟩
      · exact .inr ⟨n, by omega, h⟩
    · rintro (h | ⟨k, hk, e⟩)
      · exact .inl (.inl h)
      · by_cases h : k = n
        · subst h; exact .inr e
        · exact .inl (.inr ⟨k, by omega, e⟩)
theorem allW_iff (z : ByteArray) : ∀ n, allW z n = true ↔ ∃ o, o < n ∧ ∃ k, k < tw o ∧ walshB (tw o) k = z
  | 0 => by simp [allW]
  | n + 1 => by
    unfold allW
    rw [hitW_iff, allW_iff z n]
    constructor
    · rintro (⟨o, ho, h⟩ | h)
      · exact ⟨o, by omega, h⟩
      · exact ⟨n, by omega, h⟩
    · rintro ⟨o, ho, h⟩
      by_cases e : o = n
      · subst e; exact .inr h
      · exact .inl ⟨o, by omega, h⟩
theorem firstN_at {p : Nat → Bool} : ∀ {n : Nat}, firstN p n < n → p (firstN p n) = true
  | 0, h => by omega
  | n + 1, h => Classical.byContradiction fun hc => by
    have hb := firstN_le p n
    by_cases e : firstN p n = n
    · by_cases hp : p n = true
      · have := firstN_hit e hp (n + 1) (by omega)
        rw [this] at hc; exact hc hp
      · have := firstN_step e (by simpa using hp)
        omega
    · have hp := firstN_at (p := p) (n := n) (by omega)
      have e2 : firstN p (n + 1) = firstN p n := by simp only [firstN]; rw [if_pos (by omega)]
      rw [e2] at hc; exact hc hp
theorem allW_idx (z : ByteArray) : allW z 7 = (idxAns z).2 ∧ ((idxAns z).2 = true → (idxAns z).1 < (z.size : Int)) := by
  by_cases h : isT z.size = true ∧ firstN (idxP z) z.size < z.size
  · have e : idxAns z = (((firstN (idxP z) z.size : Nat) : Int), true) := by unfold idxAns; rw [if_pos h]
    rw [e]
    refine ⟨?_, fun _ => by show ((firstN (idxP z) z.size : Nat) : Int) < _; omega⟩
    obtain ⟨o, ho, et⟩ := isT_tw h.1
    have hp := firstN_at h.2
    unfold idxP at hp
    have hp := of_decide_eq_true hp
    rw [← et] at hp
    exact (allW_iff z 7).2 ⟨o, by omega, _, by rw [et]; exact h.2, by rw [et] at hp ⊢; exact hp⟩
  · have e : idxAns z = noI := by unfold idxAns; rw [if_neg h]
    rw [e]
    refine ⟨?_, fun h => by cases h⟩
    show allW z 7 = false
    cases ha : allW z 7 with
    | false => rfl
    | true =>
      obtain ⟨o, ho, k, hk, ez⟩ := (allW_iff z 7).1 ha
      have hs : z.size = tw o := by rw [← ez, walshB_size]
      refine absurd ⟨by rw [hs]; exact tw_isT o (by omega), ?_⟩ h
      have hle := firstN_le (idxP z) z.size
      by_cases e2 : firstN (idxP z) z.size = z.size
      · have := firstN_none e2 k (by omega)
        unfold idxP at this
        rw [hs] at this
        exact absurd ez (of_decide_eq_false this)
      · omega
end Go.Proofs.Ytgfehabpoebaoaa
