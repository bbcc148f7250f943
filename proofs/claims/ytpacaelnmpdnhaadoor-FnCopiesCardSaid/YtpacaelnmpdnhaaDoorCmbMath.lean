/- Copies combined: in whichever order, and as often as one likes. -/
import Derived.Test.YtpacaelnmpdnhaaDoorCmbS
namespace Go.Proofs.YtpacaelnmpdnhaaDoor
open Go.RowKit
set_option linter.unusedVariables false
/-- Two letters that do not contradict each other. -/
def okP (a b : Nat) : Prop := a = 63 ∨ b = 63 ∨ a = b
theorem cmbV_stay {f : Nat → ByteArray} {i k : Nat} (h : cmbV f i k ≠ 63) : ∀ d, cmbV f i (k + d) = cmbV f i k
  | 0 => rfl
  | d + 1 => by
    show (if cmbV f i (k + d) = 63 then _ else cmbV f i (k + d)) = _
    rw [cmbV_stay h d, if_neg h]
/-- What is told comes of some copy. -/
theorem cmbV_from (f : Nat → ByteArray) (i : Nat) : ∀ k, cmbV f i k = 63 ∨ ∃ l, l ≤ k ∧ zb (f l) i = cmbV f i k
  | 0 => .inr ⟨0, Nat.le_refl _, rfl⟩
  | k + 1 => by
    simp only [cmbV]
    split
    · exact .inr ⟨k + 1, Nat.le_refl _, rfl⟩
    · rcases cmbV_from f i k with h | ⟨l, h1, h2⟩
      · exact .inl h
      · exact .inr ⟨l, by omega, h2⟩
/-- Each copy's letter is lost, or what is told. -/
theorem cmb_agree {f : Nat → ByteArray} {n i : Nat} (h : CmbP f n) (hi : i < (f 0).size) {k : Nat} (hk : k < n) : zb (f k) i = 63 ∨ zb (f k) i = cmbV f i (n - 1) := by
  by_cases e : zb (f k) i = 63
  · exact .inl e
  · have h1 : cmbV f i k = zb (f k) i := by
      cases k with
      | zero => rfl
      | succ k =>
        simp only [cmbV]
        split
        · rfl
        · rename_i hv
          rcases h.2 k hk i hi with h2 | h2 | h2
          · exact absurd h2 hv
          · exact h2.symm
          · exact absurd h2 e
    obtain ⟨d, hd⟩ : ∃ d, n - 1 = k + d := ⟨n - 1 - k, by omega⟩
    rw [hd, cmbV_stay (by rw [h1]; exact e) d, h1]
    exact .inr rfl
theorem cmb_of_pairs {f : Nat → ByteArray} {n : Nat} (hc : CpsP f n) (h : ∀ i, i < (f 0).size → ∀ k l, k < n → l < n → okP (zb (f k) i) (zb (f l) i)) : CmbP f n := by
  refine ⟨hc, fun k hk i hi => ?_⟩
  rcases cmbV_from f i k with e | ⟨l, h1, h2⟩
  · exact .inl e
  · rw [← h2]
    rcases h i hi l (k + 1) (by omega) hk with e | e | e
    · exact .inl e
    · exact .inr (.inr e)
    · exact .inr (.inl e.symm)
/-- What is told is the letter that no copy contradicts and that some copy has. -/
theorem cmb_value {f : Nat → ByteArray} {n i V : Nat} (h : CmbP f n) (hi : i < (f 0).size) (h1 : ∀ k, k < n → zb (f k) i = 63 ∨ zb (f k) i = V) (h2 : V = 63 ∨ ∃ k, k < n ∧ zb (f k) i = V) : cmbV f i (n - 1) = V := by
  have hn := h.1.1.1
  rcases h2 with rfl | ⟨k, hk, e⟩
  · rcases cmbV_from f i (n - 1) with e | ⟨l, hl, e⟩
    · exact e
    · rw [← e]; rcases h1 l (by omega) with e2 | e2 <;> exact e2
  · by_cases hV : V = 63
    · subst hV
      rcases cmbV_from f i (n - 1) with e3 | ⟨l, hl, e3⟩
      · exact e3
      · rw [← e3]; rcases h1 l (by omega) with e2 | e2 <;> exact e2
    · rcases cmb_agree h hi hk with e2 | e2
      · exact absurd (e.symm.trans e2) hV
      · rw [← e2, e]
theorem cmbS_size (f : Nat → ByteArray) (n : Nat) : (cmbS f n).size = (f 0).size := strF_size _ _
theorem zb_cmbS {f : Nat → ByteArray} {n i : Nat} (hi : i < (f 0).size) : zb (cmbS f n) i = cmbV f i (n - 1) := zb_strF hi (cmbV_lt _ _ _)
/-- What is told is a copy, too. -/
theorem cmbS_cpy {f : Nat → ByteArray} {n : Nat} (h : CmbP f n) : cpyB (cmbS f n) = true := by
  obtain ⟨h0, h6⟩ := (cpyB_iff _).1 (h.1.2 0 h.1.1.1).1
  refine (cpyB_iff _).2 ⟨fun i hi => ?_, by rw [cmbS_size]; exact h6⟩
  rw [cmbS_size] at hi
  rw [zb_cmbS hi]
  rcases cmbV_from f i (n - 1) with e | ⟨l, hl, e⟩
  · exact .inr (.inr e)
  · have hl2 := h.1.2 l (by have := h.1.1.1; omega)
    rw [← e]
    exact ((cpyB_iff _).1 hl2.1).1 i (by rw [hl2.2]; exact hi)
theorem lstN_mono {a b : ByteArray} : ∀ k, (∀ i, i < k → zb a i = 63 → zb b i = 63) → lstN a k ≤ lstN b k
  | 0, _ => Nat.le_refl _
  | k + 1, h => by
    have h1 := lstN_mono k fun i hi => h i (by omega)
    have h2 := h k (by omega)
    simp only [lstN]
    by_cases e : zb a k = 63
    · rw [if_pos e, if_pos (h2 e)]; omega
    · rw [if_neg e]; omega
/-- No copy has fewer lost bits. -/
theorem cmb_lost {f : Nat → ByteArray} {n k : Nat} (h : CmbP f n) (hk : k < n) : lostA (cmbS f n) ≤ lostA (f k) := by
  have hs := (h.1.2 k hk).2
  unfold lostA
  rw [cmbS_cpy h, (h.1.2 k hk).1, cmbS_size, hs]
  have := lstN_mono (a := cmbS f n) (b := f k) (f 0).size fun i hi e => by
    rw [zb_cmbS hi] at e
    rcases cmb_agree h hi hk with e2 | e2
    · exact e2
    · rw [e2, e]
  simp only [if_true]
  omega
theorem cmb_pairs {f : Nat → ByteArray} {n : Nat} (h : CmbP f n) : ∀ i, i < (f 0).size → ∀ k l, k < n → l < n → okP (zb (f k) i) (zb (f l) i) := fun i hi k l hk hl => by
  rcases cmb_agree h hi hk with e | e
  · exact .inl e
  · rcases cmb_agree h hi hl with e2 | e2
    · exact .inr (.inl e2)
    · exact .inr (.inr (by rw [e, e2]))
/-- In reverse order. -/
theorem cmb_turned {f r : Nat → ByteArray} {n : Nat} (h : CmbP f n) (hr : ∀ j, j < n → r j = f (n - 1 - j)) : cmbAns r n = (cmbS f n, true) := by
  have hn := h.1.1
  have h0 : r 0 = f (n - 1) := hr 0 (by omega)
  have hs0 : (r 0).size = (f 0).size := by rw [h0]; exact (h.1.2 (n - 1) (by omega)).2
  have hcp : CpsP r n := ⟨hn, fun k hk => by rw [hr k hk, hs0]; exact h.1.2 (n - 1 - k) (by omega)⟩
  have hp : CmbP r n := cmb_of_pairs hcp fun i hi k l hk hl => by
    rw [hr k hk, hr l hl]; exact cmb_pairs h i (by rw [← hs0]; exact hi) _ _ (by omega) (by omega)
  rw [cmb_yes hp]
  congr 1
  refine ba_ext (by rw [cmbS_size, cmbS_size, hs0]) fun i hi => ?_
  rw [cmbS_size] at hi
  have hi2 : i < (f 0).size := by rw [← hs0]; exact hi
  rw [zb_cmbS hi, zb_cmbS hi2]
  refine cmb_value hp hi (fun k hk => ?_) ?_
  · rw [hr k hk]; exact cmb_agree h hi2 (by omega)
  · rcases cmbV_from f i (n - 1) with e | ⟨l, hl, e⟩
    · exact .inl e
    · exact .inr ⟨n - 1 - l, by omega, by rw [hr _ (by omega), show n - 1 - (n - 1 - l) = l by omega]; exact e⟩
/-- What is told, and one of the copies. -/
theorem cmb_again {f r : Nat → ByteArray} {n : Nat} (h : CmbP f n) (h0 : r 0 = cmbS f n) (h1 : r 1 = f 0) : cmbAns r 2 = (cmbS f n, true) := by
  have hn := h.1.1
  have hs0 : (r 0).size = (f 0).size := by rw [h0, cmbS_size]
  have hcp : CpsP r 2 := ⟨by omega, fun k hk => by
    have : k = 0 ∨ k = 1 := by omega
    rcases this with rfl | rfl
    · exact ⟨by rw [h0]; exact cmbS_cpy h, rfl⟩
    · exact ⟨by rw [h1]; exact (h.1.2 0 (by omega)).1, by rw [h1, hs0]⟩⟩
  have hv : ∀ i, i < (f 0).size → ∀ k, k < 2 → zb (r k) i = 63 ∨ zb (r k) i = cmbV f i (n - 1) := fun i hi k hk => by
    have : k = 0 ∨ k = 1 := by omega
    rcases this with rfl | rfl
    · right; rw [h0, zb_cmbS hi]
    · rw [h1]; exact cmb_agree h hi (by omega)
  have hp : CmbP r 2 := cmb_of_pairs hcp fun i hi k l hk hl => by
    rw [hs0] at hi
    rcases hv i hi k hk with e | e
    · exact .inl e
    · rcases hv i hi l hl with e2 | e2
      · exact .inr (.inl e2)
      · exact .inr (.inr (by rw [e, e2]))
  rw [cmb_yes hp]
  congr 1
  refine ba_ext (by rw [cmbS_size, cmbS_size, hs0]) fun i hi => ?_
  rw [cmbS_size] at hi
  have hi2 : i < (f 0).size := by rw [← hs0]; exact hi
  rw [zb_cmbS hi, zb_cmbS hi2]
  exact cmb_value hp hi (hv i hi2) (.inr ⟨0, by omega, by rw [h0, zb_cmbS hi2]⟩)
end Go.Proofs.YtpacaelnmpdnhaaDoor
