/- How many copies are needed: what is known of the copies of one data. -/
import Derived.Test.YtpacaelnmpdnhaaDoorCmbMath
import Derived.Test.YtpacaelnmpdnhaaDoorNed
namespace Go.Proofs.YtpacaelnmpdnhaaDoor
open Go.RowKit
set_option linter.unusedVariables false
theorem shift_place (i S n : Nat) (h : 0 < n) : (i % n + S % n) % n = (S + i) % n := by
  rw [← Nat.add_mod, Nat.add_comm]
/-- Copy k of the data is the data sent over the hops behind it. -/
theorem cop_shift (z : ByteArray) (n : Nat) (h : Nat → Int) (m : Nat) (j : Nat → Int) (k : Nat) (hn : 0 < n) : cpS z n (shF n h ((k * z.size : Nat) : Int)) m j 0 = copG z n h m j k := by
  unfold copG cpS
  refine strF_congr fun i hi => ?_
  unfold cpF shF
  rw [modN_of_nat, Nat.zero_add, shift_place _ _ _ hn]
theorem someB_shift {n : Nat} {h : Nat → Int} (k : Int) (hs : someB n h = true) : someB n (shF n h k) = true := by
  obtain ⟨h1, h2, h3⟩ := (someB_iff n h).1 hs
  exact (someB_iff n _).2 ⟨h1, h2, fun i _ => h3 _ (Nat.mod_lt _ h1)⟩
theorem zb_copG {z : ByteArray} {n : Nat} {h : Nat → Int} {m : Nat} {j : Nat → Int} {k i : Nat} (hi : i < z.size) : zb (copG z n h m j k) i = 63 ∨ zb (copG z n h m j k) i = zb z i := by
  have e : zb (copG z n h m j k) i = cpF z n h m j (k * z.size) i := zb_strF hi (cpF_lt _ _ _ _ _ _ _)
  rw [e]; unfold cpF; split <;> simp
/-- Copies of one data never contradict each other. -/
theorem cop_cmb {z : ByteArray} {n : Nat} {h : Nat → Int} {m : Nat} {j : Nat → Int} (hb : bitsB z = true) {k : Nat} (h1 : 1 ≤ k) (h16 : k ≤ 16) : CmbP (copG z n h m j) k := by
  have ho : okB z z.size = true := by unfold bitsB at hb; simp only [Bool.and_eq_true] at hb; exact hb.1
  have h6 := bits_600 hb
  refine cmb_of_pairs ⟨⟨h1, h16⟩, fun l _ => ⟨(cpyB_iff _).2 ⟨fun i hi => ?_, by rw [copG_size]; exact h6⟩, by rw [copG_size, copG_size]⟩⟩ fun i hi a b _ _ => ?_
  · rw [copG_size] at hi
    have := okB_zb z ho i hi
    rcases zb_copG (n := n) (h := h) (m := m) (j := j) (k := l) hi with e | e <;> omega
  · rw [copG_size] at hi
    rcases zb_copG (n := n) (h := h) (m := m) (j := j) (k := a) hi with e | e
    · exact .inl e
    · rcases zb_copG (n := n) (h := h) (m := m) (j := j) (k := b) hi with e2 | e2
      · exact .inr (.inl e2)
      · exact .inr (.inr (by rw [e, e2]))
theorem lost_more {f : Nat → ByteArray} {k : Nat} (h1 : CmbP f k) (h2 : CmbP f (k + 1)) (h : lostA (cmbAns f k).1 = 0) : lostA (cmbAns f (k + 1)).1 = 0 := by
  have hk := h1.1.1.1
  rw [cmb_yes h1] at h
  rw [cmb_yes h2]
  show lostA (cmbS f (k + 1)) = 0
  have h' : lostA (cmbS f k) = 0 := h
  unfold lostA at h' ⊢
  rw [cmbS_cpy h1, cmbS_size] at h'
  rw [cmbS_cpy h2, cmbS_size]
  have := lstN_mono (a := cmbS f (k + 1)) (b := cmbS f k) (f 0).size fun i hi e => by
    rw [zb_cmbS hi] at e ⊢
    by_cases hv : cmbV f i (k - 1) = 63
    · exact hv
    · have := cmbV_stay hv 1
      rw [show k - 1 + 1 = k + 1 - 1 by omega, e] at this
      exact absurd this.symm hv
  simp only [if_true] at h' ⊢
  omega
theorem ndK_spec (g : Nat → ByteArray) : ∀ f k, (ndK g f k = -1 ∧ ∀ i, k ≤ i → i < k + f → ¬ lostA (cmbAns g i).1 = 0) ∨ (∃ d, d < f ∧ ndK g f k = ((k + d : Nat) : Int) ∧ lostA (cmbAns g (k + d)).1 = 0 ∧ ∀ i, k ≤ i → i < k + d → ¬ lostA (cmbAns g i).1 = 0)
  | 0, k => .inl ⟨rfl, fun i h1 h2 => by omega⟩
  | f + 1, k => by
    by_cases h : lostA (cmbAns g k).1 = 0
    · exact .inr ⟨0, by omega, by rw [ndK_yes h]; rfl, h, fun i h1 h2 => by omega⟩
    · rw [ndK_no h]
      rcases ndK_spec g f (k + 1) with ⟨h1, h2⟩ | ⟨d, h1, h2, h3, h4⟩
      · refine .inl ⟨h1, fun i i1 i2 => ?_⟩
        by_cases e : i = k
        · subst e; exact h
        · exact h2 i (by omega) (by omega)
      · refine .inr ⟨d + 1, by omega, by rw [h2]; congr 1; omega, by rw [show k + (d + 1) = k + 1 + d by omega]; exact h3, fun i i1 i2 => ?_⟩
        by_cases e : i = k
        · subst e; exact h
        · exact h4 i (by omega) (by omega)
/-- As many copies as are needed, and more, tell all bits together, and fewer do not. -/
theorem ned_iff {z : ByteArray} {n : Nat} {h : Nat → Int} {m : Nat} {j : Nat → Int} {M : Nat} (hB : sndB z n h m j = true) (h1 : 1 ≤ M) (h16 : M ≤ 16) {k : Nat} (hk : k < M) :
    lostA (cmbAns (copG z n h m j) (k + 1)).1 = 0 ↔ (0 < nedA z n h m j M ∧ nedA z n h m j M ≤ (k : Int) + 1) := by
  have hb := ((sndB_iff z n h m j).1 hB).1
  rw [ned_yes hB h1 h16]
  rcases ndK_spec (copG z n h m j) M 1 with ⟨e, hno⟩ | ⟨d, hd, e, hy, hno⟩
  · rw [e]
    constructor
    · intro h2; exact absurd h2 (hno (k + 1) (by omega) (by omega))
    · rintro ⟨h2, _⟩; omega
  · rw [e]
    constructor
    · intro h2
      refine ⟨by omega, ?_⟩
      rcases Nat.lt_or_ge k d with h3 | h3
      · exact absurd h2 (hno (k + 1) (by omega) (by omega))
      · omega
    · rintro ⟨_, h2⟩
      obtain ⟨c, rfl⟩ : ∃ c, k = d + c := ⟨k - d, by omega⟩
      clear h2 e hno
      induction c with
      | zero => rw [Nat.add_zero, Nat.add_comm]; exact hy
      | succ c ih =>
        have := ih (by omega)
        exact lost_more (cop_cmb hb (by omega) (by omega)) (cop_cmb hb (by omega) (by omega)) this
end Go.Proofs.YtpacaelnmpdnhaaDoor
