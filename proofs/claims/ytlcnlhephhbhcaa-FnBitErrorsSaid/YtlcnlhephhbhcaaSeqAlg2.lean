/- Periods, first rotations and shifts between sequences, on plain numbers. -/
import Derived.Test.YtlcnlhephhbhcaaSeqAlg
import Derived.Test.YtlcnlhephhbhcaaSeqRot
namespace Go.Proofs.Ytlcnlhephhbhcaa
open Go.RowKit
set_option linter.unusedVariables false
theorem modN_zero (n : Nat) : modN 0 n = 0 := by unfold modN; simp
theorem shift_nil (z : ByteArray) : shift z 0 = z := shift_zero z 0 (modN_zero _)
theorem shift_per_add {z : ByteArray} {a b : Int} (ha : shift z a = z) (hb : shift z b = z) : shift z (a + b) = z := by rw [← shift_shift, ha, hb]
theorem per_mul (z : ByteArray) (n : Nat) (h : shift z (n : Int) = z) : ∀ q : Nat, shift z ((n * q : Nat) : Int) = z
  | 0 => shift_nil z
  | q + 1 => by
    rw [show ((n * (q + 1) : Nat) : Int) = ((n * q : Nat) : Int) + (n : Int) by rw [Nat.mul_succ]; omega]
    exact shift_per_add (per_mul z n h q) h
theorem per_iff (z : ByteArray) (h1 : 1 ≤ z.size) (k : Nat) : shift z (k : Int) = z ↔ k % leastP z = 0 := by
  have hb := leastP_bd z h1
  have hy := leastP_yes z h1
  have hn := leastP_no z
  obtain ⟨n, hN⟩ : ∃ n, leastP z = n := ⟨_, rfl⟩
  rw [hN] at hb hy hn ⊢
  have hk := Nat.div_add_mod k n
  have hl := Nat.mod_lt k (show 0 < n by omega)
  have hm := per_mul z n hy (k / n)
  constructor
  · intro h
    have e : shift z ((k % n : Nat) : Int) = z := by
      have : shift z ((n * (k / n) : Nat) + ((k % n : Nat) : Int)) = z := by rw [show ((n * (k / n) : Nat) : Int) + ((k % n : Nat) : Int) = (k : Int) by omega]; exact h
      rwa [← shift_shift, hm] at this
    rcases Nat.eq_zero_or_pos (k % n) with h0 | h0
    · exact h0
    · exact absurd e (hn _ h0 hl)
  · intro h
    rw [show k = n * (k / n) by omega]
    exact hm
theorem sumI_full (f : Nat → Int) (hf : ∀ i, f i = 1 ∨ f i = -1) : ∀ n : Nat, sumI f n = n ↔ ∀ i, i < n → f i = 1
  | 0 => by simp [sumI]
  | n + 1 => by
    have ih := sumI_full f hf n
    have hb := sumI_bd (f := f) (fun i => by rcases hf i with h | h <;> omega) n
    simp only [sumI]
    constructor
    · intro h i hi
      rcases hf n with e | e
      · by_cases hin : i = n
        · rw [hin]; exact e
        · exact ih.1 (by omega) i (by omega)
      · omega
    · intro h
      have h1 := ih.2 (fun i hi => h i (by omega))
      have h2 := h n (by omega)
      omega
theorem agr_eq (a b : Nat) : agr a b = 1 ↔ a = b := by unfold agr; by_cases h : a = b <;> simp [h]
theorem cross_full (a b : ByteArray) (k : Nat) : crossN a b k = a.size ↔ ∀ i, i < a.size → zb a i = shB b k i := by
  unfold crossN
  rw [sumI_full _ (fun i => agr_one _ _)]
  exact ⟨fun h i hi => (agr_eq _ _).1 (h i hi), fun h i hi => (agr_eq _ _).2 (h i hi)⟩
theorem auto_full (z : ByteArray) (k : Int) : crossN z z (modN k z.size) = z.size ↔ shift z k = z := by
  rw [cross_full]
  constructor
  · intro h
    exact (strF_of z _ _ rfl h).symm
  · intro h i hi
    have := zb_shift z k i hi
    rw [h] at this
    exact this
/-- The order of strings. -/
theorem bl_nil (l : List UInt8) : Op.bytesLess l [] = false := by cases l <;> rfl
theorem bl_cons (a b : UInt8) (x y : List UInt8) : Op.bytesLess (a :: x) (b :: y) = true ↔ a.toNat < b.toNat ∨ (a.toNat = b.toNat ∧ Op.bytesLess x y = true) := by
  simp only [Op.bytesLess, Bool.or_eq_true, Bool.and_eq_true, decide_eq_true_eq, beq_iff_eq, UInt8.lt_iff_toNat_lt]
  rw [← UInt8.toNat_inj]
theorem bl_irrefl : ∀ l, Op.bytesLess l l = false
  | [] => rfl
  | a :: l => by
    cases h : Op.bytesLess (a :: l) (a :: l) with
    | false => rfl
    | true =>
      rcases (bl_cons a a l l).1 h with e | ⟨_, e⟩
      · omega
      · rw [bl_irrefl l] at e; cases e
theorem bl_trans : ∀ x y z, Op.bytesLess x y = true → Op.bytesLess y z = true → Op.bytesLess x z = true
  | x, [], _, h, _ => by rw [bl_nil] at h; cases h
  | _, b :: y, [], _, h => by rw [bl_nil] at h; cases h
  | [], b :: y, c :: z, _, _ => rfl
  | a :: x, b :: y, c :: z, h1, h2 => by
    rw [bl_cons] at h1 h2 ⊢
    rcases h1 with h1 | ⟨h1, k1⟩ <;> rcases h2 with h2 | ⟨h2, k2⟩
    · left; omega
    · left; omega
    · left; omega
    · right; exact ⟨by omega, bl_trans x y z k1 k2⟩
theorem bl_tri : ∀ x y, Op.bytesLess x y = true ∨ x = y ∨ Op.bytesLess y x = true
  | [], [] => .inr (.inl rfl)
  | [], b :: y => .inl rfl
  | a :: x, [] => .inr (.inr rfl)
  | a :: x, b :: y => by
    rw [bl_cons, bl_cons]
    rcases Nat.lt_trichotomy a.toNat b.toNat with h | h | h
    · exact .inl (.inl h)
    · have e : a = b := UInt8.toNat_inj.1 h
      subst e
      rcases bl_tri x y with k | k | k
      · exact .inl (.inr ⟨rfl, k⟩)
      · exact .inr (.inl (by rw [k]))
      · exact .inr (.inr (.inr ⟨rfl, k⟩))
    · exact .inr (.inr (.inl h))
def strLt (x y : ByteArray) : Bool := Op.bytesLess x.toList y.toList
theorem toList_inj {x y : ByteArray} (h : x.toList = y.toList) : x = y := by
  by_cases e : x = y
  · exact e
  · have := str_ne e; rw [h] at this; simp at this
theorem lt_irrefl' (x : ByteArray) : strLt x x = false := bl_irrefl _
theorem lt_trans' {x y z : ByteArray} (h1 : strLt x y = true) (h2 : strLt y z = true) : strLt x z = true := bl_trans _ _ _ h1 h2
theorem lt_tri' (x y : ByteArray) : strLt x y = true ∨ x = y ∨ strLt y x = true := by
  rcases bl_tri x.toList y.toList with h | h | h
  · exact .inl h
  · exact .inr (.inl (toList_inj h))
  · exact .inr (.inr h)
/-- x is not behind y: 'strLt y x = false'. -/
theorem le_trans' {x y z : ByteArray} (h1 : strLt y x = false) (h2 : strLt z y = false) : strLt z x = false := by
  cases h : strLt z x with
  | false => rfl
  | true =>
    rcases lt_tri' y z with k | k | k
    · have := lt_trans' k h; rw [h1] at this; cases this
    · subst k; rw [h1] at h; cases h
    · rw [h2] at k; cases k
theorem le_anti' {x y : ByteArray} (h1 : strLt y x = false) (h2 : strLt x y = false) : x = y := by
  rcases lt_tri' x y with k | k | k
  · rw [h2] at k; cases k
  · exact k
  · rw [h1] at k; cases k
theorem minS_or (x y : ByteArray) : minS x y = x ∨ minS x y = y := by unfold minS; split <;> simp
theorem minS_left (x y : ByteArray) : strLt x (minS x y) = false := by
  unfold minS
  split
  · exact lt_irrefl' x
  · rename_i h
    simp only [Bool.or_eq_true, not_or, Bool.not_eq_true] at h
    exact h.1
theorem minS_right (x y : ByteArray) : strLt y (minS x y) = false := by
  unfold minS
  split
  · rename_i h
    simp only [Bool.or_eq_true] at h
    rcases h with h | h
    · cases k : strLt y x with
      | false => rfl
      | true => have := lt_trans' (show strLt x y = true from h) k; rw [lt_irrefl'] at this; cases this
    · have := toList_inj (eq_of_beq h); subst this; exact lt_irrefl' _
  · exact lt_irrefl' y
theorem rot_mem (z : ByteArray) : ∀ k, ∃ i, i ≤ k ∧ rotB z k = shift z ((i : Nat) : Int)
  | 0 => ⟨0, Nat.le_refl _, (shift_nil z).symm⟩
  | k + 1 => by
    obtain ⟨i, hi, h⟩ := rot_mem z k
    simp only [rotB]
    rcases minS_or (rotB z k) (shift z ((k + 1 : Nat) : Int)) with e | e
    · exact ⟨i, by omega, by rw [e]; exact h⟩
    · exact ⟨k + 1, Nat.le_refl _, e⟩
theorem rot_min (z : ByteArray) : ∀ k i, i ≤ k → strLt (shift z ((i : Nat) : Int)) (rotB z k) = false
  | 0, i, hi => by
    obtain rfl : i = 0 := by omega
    rw [show ((0 : Nat) : Int) = 0 from rfl, shift_nil]; exact lt_irrefl' z
  | k + 1, i, hi => by
    simp only [rotB]
    by_cases e : i = k + 1
    · subst e; exact minS_right _ _
    · exact le_trans' (minS_left _ _) (rot_min z k i (by omega))
theorem shift_nat (z : ByteArray) (k : Int) (h : 0 < z.size) : shift z k = shift z ((modN k z.size : Nat) : Int) :=
  shift_mod z _ _ (by rw [modN_of_nat, Nat.mod_eq_of_lt (modN_lt k _ h)])
/-- The first rotation. -/
def rotS (z : ByteArray) : ByteArray := rotB z (z.size - 1)
theorem rotS_all (z : ByteArray) (k : Int) (h : 0 < z.size) : strLt (shift z k) (rotS z) = false := by
  rw [shift_nat z k h]
  exact rot_min z _ _ (by have := modN_lt k z.size h; omega)
theorem rotS_mem (z : ByteArray) : ∃ i : Nat, i ≤ z.size - 1 ∧ rotS z = shift z (i : Int) := rot_mem z _
theorem rotS_size (z : ByteArray) : (rotS z).size = z.size := by obtain ⟨i, _, h⟩ := rotS_mem z; rw [h, shift_size]
theorem rotS_shift (z : ByteArray) (m : Int) (h : 0 < z.size) : rotS (shift z m) = rotS z := by
  obtain ⟨i, _, hi⟩ := rotS_mem (shift z m)
  obtain ⟨j, _, hj⟩ := rotS_mem z
  apply le_anti'
  · have := rotS_all (shift z m) (-m + (j : Int)) (by rw [shift_size]; exact h)
    rw [shift_shift, show m + (-m + (j : Int)) = (j : Int) by omega, ← hj] at this
    exact this
  · rw [hi, shift_shift]; exact rotS_all z _ h
theorem rotS_rotS (z : ByteArray) (h : 0 < z.size) : rotS (rotS z) = rotS z := by
  obtain ⟨i, _, hi⟩ := rotS_mem z
  have e := rotS_shift z (i : Int) h
  rwa [← hi] at e
/-- Shifts between sequences. -/
theorem shift_undo {a b : ByteArray} {k : Int} (h : shift a k = b) : shift b (-k) = a := by
  rw [← h, shift_shift, show k + -k = 0 by omega, shift_nil]
theorem between_lt (a b : ByteArray) (k : Int) (h0 : 0 < a.size) (h : shift a k = b) : betweenN a b < a.size := by
  have hm := modN_lt k a.size h0
  have := firstN_ex (fun k => decide (shift a ((k : Nat) : Int) = b)) a.size 0 (modN k a.size) (Nat.zero_le _) (by omega) (by rw [decide_eq_true]; rw [← shift_nat a k h0]; exact h)
  unfold betweenN; omega
theorem between_iff (a b : ByteArray) (h0 : 0 < a.size) (hs : a.size = b.size) : betweenN a b < a.size ↔ rotS a = rotS b := by
  constructor
  · intro h
    have e := betweenN_yes a b h
    have := rotS_shift a ((betweenN a b : Nat) : Int) h0
    rw [e] at this; exact this.symm
  · intro h
    obtain ⟨i, _, hi⟩ := rotS_mem a
    obtain ⟨j, _, hj⟩ := rotS_mem b
    have e : shift b (j : Int) = shift a (i : Int) := by rw [← hj, ← hi, h]
    have e2 := shift_undo e
    rw [shift_shift] at e2
    exact between_lt a b _ h0 e2
theorem leastP_shift (a : ByteArray) (k : Int) : leastP (shift a k) = leastP a := by
  have hp : (fun m : Nat => decide (shift (shift a k) (m : Int) = shift a k)) = fun m : Nat => decide (shift a (m : Int) = a) := by
    funext m
    rw [decide_eq_decide]
    constructor
    · intro h
      have e := shift_undo h
      have e2 : shift (shift (shift a k) (m : Int)) (-k) = shift (shift a k) (-k) := by rw [h]
      rw [shift_shift, shift_shift, shift_shift, show k + -k = 0 by omega, shift_nil, show k + ((m : Int) + -k) = (m : Int) by omega] at e2
      exact e2
    · intro h
      rw [shift_shift, Int.add_comm, ← shift_shift, h]
  unfold leastP
  rw [hp, shift_size]
theorem between_least (a b : ByteArray) (h0 : 0 < a.size) (h : betweenN a b < a.size) : betweenN a b < leastP a ∧ leastP b = leastP a := by
  have e := betweenN_yes a b h
  have hy := leastP_yes a h0
  have hb := leastP_bd a h0
  refine ⟨?_, ?_⟩
  · rcases Nat.lt_or_ge (betweenN a b) (leastP a) with h' | h'
    · exact h'
    · have e2 : shift a (((betweenN a b - leastP a : Nat)) : Int) = b := by
        have : shift (shift a ((leastP a : Nat) : Int)) ((betweenN a b - leastP a : Nat) : Int) = b := by
          rw [shift_shift, show ((leastP a : Nat) : Int) + ((betweenN a b - leastP a : Nat) : Int) = ((betweenN a b : Nat) : Int) by omega]; exact e
        rwa [hy] at this
      exact absurd e2 (betweenN_no a b _ (by omega))
  · have := leastP_shift a ((betweenN a b : Nat) : Int)
    rw [e] at this; exact this
/-- Products of balances. -/
theorem sumI_mul (c : Int) (f : Nat → Int) : ∀ n, sumI (fun i => c * f i) n = c * sumI f n
  | 0 => by simp [sumI]
  | n + 1 => by simp only [sumI]; rw [sumI_mul c f n, Int.mul_add]
theorem sumI_add (f g : Nat → Int) : ∀ n, sumI (fun i => f i + g i) n = sumI f n + sumI g n
  | 0 => by simp [sumI]
  | n + 1 => by simp only [sumI]; rw [sumI_add f g n]; omega
theorem sumI_swap (f : Nat → Nat → Int) (m : Nat) : ∀ n, sumI (fun k => sumI (fun i => f k i) m) n = sumI (fun i => sumI (fun k => f k i) n) m
  | 0 => by simp only [sumI]; exact (show sumI (fun _ => (0 : Int)) m = 0 from by induction m with | zero => rfl | succ m ih => simp only [sumI, ih]; rfl).symm
  | n + 1 => by simp only [sumI]; rw [sumI_swap f m n, ← sumI_add]
theorem agr_mul (x y : Nat) (hx : x = 48 ∨ x = 49) (hy : y = 48 ∨ y = 49) : agr x y = agr x 49 * agr y 49 := by rcases hx with rfl | rfl <;> rcases hy with rfl | rfl <;> rfl
theorem cross_sum (a b : ByteArray) (ha : okB a a.size = true) (hb : okB b b.size = true) (h : a.size = b.size) (h0 : 0 < a.size) : sumI (fun k => crossN a b k) a.size = balN a * balN b := by
  unfold crossN
  rw [sumI_swap]
  have e : ∀ i, i < a.size → sumI (fun k => agr (zb a i) (shB b k i)) a.size = balN b * agr (zb a i) 49 := by
    intro i hi
    have e1 : sumI (fun k => agr (zb a i) (shB b k i)) a.size = sumI (fun k => (fun j => agr (zb a i) (zb b j)) ((i + k) % a.size)) a.size := sumI_congr _ fun k hk => by
      show agr (zb a i) (zb b ((k + i) % b.size)) = agr (zb a i) (zb b ((i + k) % a.size))
      rw [Nat.add_comm k i, h]
    refine (e1.trans (sumI_rot (fun j => agr (zb a i) (zb b j)) i a.size hi)).trans ?_
    have e2 : sumI (fun j => agr (zb a i) (zb b j)) a.size = sumI (fun j => agr (zb a i) 49 * agr (zb b j) 49) a.size := sumI_congr _ fun j hj => agr_mul _ _ (okB_zb a ha i hi) (okB_zb b hb j (by omega))
    rw [e2, sumI_mul, Int.mul_comm]
    unfold balN
    rw [h]
  rw [sumI_congr _ e, sumI_mul, Int.mul_comm]
  rfl
end Go.Proofs.Ytlcnlhephhbhcaa
