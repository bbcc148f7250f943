/- The algebra of sequences: shifts, sums, factors and correlations on plain numbers. -/
import Derived.Test.YtlcnlhephhbhcaaSeqFun3
import Derived.Test.YtlcnlhephhbhcaaSeqAper
import Derived.Test.YtlcnlhephhbhcaaSeqRev
import Derived.Test.YtlcnlhephhbhcaaSeqFind
import Derived.Test.YtlcnlhephhbhcaaSeqFun2
namespace Go.Proofs.Ytlcnlhephhbhcaa
open Go.RowKit
set_option linter.unusedVariables false
theorem modN_add (a b : Int) (n : Nat) (h : 0 < n) : modN (a + b) n = (modN a n + modN b n) % n := by
  have e : ((modN (a + b) n : Nat) : Int) = (((modN a n + modN b n) % n : Nat) : Int) := by
    rw [modN_eq _ _ h, Int.natCast_emod, Int.natCast_add, modN_eq _ _ h, modN_eq _ _ h, ← Int.add_emod]
  exact Int.ofNat.inj e
theorem modN_idx (a b : Int) (i n : Nat) (h : 0 < n) : (modN a n + (modN b n + i) % n) % n = (modN (a + b) n + i) % n := by
  rw [modN_add a b n h, Nat.add_mod_mod, Nat.mod_add_mod, Nat.add_assoc]
theorem shift_shift (z : ByteArray) (a b : Int) : shift (shift z a) b = shift z (a + b) := by
  apply ba_ext (by rw [shift_size, shift_size, shift_size])
  intro i hi
  rw [shift_size, shift_size] at hi
  have hn : 0 < z.size := by omega
  rw [zb_shift _ _ _ (by rw [shift_size]; exact hi), shift_size, zb_shift _ _ _ (Nat.mod_lt _ hn), zb_shift _ _ _ hi, modN_idx a b i z.size hn]
theorem shift_mod (z : ByteArray) (a b : Int) (h : modN a z.size = modN b z.size) : shift z a = shift z b := by unfold shift; rw [h]
theorem modN_tmod (k : Int) (n : Nat) (h : 0 < n) : modN (k.tmod n) n = modN k n := by
  have hl := modN_lt k n h
  by_cases h0 : 0 ≤ k.tmod n
  · rw [tmod_pos k n h h0, modN_of_nat, Nat.mod_eq_of_lt hl]
  · have e : k.tmod n = (modN k n : Nat) + (-(n : Int)) := by have := tmod_neg k n h (by omega); omega
    have e2 : modN (-(n : Int)) n = 0 := by unfold modN; rw [Int.neg_emod_self]; rfl
    rw [e, modN_add _ _ _ h, modN_of_nat, e2, Nat.mod_eq_of_lt hl, Nat.add_zero, Nat.mod_eq_of_lt hl]
theorem shift_tmod (z : ByteArray) (k m : Int) (h : 0 < z.size) : shift z (k.tmod z.size + m) = shift (shift z k) m := by
  rw [shift_shift]
  exact shift_mod _ _ _ (by rw [modN_add _ _ _ h, modN_add _ _ _ h, modN_tmod _ _ h])
theorem shift_back (z : ByteArray) (k : Int) (h : 0 < z.size) : shift (shift z k) (-(k.tmod z.size)) = z := by
  rw [shift_shift]
  apply shift_zero
  have e : k + -(k.tmod z.size) = (z.size : Int) * (k.tdiv z.size) := by have := Int.mul_tdiv_add_tmod k z.size; omega
  rw [e]
  unfold modN
  rw [Int.mul_emod_right]; rfl
/-- What the sum of bits is. -/
theorem addB_comm (x y : Nat) : addB x y = addB y x := by unfold addB; by_cases h : x = y <;> simp [h, eq_comm]
theorem addB_twice (x y : Nat) (hx : x = 48 ∨ x = 49) (hy : y = 48 ∨ y = 49) : addB (addB x y) y = x := by rcases hx with rfl | rfl <;> rcases hy with rfl | rfl <;> rfl
theorem addB_inv (x y : Nat) (hx : x = 48 ∨ x = 49) (hy : y = 48 ∨ y = 49) : addB (97 - x) y = 97 - addB x y := by rcases hx with rfl | rfl <;> rcases hy with rfl | rfl <;> rfl
theorem addS_back (a b : ByteArray) (ha : okB a a.size = true) (hb : okB b b.size = true) (h : a.size = b.size) : addS (addS a b) b = a := by
  apply ba_ext (by rw [addS_size, addS_size])
  intro i hi
  rw [addS_size, addS_size] at hi
  rw [zb_addS _ _ _ (by rw [addS_size]; exact hi), zb_addS _ _ _ hi, addB_twice _ _ (okB_zb a ha i hi) (okB_zb b hb i (by omega))]
theorem addS_comm (a b : ByteArray) (h : a.size = b.size) : addS b a = addS a b := by
  apply ba_ext (by rw [addS_size, addS_size, h])
  intro i hi
  rw [addS_size] at hi
  rw [zb_addS _ _ _ hi, zb_addS _ _ _ (by omega), addB_comm]
theorem addS_shift (a b : ByteArray) (k : Int) (h : a.size = b.size) : addS (shift a k) (shift b k) = shift (addS a b) k := by
  apply ba_ext (by rw [addS_size, shift_size, shift_size, addS_size])
  intro i hi
  rw [addS_size, shift_size] at hi
  have hm : (modN k a.size + i) % a.size < a.size := Nat.mod_lt _ (by omega)
  rw [zb_addS _ _ _ (by rw [shift_size]; exact hi), zb_shift _ _ _ hi, zb_shift _ _ _ (by omega), zb_shift _ _ _ (by rw [addS_size]; exact hi), addS_size, zb_addS _ _ _ hm, ← h]
theorem addS_invS (a b : ByteArray) (ha : okB a a.size = true) (hb : okB b b.size = true) (h : a.size = b.size) : addS (invS a) b = invS (addS a b) := by
  apply ba_ext (by rw [addS_size, invS_size, invS_size, addS_size])
  intro i hi
  rw [addS_size, invS_size] at hi
  rw [zb_addS _ _ _ (by rw [invS_size]; exact hi), zb_invS _ _ hi, zb_invS _ _ (by rw [addS_size]; exact hi), zb_addS _ _ _ hi, addB_inv _ _ (okB_zb a ha i hi) (okB_zb b hb i (by omega))]
theorem invS_ok (z : ByteArray) (h : okB z z.size = true) : okB (invS z) (invS z).size = true := okB_of_zb _ fun i hi => by
  rw [invS_size] at hi; rw [zb_invS z i hi]; rcases okB_zb z h i hi with e | e <;> rw [e] <;> simp
theorem seqB_mk {z : ByteArray} (h : okB z z.size = true) (h1 : 1 ≤ z.size) (h2 : z.size ≤ 255) : seqB z = true := (seqB_iff z).2 ⟨h, h1, h2⟩
theorem seqB_addS {a b : ByteArray} (h : seqB a = true) : seqB (addS a b) = true := by
  have := size_le h
  exact seqB_mk (addS_ok a b) (by rw [addS_size]; omega) (by rw [addS_size]; omega)
theorem seqB_shift {z : ByteArray} (k : Int) (h : seqB z = true) : seqB (shift z k) = true := by
  obtain ⟨h1, h2, h3⟩ := (seqB_iff z).1 h
  exact seqB_mk (shift_ok z k h1) (by rw [shift_size]; omega) (by rw [shift_size]; omega)
theorem seqB_invS {z : ByteArray} (h : seqB z = true) : seqB (invS z) = true := by
  obtain ⟨h1, h2, h3⟩ := (seqB_iff z).1 h
  exact seqB_mk (invS_ok z h1) (by rw [invS_size]; omega) (by rw [invS_size]; omega)
theorem pairB_mk {a b : ByteArray} (ha : seqB a = true) (hb : seqB b = true) (h : a.size = b.size) : pairB a b = true := (pairB_iff a b).2 ⟨ha, hb, h⟩
theorem shiftAns_yes {z : ByteArray} (k : Int) (h : seqB z = true) : shiftAns z k = (shift z k, true) := by unfold shiftAns; rw [h]; rfl
theorem addAns_yes {a b : ByteArray} (h : pairB a b = true) : addAns a b = (addS a b, true) := by unfold addAns; rw [h]; rfl
theorem invAns_yes {z : ByteArray} (h : seqB z = true) : invAns z = (invS z, true) := by unfold invAns; rw [h]; rfl
theorem crossAns_yes {a b : ByteArray} (k : Int) (h : pairB a b = true) : crossAns a b k = (crossN a b (modN k b.size), true) := by unfold crossAns; rw [h]; rfl
theorem balAns_yes {z : ByteArray} (h : seqB z = true) : balAns z = (balN z, true) := by unfold balAns; rw [h]; rfl
/-- Factors. -/
theorem decS_decS (z : ByteArray) (k m : Nat) : decS (decS z k) m = decS z (k * m % z.size) := by
  apply ba_ext (by rw [decS_size, decS_size, decS_size])
  intro i hi
  rw [decS_size, decS_size] at hi
  have hn : 0 < z.size := by omega
  rw [zb_decS _ _ _ (by rw [decS_size]; exact hi), decS_size, zb_decS _ _ _ (Nat.mod_lt _ hn), zb_decS _ _ _ hi]
  congr 1
  rw [Nat.mul_mod_mod, Nat.mod_mul_mod, Nat.mul_assoc]
theorem decS_one (z : ByteArray) : decS z 1 = z := (strF_of z _ _ rfl fun i hi => by rw [Nat.one_mul, Nat.mod_eq_of_lt hi]).symm
theorem decS_ok (z : ByteArray) (k : Nat) (h : okB z z.size = true) : okB (decS z k) (decS z k).size = true := okB_of_zb _ fun i hi => by
  rw [decS_size] at hi; rw [zb_decS z k i hi]; exact okB_zb z h _ (Nat.mod_lt _ (by omega))
theorem seqB_decS {z : ByteArray} (k : Nat) (h : seqB z = true) : seqB (decS z k) = true := by
  obtain ⟨h1, h2, h3⟩ := (seqB_iff z).1 h
  exact seqB_mk (decS_ok z k h1) (by rw [decS_size]; omega) (by rw [decS_size]; omega)
/-- Sums over an index that goes around. -/
theorem sumI_split (f : Nat → Int) (a : Nat) : ∀ b, sumI f (a + b) = sumI f a + sumI (fun i => f (a + i)) b
  | 0 => by simp [sumI]
  | b + 1 => by rw [← Nat.add_assoc]; simp only [sumI]; rw [sumI_split f a b]; omega
theorem sumI_rot (f : Nat → Int) (c n : Nat) (hc : c < n) : sumI (fun i => f ((c + i) % n)) n = sumI f n := by
  obtain ⟨d, rfl⟩ : ∃ d, n = d + c := ⟨n - c, by omega⟩
  rw [sumI_split _ d c]
  rw [show d + c = c + d from Nat.add_comm _ _, sumI_split f c d, Int.add_comm]
  congr 1
  · refine sumI_congr _ fun i hi => ?_
    have : (c + (d + i)) % (c + d) = i := by rw [show c + (d + i) = i + (c + d) by omega, Nat.add_mod_right, Nat.mod_eq_of_lt (by omega)]
    rw [this]
  · exact sumI_congr _ fun i hi => by rw [Nat.mod_eq_of_lt (by omega)]
theorem sumI_rev (f : Nat → Int) : ∀ n, sumI (fun i => f (n - 1 - i)) n = sumI f n
  | 0 => rfl
  | n + 1 => by
    have e : sumI (fun i => f (n + 1 - 1 - i)) (n + 1) = sumI (fun i => f (n + 1 - 1 - i)) 1 + sumI (fun i => f (n + 1 - 1 - (1 + i))) n := by
      rw [show n + 1 = 1 + n by omega]; exact sumI_split _ 1 n
    rw [e]
    have e2 : sumI (fun i => f (n + 1 - 1 - (1 + i))) n = sumI (fun i => f (n - 1 - i)) n := sumI_congr _ fun i hi => by congr 1; omega
    rw [e2, sumI_rev f n]
    simp only [sumI, Nat.add_sub_cancel, Nat.sub_zero]
    omega
theorem agr_comm (a b : Nat) : agr a b = agr b a := by
  unfold agr
  by_cases h : a = b
  · rw [if_pos h, if_pos h.symm]
  · rw [if_neg h, if_neg (fun e => h e.symm)]
/-- The sum of ones and minus ones is as odd as their number. -/
theorem sumI_par (f : Nat → Int) (hf : ∀ i, f i = 1 ∨ f i = -1) : ∀ n : Nat, ∃ q : Int, sumI f n - n = 2 * q
  | 0 => ⟨0, by simp [sumI]⟩
  | n + 1 => by
    obtain ⟨q, hq⟩ := sumI_par f hf n
    simp only [sumI]
    rcases hf n with h | h
    · exact ⟨q, by omega⟩
    · exact ⟨q - 1, by omega⟩
theorem agr_one (a b : Nat) : agr a b = 1 ∨ agr a b = -1 := by unfold agr; split <;> simp
theorem crossN_par (a b : ByteArray) (k : Nat) : (crossN a b k - a.size).tmod 2 = 0 := by
  obtain ⟨q, hq⟩ := sumI_par (fun i => agr (zb a i) (shB b k i)) (fun i => agr_one _ _) a.size
  have : crossN a b k - a.size = 2 * q := hq
  rw [this]; exact Int.mul_tmod_right _ _
theorem crossN_bal (a b : ByteArray) (k : Int) (h : a.size = b.size) : crossN a b (modN k b.size) = - balN (addS a (shift b k)) := (cross_bal a b k h).symm
/-- A correlation of a sequence with itself, by its two parts. -/
theorem cross_aper (z : ByteArray) (k : Nat) (hk : k < z.size) : crossN z z k = aperN z k + (if 0 < k then aperN z (z.size - k) else 0) := by
  unfold crossN
  obtain ⟨d, hd⟩ : ∃ d, z.size = d + k := ⟨z.size - k, by omega⟩
  have e : sumI (fun i => agr (zb z i) (shB z k i)) z.size = sumI (fun i => agr (zb z i) (shB z k i)) d + sumI (fun i => agr (zb z (d + i)) (shB z k (d + i))) k := by
    rw [hd]; exact sumI_split _ d k
  rw [e]
  have e1 : sumI (fun i => agr (zb z i) (shB z k i)) d = aperN z k := by
    unfold aperN
    rw [show z.size - k = d by omega]
    exact sumI_congr _ fun i hi => by unfold shB; rw [Nat.mod_eq_of_lt (by omega)]
  rw [e1]
  by_cases h0 : 0 < k
  · rw [if_pos h0]
    congr 1
    unfold aperN
    rw [show z.size - k = d by omega, show z.size - d = k by omega]
    refine sumI_congr _ fun i hi => ?_
    have : (k + (d + i)) % z.size = i := by rw [show k + (d + i) = i + z.size by omega, Nat.add_mod_right, Nat.mod_eq_of_lt (by omega)]
    unfold shB
    rw [this]
    exact agr_comm _ _
  · obtain rfl : k = 0 := by omega
    rfl
theorem aper_rev (z : ByteArray) (k : Nat) (hk : k < z.size) : aperN (revS z) k = aperN z k := by
  unfold aperN
  rw [revS_size]
  rw [← sumI_rev (fun i => agr (zb z i) (zb z (k + i)))]
  refine sumI_congr _ fun i hi => ?_
  rw [zb_revS z i (by omega), zb_revS z (k + i) (by omega)]
  rw [show z.size - 1 - i = k + (z.size - k - 1 - i) by omega, show z.size - 1 - (k + i) = z.size - k - 1 - i by omega]
  exact agr_comm _ _
theorem aper_bd (z : ByteArray) (k : Nat) : -((z.size - k : Nat) : Int) ≤ aperN z k ∧ aperN z k ≤ ((z.size - k : Nat) : Int) := sumI_bd (fun i => agr_bd _ _) _
theorem revS_ok (z : ByteArray) (h : okB z z.size = true) : okB (revS z) (revS z).size = true := okB_of_zb _ fun i hi => by
  rw [revS_size] at hi; rw [zb_revS z i hi]; exact okB_zb z h _ (by omega)
theorem seqB_revS {z : ByteArray} (h : seqB z = true) : seqB (revS z) = true := by
  obtain ⟨h1, h2, h3⟩ := (seqB_iff z).1 h
  exact seqB_mk (revS_ok z h1) (by rw [revS_size]; omega) (by rw [revS_size]; omega)
theorem revS_revS (z : ByteArray) : revS (revS z) = z := by
  apply ba_ext (by rw [revS_size, revS_size])
  intro i hi
  rw [revS_size, revS_size] at hi
  rw [zb_revS _ _ (by rw [revS_size]; exact hi), revS_size, zb_revS _ _ (by omega)]
  congr 1; omega
/-- Exchanged, inverted and shifted sequences. -/
theorem cross_swap (a b : ByteArray) (k : Int) (h : a.size = b.size) (h0 : 0 < a.size) : crossN b a (modN (-(k.tmod a.size)) a.size) = crossN a b (modN k b.size) := by
  unfold crossN
  have hm := modN_lt k b.size (by omega)
  have hb : b.size = a.size := h.symm
  rw [hb] at hm ⊢
  rw [← sumI_rot (fun i => agr (zb b i) (shB a (modN (-(k.tmod a.size)) a.size) i)) (modN k a.size) a.size hm]
  refine sumI_congr _ fun i hi => ?_
  unfold shB
  rw [hb, modN_idx _ _ _ _ h0]
  have e : modN (-(k.tmod a.size) + k) a.size = 0 := by
    have e1 : -(k.tmod a.size) + k = (a.size : Int) * (k.tdiv a.size) := by have := Int.mul_tdiv_add_tmod k a.size; omega
    rw [e1]; unfold modN; rw [Int.mul_emod_right]; rfl
  rw [e, Nat.zero_add, Nat.mod_eq_of_lt hi]
  exact agr_comm _ _
theorem cross_inv (a b : ByteArray) (k : Int) (h : a.size = b.size) (ha : okB a a.size = true) (hb : okB b b.size = true) (h0 : 0 < a.size) : crossN a (invS b) (modN k (invS b).size) = - crossN a b (modN k b.size) := by
  unfold crossN
  rw [← sumI_neg]
  refine sumI_congr _ fun i hi => ?_
  unfold shB
  have hm : (modN k b.size + i) % b.size < b.size := Nat.mod_lt _ (by omega)
  rw [invS_size, zb_invS _ _ hm]
  rcases okB_zb a ha i hi with e | e <;> rcases okB_zb b hb _ hm with e' | e' <;> rw [e, e'] <;> rfl
theorem cross_both (a b : ByteArray) (s k : Int) (h : a.size = b.size) (h0 : 0 < a.size) : crossN (shift a s) (shift b s) (modN k (shift b s).size) = crossN a b (modN k b.size) := by
  unfold crossN
  have hb : b.size = a.size := h.symm
  have hm := modN_lt s a.size h0
  rw [shift_size, shift_size, hb]
  rw [← sumI_rot (fun i => agr (zb a i) (shB b (modN k a.size) i)) (modN s a.size) a.size hm]
  refine sumI_congr _ fun i hi => ?_
  unfold shB
  rw [shift_size, hb, zb_shift _ _ _ hi, zb_shift _ _ _ (by rw [hb]; exact Nat.mod_lt _ h0), hb, modN_idx _ _ _ _ h0, modN_idx _ _ _ _ h0, Int.add_comm]
theorem cross_second (a b : ByteArray) (m s : Int) (h : a.size = b.size) (h0 : 0 < a.size) : crossN a (shift b s) (modN m (shift b s).size) = crossN a b (modN (m + s) b.size) := by
  unfold crossN
  refine sumI_congr _ fun i hi => ?_
  unfold shB
  rw [shift_size, zb_shift _ _ _ (Nat.mod_lt _ (by omega)), modN_idx _ _ _ _ (by omega), Int.add_comm]
theorem modN_tmod_add (k s : Int) (n : Nat) (h : 0 < n) : modN (k.tmod n + s) n = modN (k + s) n := by rw [modN_add _ _ _ h, modN_tmod _ _ h, ← modN_add _ _ _ h]
end Go.Proofs.Ytlcnlhephhbhcaa
