/- The algebra of sequences: shifts, sums, factors and correlations on plain numbers. Contracts of FirstRotation, of both sides. Periods, first rotations and shifts between sequences, on plain numbers. Contracts of PeakOf, of both sides. Peaks of correlations on plain numbers; the laws' own comparison of lists. -/
import Derived.Test.YtmlmpekhcnjehaaSsSame
import Derived.Test.YtmlmpekhcnjehaaSeqFun3
import Derived.Test.YtmlmpekhcnjehaaSeqAper
import Derived.Test.YtmlmpekhcnjehaaSeqRev
import Derived.Test.YtmlmpekhcnjehaaSeqFind
import Derived.Test.YtmlmpekhcnjehaaSeqFun
import Derived.Test.YtmlmpekhcnjehaaSeqTable
import Derived.WalkLawsBesides
namespace Go.Proofs.Ytmlmpekhcnjehaa
open Go.RowKit
set_option linter.unusedVariables false
theorem modN_add (a b : Int) (n : Nat) (h : 0 < n) : modN (a + b) n = (modN a n + modN b n) % n := by
  have e : ((modN (a + b) n : Nat) : Int) = (((modN a n + modN b n) % n : Nat) : Int) := by
    rw [modN_eq _ _ h, Int.natCast_emod, Int.natCast_add, modN_eq _ _ h, modN_eq _ _ h, ← Int.add_emod]
  exact Int.ofNat.inj e
theorem modN_idx (a b : Int) (i n : Nat) (h : 0 < n) : (modN a n + (modN b n + i) % n) % n = (modN (a + b) n + i) % n := by
  rw [modN_add a b n h, Nat.add_mod_mod, Nat.mod_add_mod, Nat.add_assoc]
theorem shift_shift (z : ByteArray) (a b : Int) : shift (shift z a) b = shift z (a + b) := by
  apply ba_ext (by rw [shift_size, shift_size, shift_size])
  intro i hi
  rw [shift_size, shift_size] at hi
  have hn : 0 < z.size := by omega
  rw [zb_shift _ _ _ (by rw [shift_size]; exact hi), shift_size, zb_shift _ _ _ (Nat.mod_lt _ hn), zb_shift _ _ _ hi, modN_idx a b i z.size hn]
theorem shift_mod (z : ByteArray) (a b : Int) (h : modN a z.size = modN b z.size) : shift z a = shift z b := by unfold shift; rw [h]
theorem modN_tmod (k : Int) (n : Nat) (h : 0 < n) : modN (k.tmod n) n = modN k n := by
  have hl := modN_lt k n h
  by_cases h0 : 0 ≤ k.tmod n
  · rw [tmod_pos k n h h0, modN_of_nat, Nat.mod_eq_of_lt hl]
  · have e : k.tmod n = (modN k n : Nat) + (-(n : Int)) := by have := tmod_neg k n h (by omega); omega
    have e2 : modN (-(n : Int)) n = 0 := by unfold modN; rw [Int.neg_emod_self]; rfl
    rw [e, modN_add _ _ _ h, modN_of_nat, e2, Nat.mod_eq_of_lt hl, Nat.add_zero, Nat.mod_eq_of_lt hl]
theorem shift_tmod (z : ByteArray) (k m : Int) (h : 0 < z.size) : shift z (k.tmod z.size + m) = shift (shift z k) m := by
  rw [shift_shift]
  exact shift_mod _ _ _ (by rw [modN_add _ _ _ h, modN_add _ _ _ h, modN_tmod _ _ h])
theorem shift_back (z : ByteArray) (k : Int) (h : 0 < z.size) : shift (shift z k) (-(k.tmod z.size)) = z := by
  rw [shift_shift]
  apply shift_zero
  have e : k + -(k.tmod z.size) = (z.size : Int) * (k.tdiv z.size) := by have := Int.mul_tdiv_add_tmod k z.size; omega
  rw [e]
  unfold modN
  rw [Int.mul_emod_right]; rfl
/-- What the sum of bits is. -/
theorem addB_comm (x y : Nat) : addB x y = addB y x := by unfold addB; by_cases h : x = y <;> simp [h, eq_comm]
theorem addB_twice (x y : Nat) (hx : x = 48 ∨ x = 49) (hy : y = 48 ∨ y = 49) : addB (addB x y) y = x := by rcases hx with rfl | rfl <;> rcases hy with rfl | rfl <;> rfl
theorem addB_inv (x y : Nat) (hx : x = 48 ∨ x = 49) (hy : y = 48 ∨ y = 49) : addB (97 - x) y = 97 - addB x y := by rcases hx with rfl | rfl <;> rcases hy with rfl | rfl <;> rfl
theorem addS_back (a b : ByteArray) (ha : okB a a.size = true) (hb : okB b b.size = true) (h : a.size = b.size) : addS (addS a b) b = a := by
  apply ba_ext (by rw [addS_size, addS_size])
  intro i hi
  rw [addS_size, addS_size] at hi
  rw [zb_addS _ _ _ (by rw [addS_size]; exact hi), zb_addS _ _ _ hi, addB_twice _ _ (okB_zb a ha i hi) (okB_zb b hb i (by omega))]
theorem addS_comm (a b : ByteArray) (h : a.size = b.size) : addS b a = addS a b := by
  apply ba_ext (by rw [addS_size, addS_size, h])
  intro i hi
  rw [addS_size] at hi
  rw [zb_addS _ _ _ hi, zb_addS _ _ _ (by omega), addB_comm]
theorem addS_shift (a b : ByteArray) (k : Int) (h : a.size = b.size) : addS (shift a k) (shift b k) = shift (addS a b) k := by
  apply ba_ext (by rw [addS_size, shift_size, shift_size, addS_size])
  intro i hi
  rw [addS_size, shift_size] at hi
  have hm : (modN k a.size + i) % a.size < a.size := Nat.mod_lt _ (by omega)
  rw [zb_addS _ _ _ (by rw [shift_size]; exact hi), zb_shift _ _ _ hi, zb_shift _ _ _ (by omega), zb_shift _ _ _ (by rw [addS_size]; exact hi), addS_size, zb_addS _ _ _ hm, ← h]
theorem addS_invS (a b : ByteArray) (ha : okB a a.size = true) (hb : okB b b.size = true) (h : a.size = b.size) : addS (invS a) b = invS (addS a b) := by
  apply ba_ext (by rw [addS_size, invS_size, invS_size, addS_size])
  intro i hi
  rw [addS_size, invS_size] at hi
  rw [zb_addS _ _ _ (by rw [invS_size]; exact hi), zb_invS _ _ hi, zb_invS _ _ (by rw [addS_size]; exact hi), zb_addS _ _ _ hi, addB_inv _ _ (okB_zb a ha i hi) (okB_zb b hb i (by omega))]
theorem invS_ok (z : ByteArray) (h : okB z z.size = true) : okB (invS z) (invS z).size = true := okB_of_zb _ fun i hi => by
  rw [invS_size] at hi; rw [zb_invS z i hi]; rcases okB_zb z h i hi with e | e <;> rw [e] <;> simp
theorem seqB_mk {z : ByteArray} (h : okB z z.size = true) (h1 : 1 ≤ z.size) (h2 : z.size ≤ 255) : seqB z = true := (seqB_iff z).2 ⟨h, h1, h2⟩
theorem seqB_addS {a b : ByteArray} (h : seqB a = true) : seqB (addS a b) = true := by
  have := size_le h
  exact seqB_mk (addS_ok a b) (by rw [addS_size]; omega) (by rw [addS_size]; omega)
theorem seqB_shift {z : ByteArray} (k : Int) (h : seqB z = true) : seqB (shift z k) = true := by
  obtain ⟨h1, h2, h3⟩ := (seqB_iff z).1 h
  exact seqB_mk (shift_ok z k h1) (by rw [shift_size]; omega) (by rw [shift_size]; omega)
theorem seqB_invS {z : ByteArray} (h : seqB z = true) : seqB (invS z) = true := by
  obtain ⟨h1, h2, h3⟩ := (seqB_iff z).1 h
  exact seqB_mk (invS_ok z h1) (by rw [invS_size]; omega) (by rw [invS_size]; omega)
theorem pairB_mk {a b : ByteArray} (ha : seqB a = true) (hb : seqB b = true) (h : a.size = b.size) : pairB a b = true := (pairB_iff a b).2 ⟨ha, hb, h⟩
theorem shiftAns_yes {z : ByteArray} (k : Int) (h : seqB z = true) : shiftAns z k = (shift z k, true) := by unfold shiftAns; rw [h]; rfl
theorem addAns_yes {a b : ByteArray} (h : pairB a b = true) : addAns a b = (addS a b, true) := by unfold addAns; rw [h]; rfl
theorem invAns_yes {z : ByteArray} (h : seqB z = true) : invAns z = (invS z, true) := by unfold invAns; rw [h]; rfl
theorem crossAns_yes {a b : ByteArray} (k : Int) (h : pairB a b = true) : crossAns a b k = (crossN a b (modN k b.size), true) := by unfold crossAns; rw [h]; rfl
theorem balAns_yes {z : ByteArray} (h : seqB z = true) : balAns z = (balN z, true) := by unfold balAns; rw [h]; rfl
/-- Factors. -/
theorem decS_decS (z : ByteArray) (k m : Nat) : decS (decS z k) m = decS z (k * m % z.size) := by
  apply ba_ext (by rw [decS_size, decS_size, decS_size])
  intro i hi
  rw [decS_size, decS_size] at hi
  have hn : 0 < z.size := by omega
  rw [zb_decS _ _ _ (by rw [decS_size]; exact hi), decS_size, zb_decS _ _ _ (Nat.mod_lt _ hn), zb_decS _ _ _ hi]
  congr 1
  rw [Nat.mul_mod_mod, Nat.mod_mul_mod, Nat.mul_assoc]
theorem decS_one (z : ByteArray) : decS z 1 = z := (strF_of z _ _ rfl fun i hi => by rw [Nat.one_mul, Nat.mod_eq_of_lt hi]).symm
theorem decS_ok (z : ByteArray) (k : Nat) (h : okB z z.size = true) : okB (decS z k) (decS z k).size = true := okB_of_zb _ fun i hi => by
  rw [decS_size] at hi; rw [zb_decS z k i hi]; exact okB_zb z h _ (Nat.mod_lt _ (by omega))
theorem seqB_decS {z : ByteArray} (k : Nat) (h : seqB z = true) : seqB (decS z k) = true := by
  obtain ⟨h1, h2, h3⟩ := (seqB_iff z).1 h
  exact seqB_mk (decS_ok z k h1) (by rw [decS_size]; omega) (by rw [decS_size]; omega)
/-- Sums over an index that goes around. -/
theorem sumI_split (f : Nat → Int) (a : Nat) : ∀ b, sumI f (a + b) = sumI f a + sumI (fun i => f (a + i)) b
  | 0 => by simp [sumI]
  | b + 1 => by rw [← Nat.add_assoc]; simp only [sumI]; rw [sumI_split f a b]; omega
theorem sumI_rot (f : Nat → Int) (c n : Nat) (hc : c < n) : sumI (fun i => f ((c + i) % n)) n = sumI f n := by
  obtain ⟨d, rfl⟩ : ∃ d, n = d + c := ⟨n - c, by omega⟩
  rw [sumI_split _ d c]
  rw [show d + c = c + d from Nat.add_comm _ _, sumI_split f c d, Int.add_comm]
  congr 1
  · refine sumI_congr _ fun i hi => ?_
    have : (c + (d + i)) % (c + d) = i := by rw [show c + (d + i) = i + (c + d) by omega, Nat.add_mod_right, Nat.mod_eq_of_lt (by omega)]
    rw [this]
  · exact sumI_congr _ fun i hi => by rw [Nat.mod_eq_of_lt (by omega)]
theorem sumI_rev (f : Nat → Int) : ∀ n, sumI (fun i => f (n - 1 - i)) n = sumI f n
  | 0 => rfl
  | n + 1 => by
    have e : sumI (fun i => f (n + 1 - 1 - i)) (n + 1) = sumI (fun i => f (n + 1 - 1 - i)) 1 + sumI (fun i => f (n + 1 - 1 - (1 + i))) n := by
      rw [show n + 1 = 1 + n by omega]; exact sumI_split _ 1 n
    rw [e]
    have e2 : sumI (fun i => f (n + 1 - 1 - (1 + i))) n = sumI (fun i => f (n - 1 - i)) n := sumI_congr _ fun i hi => by congr 1; omega
    rw [e2, sumI_rev f n]
    simp only [sumI, Nat.add_sub_cancel, Nat.sub_zero]
    omega
theorem agr_comm (a b : Nat) : agr a b = agr b a := by
  unfold agr
  by_cases h : a = b
  · rw [if_pos h, if_pos h.symm]
  · rw [if_neg h, if_neg (fun e => h e.symm)]
/-- The sum of ones and minus ones is as odd as their number. -/
theorem sumI_par (f : Nat → Int) (hf : ∀ i, f i = 1 ∨ f i = -1) : ∀ n : Nat, ∃ q : Int, sumI f n - n = 2 * q
  | 0 => ⟨0, by simp [sumI]⟩
  | n + 1 => by
    obtain ⟨q, hq⟩ := sumI_par f hf n
    simp only [sumI]
    rcases hf n with h | h
    · exact ⟨q, by omega⟩
    · exact ⟨q - 1, by omega⟩
theorem agr_one (a b : Nat) : agr a b = 1 ∨ agr a b = -1 := by unfold agr; split <;> simp
theorem crossN_par (a b : ByteArray) (k : Nat) : (crossN a b k - a.size).tmod 2 = 0 := by
  obtain ⟨q, hq⟩ := sumI_par (fun i => agr (zb a i) (shB b k i)) (fun i => agr_one _ _) a.size
  have : crossN a b k - a.size = 2 * q := hq
  rw [this]; exact Int.mul_tmod_right _ _
theorem crossN_bal (a b : ByteArray) (k : Int) (h : a.size = b.size) : crossN a b (modN k b.size) = - balN (addS a (shift b k)) := (cross_bal a b k h).symm
/-- A correlation of a sequence with itself, by its two parts. -/
theorem cross_aper (z : ByteArray) (k : Nat) (hk : k < z.size) : crossN z z k = aperN z k + (if 0 < k then aperN z (z.size - k) else 0) := by
  unfold crossN
  obtain ⟨d, hd⟩ : ∃ d, z.size = d + k := ⟨z.size - k, by omega⟩
  have e : sumI (fun i => agr (zb z i) (shB z k i)) z.size = sumI (fun i => agr (zb z i) (shB z k i)) d + sumI (fun i => agr (zb z (d + i)) (shB z k (d + i))) k := by
    rw [hd]; exact sumI_split _ d k
  rw [e]
  have e1 : sumI (fun i => agr (zb z i) (shB z k i)) d = aperN z k := by
    unfold aperN
    rw [show z.size - k = d by omega]
    exact sumI_congr _ fun i hi => by unfold shB; rw [Nat.mod_eq_of_lt (by omega)]
  rw [e1]
  by_cases h0 : 0 < k
  · rw [if_pos h0]
    congr 1
    unfold aperN
    rw [show z.size - k = d by omega, show z.size - d = k by omega]
    refine sumI_congr _ fun i hi => ?_
    have : (k + (d + i)) % z.size = i := by rw [show k + (d + i) = i + z.size by omega, Nat.add_mod_right, Nat.mod_eq_of_lt (by omega)]
    unfold shB
    rw [this]
    exact agr_comm _ _
  · obtain rfl : k = 0 := by omega
    rfl
theorem aper_rev (z : ByteArray) (k : Nat) (hk : k < z.size) : aperN (revS z) k = aperN z k := by
  unfold aperN
  rw [revS_size]
  rw [← sumI_rev (fun i => agr (zb z i) (zb z (k + i)))]
  refine sumI_congr _ fun i hi => ?_
  rw [zb_revS z i (by omega), zb_revS z (k + i) (by omega)]
  rw [show z.size - 1 - i = k + (z.size - k - 1 - i) by omega, show z.size - 1 - (k + i) = z.size - k - 1 - i by omega]
  exact agr_comm _ _
theorem aper_bd (z : ByteArray) (k : Nat) : -((z.size - k : Nat) : Int) ≤ aperN z k ∧ aperN z k ≤ ((z.size - k : Nat) : Int) := sumI_bd (fun i => agr_bd _ _) _
theorem revS_ok (z : ByteArray) (h : okB z z.size = true) : okB (revS z) (revS z).size = true := okB_of_zb _ fun i hi => by
  rw [revS_size] at hi; rw [zb_revS z i hi]; exact okB_zb z h _ (by omega)
theorem seqB_revS {z : ByteArray} (h : seqB z = true) : seqB (revS z) = true := by
  obtain ⟨h1, h2, h3⟩ := (seqB_iff z).1 h
  exact seqB_mk (revS_ok z h1) (by rw [revS_size]; omega) (by rw [revS_size]; omega)
theorem revS_revS (z : ByteArray) : revS (revS z) = z := by
  apply ba_ext (by rw [revS_size, revS_size])
  intro i hi
  rw [revS_size, revS_size] at hi
  rw [zb_revS _ _ (by rw [revS_size]; exact hi), revS_size, zb_revS _ _ (by omega)]
  congr 1; omega
/-- Exchanged, inverted and shifted sequences. -/
theorem cross_swap (a b : ByteArray) (k : Int) (h : a.size = b.size) (h0 : 0 < a.size) : crossN b a (modN (-(k.tmod a.size)) a.size) = crossN a b (modN k b.size) := by
  unfold crossN
  have hm := modN_lt k b.size (by omega)
  have hb : b.size = a.size := h.symm
  rw [hb] at hm ⊢
  rw [← sumI_rot (fun i => agr (zb b i) (shB a (modN (-(k.tmod a.size)) a.size) i)) (modN k a.size) a.size hm]
  refine sumI_congr _ fun i hi => ?_
  unfold shB
  rw [hb, modN_idx _ _ _ _ h0]
  have e : modN (-(k.tmod a.size) + k) a.size = 0 := by
    have e1 : -(k.tmod a.size) + k = (a.size : Int) * (k.tdiv a.size) := by have := Int.mul_tdiv_add_tmod k a.size; omega
    rw [e1]; unfold modN; rw [Int.mul_emod_right]; rfl
  rw [e, Nat.zero_add, Nat.mod_eq_of_lt hi]
  exact agr_comm _ _
theorem cross_inv (a b : ByteArray) (k : Int) (h : a.size = b.size) (ha : okB a a.size = true) (hb : okB b b.size = true) (h0 : 0 < a.size) : crossN a (invS b) (modN k (invS b).size) = - crossN a b (modN k b.size) := by
  unfold crossN
  rw [← sumI_neg]
  refine sumI_congr _ fun i hi => ?_
  unfold shB
  have hm : (modN k b.size + i) % b.size < b.size := Nat.mod_lt _ (by omega)
  rw [invS_size, zb_invS _ _ hm]
  rcases okB_zb a ha i hi with e | e <;> rcases okB_zb b hb _ hm with e' | e' <;> rw [e, e'] <;> rfl
theorem cross_both (a b : ByteArray) (s k : Int) (h : a.size = b.size) (h0 : 0 < a.size) : crossN (shift a s) (shift b s) (modN k (shift b s).size) = crossN a b (modN k b.size) := by
  unfold crossN
  have hb : b.size = a.size := h.symm
  have hm := modN_lt s a.size h0
  rw [shift_size, shift_size, hb]
  rw [← sumI_rot (fun i => agr (zb a i) (shB b (modN k a.size) i)) (modN s a.size) a.size hm]
  refine sumI_congr _ fun i hi => ?_
  unfold shB
  rw [shift_size, hb, zb_shift _ _ _ hi, zb_shift _ _ _ (by rw [hb]; exact Nat.mod_lt _ h0), hb, modN_idx _ _ _ _ h0, modN_idx _ _ _ _ h0, Int.add_comm]
theorem cross_second (a b : ByteArray) (m s : Int) (h : a.size = b.size) (h0 : 0 < a.size) : crossN a (shift b s) (modN m (shift b s).size) = crossN a b (modN (m + s) b.size) := by
  unfold crossN
  refine sumI_congr _ fun i hi => ?_
  unfold shB
  rw [shift_size, zb_shift _ _ _ (Nat.mod_lt _ (by omega)), modN_idx _ _ _ _ (by omega), Int.add_comm]
theorem modN_tmod_add (k s : Int) (n : Nat) (h : 0 < n) : modN (k.tmod n + s) n = modN (k + s) n := by rw [modN_add _ _ _ h, modN_tmod _ _ h, ← modN_add _ _ _ h]
end Go.Proofs.Ytmlmpekhcnjehaa
namespace Go.Proofs.Ytmlmpekhcnjehaa
open Go.RowKit
set_option linter.unusedVariables false
/-- The first one of two strings. -/
def minS (x y : ByteArray) : ByteArray := if (Op.bytesLess x.toList y.toList || x.toList == y.toList) then x else y
theorem run_minS (ts : Array TypeId) (t : TypeId) (x y : ByteArray) (w : World) : (Builtin.min_ ts t #[.string x, .string y]).run Try.prog w = .ok (.string (minS x y)) w := by
  unfold minS
  generalize hb : (Op.bytesLess x.toList y.toList || x.toList == y.toList) = b
  have hl : (Op.stringOp .leq x y : Sem Value) = pure (.bool b) := by simp only [Op.stringOp, hb]
  simp [Builtin.min_, Builtin.min2, hl]
  cases b <;> rfl
/-- The first one of the shifts up to k. -/
def rotB (z : ByteArray) : Nat → ByteArray
  | 0 => z
  | k + 1 => minS (rotB z k) (shift z ((k + 1 : Nat) : Int))
def rotAns (z : ByteArray) : ByteArray := if seqB z then rotB z (z.size - 1) else ByteArray.empty
end Go.Proofs.Ytmlmpekhcnjehaa
namespace Go.Proofs.Ytmlmpekhcnjehaa
open Go.RowKit
set_option linter.unusedVariables false
theorem modN_zero (n : Nat) : modN 0 n = 0 := by unfold modN; simp
theorem shift_nil (z : ByteArray) : shift z 0 = z := shift_zero z 0 (modN_zero _)
theorem shift_per_add {z : ByteArray} {a b : Int} (ha : shift z a = z) (hb : shift z b = z) : shift z (a + b) = z := by rw [← shift_shift, ha, hb]
theorem per_mul (z : ByteArray) (n : Nat) (h : shift z (n : Int) = z) : ∀ q : Nat, shift z ((n * q : Nat) : Int) = z
  | 0 => shift_nil z
  | q + 1 => by
    rw [show ((n * (q + 1) : Nat) : Int) = ((n * q : Nat) : Int) + (n : Int) by rw [Nat.mul_succ]; omega]
    exact shift_per_add (per_mul z n h q) h
theorem per_iff (z : ByteArray) (h1 : 1 ≤ z.size) (k : Nat) : shift z (k : Int) = z ↔ k % leastP z = 0 := by
  have hb := leastP_bd z h1
  have hy := leastP_yes z h1
  have hn := leastP_no z
  obtain ⟨n, hN⟩ : ∃ n, leastP z = n := ⟨_, rfl⟩
  rw [hN] at hb hy hn ⊢
  have hk := Nat.div_add_mod k n
  have hl := Nat.mod_lt k (show 0 < n by omega)
  have hm := per_mul z n hy (k / n)
  constructor
  · intro h
    have e : shift z ((k % n : Nat) : Int) = z := by
      have : shift z ((n * (k / n) : Nat) + ((k % n : Nat) : Int)) = z := by rw [show ((n * (k / n) : Nat) : Int) + ((k % n : Nat) : Int) = (k : Int) by omega]; exact h
      rwa [← shift_shift, hm] at this
    rcases Nat.eq_zero_or_pos (k % n) with h0 | h0
    · exact h0
    · exact absurd e (hn _ h0 hl)
  · intro h
    rw [show k = n * (k / n) by omega]
    exact hm
theorem sumI_full (f : Nat → Int) (hf : ∀ i, f i = 1 ∨ f i = -1) : ∀ n : Nat, sumI f n = n ↔ ∀ i, i < n → f i = 1
  | 0 => by simp [sumI]
  | n + 1 => by
    have ih := sumI_full f hf n
    have hb := sumI_bd (f := f) (fun i => by rcases hf i with h | h <;> omega) n
    simp only [sumI]
    constructor
    · intro h i hi
      rcases hf n with e | e
      · by_cases hin : i = n
        · rw [hin]; exact e
        · exact ih.1 (by omega) i (by omega)
      · omega
    · intro h
      have h1 := ih.2 (fun i hi => h i (by omega))
      have h2 := h n (by omega)
      omega
theorem agr_eq (a b : Nat) : agr a b = 1 ↔ a = b := by unfold agr; by_cases h : a = b <;> simp [h]
theorem cross_full (a b : ByteArray) (k : Nat) : crossN a b k = a.size ↔ ∀ i, i < a.size → zb a i = shB b k i := by
  unfold crossN
  rw [sumI_full _ (fun i => agr_one _ _)]
  exact ⟨fun h i hi => (agr_eq _ _).1 (h i hi), fun h i hi => (agr_eq _ _).2 (h i hi)⟩
theorem auto_full (z : ByteArray) (k : Int) : crossN z z (modN k z.size) = z.size ↔ shift z k = z := by
  rw [cross_full]
  constructor
  · intro h
    exact (strF_of z _ _ rfl h).symm
  · intro h i hi
    have := zb_shift z k i hi
    rw [h] at this
    exact this
/-- The order of strings. -/
theorem bl_nil (l : List UInt8) : Op.bytesLess l [] = false := by cases l <;> rfl
theorem bl_cons (a b : UInt8) (x y : List UInt8) : Op.bytesLess (a :: x) (b :: y) = true ↔ a.toNat < b.toNat ∨ (a.toNat = b.toNat ∧ Op.bytesLess x y = true) := by
  simp only [Op.bytesLess, Bool.or_eq_true, Bool.and_eq_true, decide_eq_true_eq, beq_iff_eq, UInt8.lt_iff_toNat_lt]
  rw [← UInt8.toNat_inj]
theorem bl_irrefl : ∀ l, Op.bytesLess l l = false
  | [] => rfl
  | a :: l => by
    cases h : Op.bytesLess (a :: l) (a :: l) with
    | false => rfl
    | true =>
      rcases (bl_cons a a l l).1 h with e | ⟨_, e⟩
      · omega
      · rw [bl_irrefl l] at e; cases e
theorem bl_trans : ∀ x y z, Op.bytesLess x y = true → Op.bytesLess y z = true → Op.bytesLess x z = true
  | x, [], _, h, _ => by rw [bl_nil] at h; cases h
  | _, b :: y, [], _, h => by rw [bl_nil] at h; cases h
  | [], b :: y, c :: z, _, _ => rfl
  | a :: x, b :: y, c :: z, h1, h2 => by
    rw [bl_cons] at h1 h2 ⊢
    rcases h1 with h1 | ⟨h1, k1⟩ <;> rcases h2 with h2 | ⟨h2, k2⟩
    · left; omega
    · left; omega
    · left; omega
    · right; exact ⟨by omega, bl_trans x y z k1 k2⟩
theorem bl_tri : ∀ x y, Op.bytesLess x y = true ∨ x = y ∨ Op.bytesLess y x = true
  | [], [] => .inr (.inl rfl)
  | [], b :: y => .inl rfl
  | a :: x, [] => .inr (.inr rfl)
  | a :: x, b :: y => by
    rw [bl_cons, bl_cons]
    rcases Nat.lt_trichotomy a.toNat b.toNat with h | h | h
    · exact .inl (.inl h)
    · have e : a = b := UInt8.toNat_inj.1 h
      subst e
      rcases bl_tri x y with k | k | k
      · exact .inl (.inr ⟨rfl, k⟩)
      · exact .inr (.inl (by rw [k]))
      · exact .inr (.inr (.inr ⟨rfl, k⟩))
    · exact .inr (.inr (.inl h))
def strLt (x y : ByteArray) : Bool := Op.bytesLess x.toList y.toList
theorem toList_inj {x y : ByteArray} (h : x.toList = y.toList) : x = y := by
  by_cases e : x = y
  · exact e
  · have := str_ne e; rw [h] at this; simp at this
theorem lt_irrefl' (x : ByteArray) : strLt x x = false := bl_irrefl _
theorem lt_trans' {x y z : ByteArray} (h1 : strLt x y = true) (h2 : strLt y z = true) : strLt x z = true := bl_trans _ _ _ h1 h2
theorem lt_tri' (x y : ByteArray) : strLt x y = true ∨ x = y ∨ strLt y x = true := by
  rcases bl_tri x.toList y.toList with h | h | h
  · exact .inl h
  · exact .inr (.inl (toList_inj h))
  · exact .inr (.inr h)
/-- x is not behind y: 'strLt y x = false'. -/
theorem le_trans' {x y z : ByteArray} (h1 : strLt y x = false) (h2 : strLt z y = false) : strLt z x = false := by
  cases h : strLt z x with
  | false => rfl
  | true =>
    rcases lt_tri' y z with k | k | k
    · have := lt_trans' k h; rw [h1] at this; cases this
    · subst k; rw [h1] at h; cases h
    · rw [h2] at k; cases k
theorem le_anti' {x y : ByteArray} (h1 : strLt y x = false) (h2 : strLt x y = false) : x = y := by
  rcases lt_tri' x y with k | k | k
  · rw [h2] at k; cases k
  · exact k
  · rw [h1] at k; cases k
theorem minS_or (x y : ByteArray) : minS x y = x ∨ minS x y = y := by unfold minS; split <;> simp
theorem minS_left (x y : ByteArray) : strLt x (minS x y) = false := by
  unfold minS
  split
  · exact lt_irrefl' x
  · rename_i h
    simp only [Bool.or_eq_true, not_or, Bool.not_eq_true] at h
    exact h.1
theorem minS_right (x y : ByteArray) : strLt y (minS x y) = false := by
  unfold minS
  split
  · rename_i h
    simp only [Bool.or_eq_true] at h
    rcases h with h | h
    · cases k : strLt y x with
      | false => rfl
      | true => have := lt_trans' (show strLt x y = true from h) k; rw [lt_irrefl'] at this; cases this
    · have := toList_inj (eq_of_beq h); subst this; exact lt_irrefl' _
  · exact lt_irrefl' y
theorem rot_mem (z : ByteArray) : ∀ k, ∃ i, i ≤ k ∧ rotB z k = shift z ((i : Nat) : Int)
  | 0 => ⟨0, Nat.le_refl _, (shift_nil z).symm⟩
  | k + 1 => by
    obtain ⟨i, hi, h⟩ := rot_mem z k
    simp only [rotB]
    rcases minS_or (rotB z k) (shift z ((k + 1 : Nat) : Int)) with e | e
    · exact ⟨i, by omega, by rw [e]; exact h⟩
    · exact ⟨k + 1, Nat.le_refl _, e⟩
theorem rot_min (z : ByteArray) : ∀ k i, i ≤ k → strLt (shift z ((i : Nat) : Int)) (rotB z k) = false
  | 0, i, hi => by
    obtain rfl : i = 0 := by omega
    rw [show ((0 : Nat) : Int) = 0 from rfl, shift_nil]; exact lt_irrefl' z
  | k + 1, i, hi => by
    simp only [rotB]
    by_cases e : i = k + 1
    · subst e; exact minS_right _ _
    · exact le_trans' (minS_left _ _) (rot_min z k i (by omega))
theorem shift_nat (z : ByteArray) (k : Int) (h : 0 < z.size) : shift z k = shift z ((modN k z.size : Nat) : Int) :=
  shift_mod z _ _ (by rw [modN_of_nat, Nat.mod_eq_of_lt (modN_lt k _ h)])
/-- The first rotation. -/
def rotS (z : ByteArray) : ByteArray := rotB z (z.size - 1)
theorem rotS_all (z : ByteArray) (k : Int) (h : 0 < z.size) : strLt (shift z k) (rotS z) = false := by
  rw [shift_nat z k h]
  exact rot_min z _ _ (by have := modN_lt k z.size h; omega)
theorem rotS_mem (z : ByteArray) : ∃ i : Nat, i ≤ z.size - 1 ∧ rotS z = shift z (i : Int) := rot_mem z _
theorem rotS_size (z : ByteArray) : (rotS z).size = z.size := by obtain ⟨i, _, h⟩ := rotS_mem z; rw [h, shift_size]
theorem rotS_shift (z : ByteArray) (m : Int) (h : 0 < z.size) : rotS (shift z m) = rotS z := by
  obtain ⟨i, _, hi⟩ := rotS_mem (shift z m)
  obtain ⟨j, _, hj⟩ := rotS_mem z
  apply le_anti'
  · have := rotS_all (shift z m) (-m + (j : Int)) (by rw [shift_size]; exact h)
    rw [shift_shift, show m + (-m + (j : Int)) = (j : Int) by omega, ← hj] at this
    exact this
  · rw [hi, shift_shift]; exact rotS_all z _ h
theorem rotS_rotS (z : ByteArray) (h : 0 < z.size) : rotS (rotS z) = rotS z := by
  obtain ⟨i, _, hi⟩ := rotS_mem z
  have e := rotS_shift z (i : Int) h
  rwa [← hi] at e
/-- Shifts between sequences. -/
theorem shift_undo {a b : ByteArray} {k : Int} (h : shift a k = b) : shift b (-k) = a := by
  rw [← h, shift_shift, show k + -k = 0 by omega, shift_nil]
theorem between_lt (a b : ByteArray) (k : Int) (h0 : 0 < a.size) (h : shift a k = b) : betweenN a b < a.size := by
  have hm := modN_lt k a.size h0
  have := findN_ex (fun k => decide (shift a ((k : Nat) : Int) = b)) a.size 0 (modN k a.size) (Nat.zero_le _) (by omega) (by rw [decide_eq_true]; rw [← shift_nat a k h0]; exact h)
  unfold betweenN; omega
theorem between_iff (a b : ByteArray) (h0 : 0 < a.size) (hs : a.size = b.size) : betweenN a b < a.size ↔ rotS a = rotS b := by
  constructor
  · intro h
    have e := betweenN_yes a b h
    have := rotS_shift a ((betweenN a b : Nat) : Int) h0
    rw [e] at this; exact this.symm
  · intro h
    obtain ⟨i, _, hi⟩ := rotS_mem a
    obtain ⟨j, _, hj⟩ := rotS_mem b
    have e : shift b (j : Int) = shift a (i : Int) := by rw [← hj, ← hi, h]
    have e2 := shift_undo e
    rw [shift_shift] at e2
    exact between_lt a b _ h0 e2
theorem leastP_shift (a : ByteArray) (k : Int) : leastP (shift a k) = leastP a := by
  have hp : (fun m : Nat => decide (shift (shift a k) (m : Int) = shift a k)) = fun m : Nat => decide (shift a (m : Int) = a) := by
    funext m
    rw [decide_eq_decide]
    constructor
    · intro h
      have e := shift_undo h
      have e2 : shift (shift (shift a k) (m : Int)) (-k) = shift (shift a k) (-k) := by rw [h]
      rw [shift_shift, shift_shift, shift_shift, show k + -k = 0 by omega, shift_nil, show k + ((m : Int) + -k) = (m : Int) by omega] at e2
      exact e2
    · intro h
      rw [shift_shift, Int.add_comm, ← shift_shift, h]
  unfold leastP
  rw [hp, shift_size]
theorem between_least (a b : ByteArray) (h0 : 0 < a.size) (h : betweenN a b < a.size) : betweenN a b < leastP a ∧ leastP b = leastP a := by
  have e := betweenN_yes a b h
  have hy := leastP_yes a h0
  have hb := leastP_bd a h0
  refine ⟨?_, ?_⟩
  · rcases Nat.lt_or_ge (betweenN a b) (leastP a) with h' | h'
    · exact h'
    · have e2 : shift a (((betweenN a b - leastP a : Nat)) : Int) = b := by
        have : shift (shift a ((leastP a : Nat) : Int)) ((betweenN a b - leastP a : Nat) : Int) = b := by
          rw [shift_shift, show ((leastP a : Nat) : Int) + ((betweenN a b - leastP a : Nat) : Int) = ((betweenN a b : Nat) : Int) by omega]; exact e
        rwa [hy] at this
      exact absurd e2 (betweenN_no a b _ (by omega))
  · have := leastP_shift a ((betweenN a b : Nat) : Int)
    rw [e] at this; exact this
/-- Products of balances. -/
theorem sumI_mul (c : Int) (f : Nat → Int) : ∀ n, sumI (fun i => c * f i) n = c * sumI f n
  | 0 => by simp [sumI]
  | n + 1 => by simp only [sumI]; rw [sumI_mul c f n, Int.mul_add]
theorem sumI_add (f g : Nat → Int) : ∀ n, sumI (fun i => f i + g i) n = sumI f n + sumI g n
  | 0 => by simp [sumI]
  | n + 1 => by simp only [sumI]; rw [sumI_add f g n]; omega
theorem sumI_swap (f : Nat → Nat → Int) (m : Nat) : ∀ n, sumI (fun k => sumI (fun i => f k i) m) n = sumI (fun i => sumI (fun k => f k i) n) m
  | 0 => by simp only [sumI]; exact (show sumI (fun _ => (0 : Int)) m = 0 from by induction m with | zero => rfl | succ m ih => simp only [sumI, ih]; rfl).symm
  | n + 1 => by simp only [sumI]; rw [sumI_swap f m n, ← sumI_add]
theorem agr_mul (x y : Nat) (hx : x = 48 ∨ x = 49) (hy : y = 48 ∨ y = 49) : agr x y = agr x 49 * agr y 49 := by rcases hx with rfl | rfl <;> rcases hy with rfl | rfl <;> rfl
theorem cross_sum (a b : ByteArray) (ha : okB a a.size = true) (hb : okB b b.size = true) (h : a.size = b.size) (h0 : 0 < a.size) : sumI (fun k => crossN a b k) a.size = balN a * balN b := by
  unfold crossN
  rw [sumI_swap]
  have e : ∀ i, i < a.size → sumI (fun k => agr (zb a i) (shB b k i)) a.size = balN b * agr (zb a i) 49 := by
    intro i hi
    have e1 : sumI (fun k => agr (zb a i) (shB b k i)) a.size = sumI (fun k => (fun j => agr (zb a i) (zb b j)) ((i + k) % a.size)) a.size := sumI_congr _ fun k hk => by
      show agr (zb a i) (zb b ((k + i) % b.size)) = agr (zb a i) (zb b ((i + k) % a.size))
      rw [Nat.add_comm k i, h]
    refine (e1.trans (sumI_rot (fun j => agr (zb a i) (zb b j)) i a.size hi)).trans ?_
    have e2 : sumI (fun j => agr (zb a i) (zb b j)) a.size = sumI (fun j => agr (zb a i) 49 * agr (zb b j) 49) a.size := sumI_congr _ fun j hj => agr_mul _ _ (okB_zb a ha i hi) (okB_zb b hb j (by omega))
    rw [e2, sumI_mul, Int.mul_comm]
    unfold balN
    rw [h]
  rw [sumI_congr _ e, sumI_mul, Int.mul_comm]
  rfl
end Go.Proofs.Ytmlmpekhcnjehaa
namespace Go.Proofs.Ytmlmpekhcnjehaa
open Go.RowKit
set_option linter.unusedVariables false
/-- The index of the first greatest of the first n values; -1 if there is none. -/
def peakI (f : Nat → Int) : Nat → Int
  | 0 => -1
  | n + 1 => if peakI f n < 0 ∨ f (peakI f n).toNat < f n then (n : Int) else peakI f n
theorem peakI_bd (f : Nat → Int) : ∀ n : Nat, -1 ≤ peakI f n ∧ peakI f n < n ∧ (0 < n → 0 ≤ peakI f n)
  | 0 => by simp [peakI]
  | n + 1 => by
    have := peakI_bd f n
    simp only [peakI]
    split
    · omega
    · rename_i h
      have h1 : ¬ peakI f n < 0 := fun e => h (.inl e)
      omega
theorem peakI_zero (f : Nat → Int) : peakI f 0 = -1 := rfl
theorem peakI_new (f : Nat → Int) (n q : Nat) (h : peakI f n = q) (hl : f q < f n) : peakI f (n + 1) = (n : Int) := by
  simp only [peakI]; rw [if_pos]; right; rw [h]; exact hl
theorem peakI_old (f : Nat → Int) (n q : Nat) (h : peakI f n = q) (hl : ¬ f q < f n) : peakI f (n + 1) = (q : Int) := by
  simp only [peakI]; rw [if_neg, h]; intro e; rw [h] at e
  rcases e with e | e
  · omega
  · exact hl e
theorem peakI_one (f : Nat → Int) : peakI f 1 = (0 : Nat) := by simp [peakI]
def peakAns (a b : ByteArray) : Int := peakI (tabF a b) (tabN a b)
end Go.Proofs.Ytmlmpekhcnjehaa
namespace Go.Proofs.Ytmlmpekhcnjehaa
open Go.RowKit
set_option linter.unusedVariables false
theorem peakI_top (f : Nat → Int) : ∀ n q : Nat, peakI f n = q → (∀ i, i < n → f i ≤ f q) ∧ (∀ i, i < q → f i < f q)
  | 0, q, h => by have : peakI f 0 = -1 := rfl; omega
  | n + 1, q, h => by
    have hb := peakI_bd f n
    simp only [peakI] at h
    split at h
    · rename_i hc
      obtain rfl : q = n := by omega
      by_cases h0 : q = 0
      · subst h0
        exact ⟨fun i hi => by obtain rfl : i = 0 := by omega
                              exact Int.le_refl _, fun i hi => by omega⟩
      · obtain ⟨p, hp⟩ : ∃ p : Nat, peakI f q = p := ⟨(peakI f q).toNat, by omega⟩
        have ih := peakI_top f q p hp
        have hlt : f p < f q := by
          rcases hc with hc | hc
          · omega
          · rw [hp] at hc; exact hc
        refine ⟨fun i hi => ?_, fun i hi => ?_⟩
        · by_cases e : i = q
          · rw [e]; exact Int.le_refl _
          · have := ih.1 i (by omega); omega
        · have := ih.1 i hi; omega
    · rename_i hc
      have ih := peakI_top f n q h
      have hn : ¬ f q < f n := fun e => hc (.inr (by rw [h]; exact e))
      refine ⟨fun i hi => ?_, ih.2⟩
      by_cases e : i = n
      · rw [e]; omega
      · exact ih.1 i (by omega)
theorem peak_first (f : Nat → Int) (n k : Nat) (hk : k < n) (h1 : ∀ i, i < n → f i ≤ f k) (h2 : ∀ i, i < k → f i < f k) : peakI f n = (k : Int) := by
  have hb := peakI_bd f n
  obtain ⟨q, hq⟩ : ∃ q : Nat, peakI f n = q := ⟨(peakI f n).toNat, by omega⟩
  have ht := peakI_top f n q hq
  have hqn : q < n := by omega
  rcases Nat.lt_trichotomy q k with h | h | h
  · have := h2 q h; have := ht.1 k hk; omega
  · rw [hq, h]
  · have := ht.2 k h; have := h1 q hqn; omega
theorem cross_le (a b : ByteArray) (k : Nat) : crossN a b k ≤ a.size := (crossN_bd a b k).2
theorem peak_own (a : ByteArray) (h : seqB a = true) : peakAns a a = 0 := by
  have h12 := size_le h
  unfold peakAns
  rw [show tabN a a = a.size by unfold tabN; rw [pairB_mk h h rfl]; rfl]
  have h0 : tabF a a 0 = a.size := (cross_full a a 0).2 fun i hi => by unfold shB; rw [Nat.zero_add, Nat.mod_eq_of_lt hi]
  exact peak_first _ _ 0 (by omega) (fun i _ => by rw [h0]; exact cross_le a a i) (fun i hi => by omega)
theorem mod_turn (P s : Nat) (hP : 0 < P) : ((P - s % P) % P + s) % P = 0 ∧ ∀ i, i < (P - s % P) % P → (i + s) % P ≠ 0 := by
  have hl := Nat.mod_lt s hP
  have hs := Nat.div_add_mod s P
  by_cases h0 : s % P = 0
  · rw [h0, Nat.sub_zero, Nat.mod_self]
    exact ⟨by rw [Nat.zero_add]; exact h0, fun i hi => by omega⟩
  · have e : (P - s % P) % P = P - s % P := Nat.mod_eq_of_lt (by omega)
    rw [e]
    refine ⟨?_, fun i hi => ?_⟩
    · rw [show P - s % P + s = P * (s / P + 1) by rw [Nat.mul_add, Nat.mul_one]; omega]
      exact Nat.mul_mod_right _ _
    · rw [show i + s = (i + s % P) + P * (s / P) by omega, Nat.add_mul_mod_self_left, Nat.mod_eq_of_lt (by omega)]
      omega
theorem peak_shift (a : ByteArray) (s : Nat) (h : seqB a = true) : peakAns a (shift a (s : Int)) = (((leastP a - s % leastP a) % leastP a : Nat) : Int) := by
  have h12 := size_le h
  have hb := leastP_bd a h12.1
  have hiff := per_iff a h12.1
  unfold peakAns
  rw [show tabN a (shift a (s : Int)) = a.size by unfold tabN; rw [pairB_mk h (seqB_shift _ h) (shift_size _ _).symm]; rfl]
  have hf : ∀ i, i < a.size → tabF a (shift a (s : Int)) i = crossN a a (modN ((i : Int) + (s : Int)) a.size) := fun i hi => by
    have e := cross_second a a (i : Int) (s : Int) rfl (by omega)
    rw [shift_size, modN_of_nat, Nat.mod_eq_of_lt hi] at e
    exact e
  have hfull : ∀ i, i < a.size → (tabF a (shift a (s : Int)) i = a.size ↔ (i + s) % leastP a = 0) := fun i hi => by
    rw [hf i hi, auto_full, show (i : Int) + (s : Int) = ((i + s : Nat) : Int) by omega, hiff]
  obtain ⟨m1, m2⟩ := mod_turn (leastP a) s (by omega)
  have hk : (leastP a - s % leastP a) % leastP a < a.size := Nat.lt_of_lt_of_le (Nat.mod_lt _ (by omega)) hb.2
  have hk0 := (hfull _ hk).2 m1
  refine peak_first _ _ _ hk (fun i hi => by rw [hk0]; exact cross_le _ _ _) (fun i hi => ?_)
  rw [hk0]
  have hle : tabF a (shift a (s : Int)) i ≤ a.size := cross_le _ _ _
  have hne : ¬ tabF a (shift a (s : Int)) i = a.size := fun e => m2 i hi ((hfull i (by omega)).1 e)
  omega
theorem sumI_bd2 {f : Nat → Int} {M : Int} (hM : 0 ≤ M) (hf : ∀ i, -M ≤ f i ∧ f i ≤ M) : ∀ n : Nat, -(M * n) ≤ sumI f n ∧ sumI f n ≤ M * n
  | 0 => by simp [sumI]
  | n + 1 => by
    have := sumI_bd2 hM hf n
    have := hf n
    simp only [sumI]
    rw [show ((n + 1 : Nat) : Int) = (n : Int) + 1 by omega, Int.mul_add, Int.mul_one]
    omega
end Go.Proofs.Ytmlmpekhcnjehaa
