/- The laws' own ssUser; correlations of spread data. -/
import Derived.Test.YtpcogmpnmkmoeabSig9
import Derived.Test.YtpcogmpnmkmoeabSig11
import Derived.Test.YtpcogmpnmkmoeabSigMath
namespace Go.Proofs.Ytpcogmpnmkmoeab
open Go.RowKit
set_option linter.unusedVariables false
set_option maxRecDepth 100000
theorem sumI_const (c : Int) : ∀ n : Nat, sumI (fun _ => c) n = c * (n : Int)
  | 0 => by simp [sumI]
  | n + 1 => by rw [sumI, sumI_const c n, Int.natCast_add, Int.mul_add]; omega
theorem chF_sq {q : ByteArray} (h : okB q q.size = true) {k : Nat} (hk : k < q.size) : chF q k * chF q k = 1 := by
  rcases chF_bd h hk with e | e <;> rw [e] <;> rfl
theorem co_spread (p q : ByteArray) (hq : okB q q.size = true) (i : Nat) (hi : i < p.size) : coL (p.size * q.size) (spF p q q.size) q 0 i = chF p i * (q.size : Int) := by
  unfold coL coF
  have h1 : (i + 1) * q.size ≤ p.size * q.size := Nat.mul_le_mul (by omega) (Nat.le_refl _)
  rw [Nat.add_mul, Nat.one_mul] at h1
  rw [show min q.size (p.size * q.size - (0 + i * q.size)) = q.size by omega]
  unfold coR
  rw [← sumI_const]
  refine sumI_congr _ fun k hk => ?_
  rw [Nat.zero_add, spF_at p q q.size i k hk, Int.mul_assoc, chF_sq hq hk, Int.mul_one]
theorem sp_sig {p q : ByteArray} (hp : okB p p.size = true) (hq : okB q q.size = true) (h : p.size * q.size ≤ 3000) : sigB (p.size * q.size) (spF p q q.size) = true := by
  refine (sigB_iff _ _).2 ⟨allM_of fun t ht => ?_, h⟩
  have hL : 0 < q.size := by
    rcases Nat.eq_zero_or_pos q.size with e | e
    · rw [e, Nat.mul_zero] at ht; omega
    · exact e
  have h1 : t / q.size < p.size := by rw [Nat.div_lt_iff_lt_mul hL]; exact ht
  have h2 : t % q.size < q.size := Nat.mod_lt _ hL
  have := sgn_bd (chF_bd hp h1) (chF_bd hq h2)
  unfold spF
  omega
theorem sg_spread (p q : ByteArray) (hp : okB p p.size = true) (hq : okB q q.size = true) (h1 : 1 ≤ q.size) : sgS p.size (coL (p.size * q.size) (spF p q q.size) q 0) = p := by
  rw [← sg_back p hp]
  rw [sgS_size]
  unfold sgS
  refine strF_congr fun i hi => ?_
  have e := co_spread p q hq i hi
  have e2 := sg_back p hp
  unfold sgF
  have hz : zb (strF p.size (sgF (chF p))) i = sgF (chF p) i := zb_strF hi (sgF_lt _ _)
  rcases chF_bd hp hi with c | c
  · rw [if_neg (by rw [show (strF p.size (fun i => if chF p i < 0 then 49 else 48)) = p from e2, e, c]; omega), if_neg (by rw [c]; decide)]
  · rw [if_pos (by rw [show (strF p.size (fun i => if chF p i < 0 then 49 else 48)) = p from e2, e, c]; omega), if_pos (by rw [c]; decide)]
end Go.Proofs.Ytpcogmpnmkmoeab
