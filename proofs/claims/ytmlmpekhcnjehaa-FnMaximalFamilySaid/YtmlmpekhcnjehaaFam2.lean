/- Contracts of FirstBarker, of both sides: binary digits as a text. -/
import Derived.Test.YtmlmpekhcnjehaaFam1
import Derived.Test.YtmlmpekhcnjehaaFirstN
namespace Go.Proofs.Ytmlmpekhcnjehaa
open Go.RowKit
set_option linter.unusedVariables false
theorem tw_60 (s : Nat) (h : s ≤ 60) : tw s ≤ 1152921504606846976 := Nat.pow_le_pow_right (n := 2) (by omega) h
theorem wrap_tw60 (s : Nat) (h : s ≤ 60) : wrap64 ((2 : Int) ^ s) = ((tw s : Nat) : Int) := by
  rw [int_tw]
  have := tw_60 s h
  exact IntWalk.wrap64_in _ (by omega)
set_option maxRecDepth 100000 in
theorem l1Two_big (s : Nat) (w : World) (h : s ≤ 60) :
    Calls Try.prog 58 #[.int .i64 s] w fun e w' => e = .returned (.int .i64 (tw s : Nat)) ∧ w = w' := by
  go_enter Try.func58, Try.ntmps58
  go_wp2
  go_ret
  exact ⟨ret_int (wrap_tw60 s h), rfl⟩
theorem strF_snoc (n : Nat) (f : Nat → Nat) (d : Nat) (hd : d = f n) (hf : ∀ i, f i < 256) : strF n f ++ strF 1 (fun _ => d) = strF (n + 1) f := by
  subst hd
  apply strF_of
  · rw [ByteArray.size_append, strF_size, strF_size]
  · intro i hi
    by_cases h : i < n
    · rw [zb_append_left _ _ _ (by rw [strF_size]; exact h), zb_strF h (hf _)]
    · obtain rfl : i = n := by omega
      have e1 := zb_strF (n := 1) (f := fun _ => f i) (i := i - i) (by omega) (hf i)
      rw [zb_append_right _ _ _ (by rw [strF_size]; exact Nat.le_refl _) (by rw [strF_size, strF_size]; omega), strF_size, e1]
theorem app_empty (z : ByteArray) : z ++ (⟨#[]⟩ : ByteArray) = z := by
  apply ba_ext
  · rw [ByteArray.size_append]; rfl
  · intro i hi
    rw [ByteArray.size_append] at hi
    exact zb_append_left _ _ _ (by have : (⟨#[]⟩ : ByteArray).size = 0 := rfl; omega)
/-- The binary digits of a number, the highest one first. -/
def digF (n c : Nat) (i : Nat) : Nat := 48 + n / tw (c - 1 - i) % 2
def digS (n c : Nat) : ByteArray := strF c (digF n c)
theorem digF_lt (n c i : Nat) : digF n c i < 256 := by unfold digF; omega
theorem digS_size (n c : Nat) : (digS n c).size = c := strF_size _ _
/-- The first Barker code of a length. -/
def barkP (c : Nat) (i : Nat) : Bool := barkB (digS i c)
def firstBark (N : Int) : ByteArray × Bool :=
  if 1 ≤ N ∧ N ≤ 13 then (if firstN (barkP N.toNat) (tw N.toNat) < tw N.toNat then (digS (firstN (barkP N.toNat) (tw N.toNat)) N.toNat, true) else noS) else noS
theorem firstBark_no {N : Int} (h : ¬ (1 ≤ N ∧ N ≤ 13)) : firstBark N = noS := by unfold firstBark; rw [if_neg h]
theorem firstBark_hit {c k : Nat} (h1 : 1 ≤ c) (h2 : c ≤ 13) (hk : k < tw c) (h : firstN (barkP c) k = k) (hp : barkP c k = true) : firstBark (c : Int) = (digS k c, true) := by
  unfold firstBark
  rw [if_pos (by omega), Int.toNat_natCast, firstN_hit h hp (tw c) hk, if_pos hk]
theorem firstBark_none {c : Nat} (h : firstN (barkP c) (tw c) = tw c) : firstBark (c : Int) = noS := by
  unfold firstBark
  rw [Int.toNat_natCast, h, if_neg (Nat.lt_irrefl _)]
  split <;> rfl
theorem ret_sAns {A : ByteArray × Bool} {x : ByteArray} {c : Bool} (h : A = (x, c)) : Ending.returned (.tuple #[.string x, .bool c]) = .returned (.tuple #[.string A.1, .bool A.2]) := by rw [h]
theorem sdig_value (x d : Nat) (hx : x ≤ 8192) (hd : d ≤ 13) : ∃ D B : Nat, IntKind.i64.wrap ((x : Int) / ((tw d : Nat) : Int)) = (D : Int) ∧ (D : Int) % 2 = (B : Int) ∧ B < 2 ∧ 48 + x / tw d % 2 = 48 + B := by
  have h3 := Nat.div_le_self x (tw d)
  refine ⟨x / tw d, x / tw d % 2, ?_, (Int.natCast_emod _ 2).symm, by omega, rfl⟩
  rw [← Int.natCast_ediv]
  obtain ⟨D, hD⟩ : ∃ D, x / tw d = D := ⟨_, rfl⟩
  rw [hD] at h3 ⊢
  exact IntWalk.i64_in _ (by omega)
end Go.Proofs.Ytmlmpekhcnjehaa
