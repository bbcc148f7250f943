/- Walsh codes: orthogonal, and closed under sums. -/
import Derived.Test.YtkkakfkebjdkeaaFamIdx
import Derived.Test.YtkkakfkebjdkeaaSeqFun
namespace Go.Proofs.Ytkkakfkebjdkeaa
open Go.RowKit
set_option linter.unusedVariables false
set_option maxRecDepth 100000
/-- At how many of the first places the digit 0 stands. -/
def wlC (j : Nat) : Nat → Nat
  | 0 => 0
  | v + 1 => wlC j v + (if walF j v = 0 then 1 else 0)
theorem wl_half : ∀ o, o < 7 → ∀ j, j < tw o → j ≠ 0 → wlC j (tw o) * 2 = tw o := by decide +kernel
theorem wl_full (n : Nat) : wlC 0 n = n := by
  induction n with
  | zero => rfl
  | succ n ih =>
    show wlC 0 n + _ = _
    rw [ih, if_pos (by unfold walF; rw [Nat.zero_and]; exact par_zero)]
theorem walF_xor (i k v : Nat) : walF (i ^^^ k) v = (walF i v + walF k v) % 2 := by
  unfold walF
  rw [Nat.and_xor_distrib_right, par_xor]
theorem agr_wal (i k v : Nat) : agr (48 + walF i v) (48 + walF k v) = 2 * ((if walF (i ^^^ k) v = 0 then 1 else 0 : Nat) : Int) - 1 := by
  have h1 := walF_lt i v
  have h2 := walF_lt k v
  rw [walF_xor]
  unfold agr
  by_cases h : walF i v = walF k v
  · rw [if_pos (by omega), if_pos (by omega)]; rfl
  · rw [if_neg (by omega), if_neg (by omega)]; rfl
theorem cross_sum0 (n i k : Nat) : ∀ m, m ≤ n → sumI (fun v => agr (zb (walshB n i) v) (shB (walshB n k) 0 v)) m = 2 * (wlC (i ^^^ k) m : Int) - (m : Int)
  | 0, _ => by simp [sumI, wlC]
  | m + 1, h => by
    show sumI (fun v => agr (zb (walshB n i) v) (shB (walshB n k) 0 v)) m + agr (zb (walshB n i) m) (shB (walshB n k) 0 m) = _
    have e : shB (walshB n k) 0 m = zb (walshB n k) m := by
      unfold shB
      rw [walshB_size, Nat.zero_add, Nat.mod_eq_of_lt (by omega)]
    rw [cross_sum0 n i k m (by omega), e, zb_walsh n i m (by omega), zb_walsh n k m (by omega), agr_wal]
    show _ = 2 * ((wlC (i ^^^ k) m + _ : Nat) : Int) - ((m + 1 : Nat) : Int)
    split <;> omega
theorem cross_wal {o i k : Nat} (ho : o ≤ 6) (hi : i < tw o) (hk : k < tw o) : crossN (walshB (tw o) i) (walshB (tw o) k) 0 = if i = k then ((tw o : Nat) : Int) else 0 := by
  unfold crossN
  rw [walshB_size, cross_sum0 _ _ _ _ (Nat.le_refl _)]
  by_cases h : i = k
  · subst h
    rw [if_pos rfl, Nat.xor_self, wl_full]; omega
  · have hx : i ^^^ k ≠ 0 := by
      intro e
      have e2 : i ^^^ k ^^^ k = i := by rw [Nat.xor_assoc, Nat.xor_self, Nat.xor_zero]
      rw [e, Nat.zero_xor] at e2
      exact h e2.symm
    have := wl_half o (by omega) (i ^^^ k) (Nat.xor_lt_two_pow hi hk) hx
    rw [if_neg h]; omega
theorem add_wal {n i k : Nat} : addS (walshB n i) (walshB n k) = walshB n (i ^^^ k) := by
  refine ba_ext (by rw [addS_size, walshB_size, walshB_size]) fun v hv => ?_
  rw [addS_size, walshB_size] at hv
  rw [zb_addS _ _ _ (by rw [walshB_size]; exact hv), zb_walsh n i v hv, zb_walsh n k v hv, zb_walsh n (i ^^^ k) v hv, walF_xor]
  have h1 := walF_lt i v
  have h2 := walF_lt k v
  unfold addB
  by_cases h : walF i v = walF k v
  · rw [if_pos (by omega)]; omega
  · rw [if_neg (by omega)]; omega
theorem walshB_okW (n i : Nat) : okB (walshB n i) (walshB n i).size = true := okB_of_zb _ fun k hk => by
  rw [walshB_size] at hk
  have := walF_lt i k
  rw [zb_walsh n i k hk]; omega
theorem walshB_sq {o : Nat} (i : Nat) (ho : o ≤ 6) : seqB (walshB (tw o) i) = true := (seqB_iff _).2 ⟨walshB_okW _ i, by rw [walshB_size]; exact tw_pos o, by rw [walshB_size]; have := tw_6 o ho; omega⟩
theorem wal_inj {o i k : Nat} (ho : o ≤ 6) (hi : i < tw o) (hk : k < tw o) (h : walshB (tw o) i = walshB (tw o) k) : i = k := by
  have h1 := cross_wal ho hi hk
  have h2 := cross_wal ho hi hi
  rw [← h, h2, if_pos rfl] at h1
  have := tw_pos o
  by_cases e : i = k
  · exact e
  · rw [if_neg e] at h1; omega
theorem idx_wal {o i : Nat} (ho : o ≤ 6) (hi : i < tw o) : idxAns (walshB (tw o) i) = ((i : Int), true) := by
  refine idx_hit (by rw [walshB_size]; exact tw_isT o ho) (by rw [walshB_size]; exact hi) ?_ ?_
  · have hz : ∀ k, k < i → idxP (walshB (tw o) i) k = false := fun k hk => by
      unfold idxP
      rw [walshB_size]
      exact decide_eq_false fun e => by have := wal_inj ho (by omega) hi e; omega
    have : ∀ n, n ≤ i → firstN (idxP (walshB (tw o) i)) n = n := by
      intro n
      induction n with
      | zero => intro _; rfl
      | succ n ih => intro hn; exact firstN_step (ih (by omega)) (hz n (by omega))
    exact this i (Nat.le_refl _)
  · unfold idxP
    rw [walshB_size]
    exact decide_eq_true rfl
end Go.Proofs.Ytkkakfkebjdkeaa
