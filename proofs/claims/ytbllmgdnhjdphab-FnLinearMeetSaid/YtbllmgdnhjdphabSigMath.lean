/- Mathematics of signals. -/
import Derived.Test.YtbllmgdnhjdphabSig12
import Derived.Test.YtbllmgdnhjdphabSig7
namespace Go.Proofs.Ytbllmgdnhjdphab
open Go.RowKit
set_option linter.unusedVariables false
theorem sg_back (z : ByteArray) (h : okB z z.size = true) : sgS z.size (chF z) = z := by
  apply ba_ext (sgS_size _ _)
  intro i hi
  rw [sgS_size] at hi
  rw [zb_sgS hi]
  unfold sgF chF
  rcases okB_zb z h i hi with e | e <;> rw [e] <;> decide
theorem en_chips (z : ByteArray) (h : okB z z.size = true) : enF (chF z) z.size = (z.size : Int) := by
  have key : ∀ k, k ≤ z.size → enF (chF z) k = (k : Int) := by
    intro k
    induction k with
    | zero => intro _; rfl
    | succ k ih =>
      intro hk
      rw [enF_succ, ih (by omega)]
      rcases chF_bd h (show k < z.size by omega) with e | e <;> rw [e] <;> omega
  exact key _ (Nat.le_refl _)
theorem sg_scale (n : Nat) (f : Nat → Int) (g : Int) (hg : 0 < g) : sgS n (scF g f) = sgS n f := by
  unfold sgS
  apply strF_congr
  intro i hi
  have e : scF g f i < 0 ↔ f i < 0 := by
    unfold scF
    constructor
    · intro h
      by_cases h' : f i < 0
      · exact h'
      · have := Int.mul_nonneg (show (0 : Int) ≤ g by omega) (show (0 : Int) ≤ f i by omega); omega
    · intro h
      exact Int.mul_neg_of_pos_of_neg hg h
  unfold sgF
  by_cases h : f i < 0
  · rw [if_pos h, if_pos (e.2 h)]
  · rw [if_neg h, if_neg (fun x => h (e.1 x))]
theorem sg_clip (n : Nat) (f : Nat → Int) (l : Int) (hl : 0 < l) : sgS n (clF l f) = sgS n f := by
  unfold sgS
  apply strF_congr
  intro i hi
  have e : clF l f i < 0 ↔ f i < 0 := by unfold clF; omega
  unfold sgF
  by_cases h : f i < 0
  · rw [if_pos h, if_pos (e.2 h)]
  · rw [if_neg h, if_neg (fun x => h (e.1 x))]
theorem cl_sig {n : Nat} {f : Nat → Int} {l : Int} (h : sigB n f = true) (h1 : 0 ≤ l) (h2 : l ≤ 1000000) : sigB n (clF l f) = true :=
  (sigB_iff _ _).2 ⟨allM_of fun i hi => by unfold clF; omega, ((sigB_iff _ _).1 h).2⟩
theorem cl_cl (f : Nat → Int) (l : Int) (h1 : 0 ≤ l) : clF l (clF l f) = clF l f := by
  funext i
  unfold clF
  omega
theorem cl_small (f : Nat → Int) (l : Int) (i : Nat) (h1 : f i ≤ l) (h2 : -l ≤ f i) : clF l f i = f i := by unfold clF; omega
theorem cl_hi (f : Nat → Int) (l : Int) (i : Nat) (h0 : 0 ≤ l) (h1 : l < f i) : clF l f i = l := by unfold clF; omega
theorem cl_lo (f : Nat → Int) (l : Int) (i : Nat) (h0 : 0 ≤ l) (h1 : f i < -l) : clF l f i = -l := by unfold clF; omega
theorem en_scale (f : Nat → Int) (g : Int) : ∀ n, enF (scF g f) n = g * g * enF f n
  | 0 => by simp [enF, sumI]
  | n + 1 => by
    rw [enF_succ, enF_succ, en_scale f g n, Int.mul_add]
    unfold scF
    rw [show g * f n * (g * f n) = g * g * (f n * f n) by rw [Int.mul_assoc, Int.mul_assoc, Int.mul_left_comm (f n) g (f n)]]
theorem sc_sc (f : Nat → Int) (k m : Int) : scF m (scF k f) = scF (k * m) f := by
  funext i
  unfold scF
  rw [← Int.mul_assoc, Int.mul_comm m k]
theorem ag_comm (n : Nat) (f : Nat → Int) (m : Nat) (g : Nat → Int) : agF m g n f = agF n f m g := by
  funext j
  unfold agF
  omega
theorem sc_neg {n : Nat} {f : Nat → Int} (h : sigB n f = true) : sigB n (scF (-1) f) = true := by
  obtain ⟨h1, h2⟩ := (sigB_iff _ _).1 h
  exact (sigB_iff _ _).2 ⟨allM_of fun i hi => by have := allM_at h1 hi; unfold scF; omega, h2⟩
theorem ag_back (n : Nat) (f : Nat → Int) (m : Nat) (g : Nat → Int) (j : Nat) : agF (max n m) (agF n f m g) m (scF (-1) g) j = smp n f j := by
  have e1 : smp m (scF (-1) g) j = - smp m g j := by
    unfold smp scF
    split <;> omega
  unfold agF at *
  rw [e1]
  have e2 : smp (max n m) (fun j => smp n f j + smp m g j) j = smp n f j + smp m g j := by
    show (if j < max n m then smp n f j + smp m g j else 0) = _
    by_cases h : j < max n m
    · rw [if_pos h]
    · rw [if_neg h]
      have e3 : smp n f j = 0 := by unfold smp; rw [if_neg (by omega)]
      have e4 : smp m g j = 0 := by unfold smp; rw [if_neg (by omega)]
      omega
  have e5 : smp (max n m) (agF n f m g) j = smp n f j + smp m g j := e2
  omega
theorem ag_sig {n : Nat} {f : Nat → Int} {m : Nat} {g : Nat → Int} (h1 : sigB n f = true) (h2 : sigB m g = true) : sigB (max n m) (agF (max n m) (agF n f m g) m (scF (-1) g)) = true := by
  obtain ⟨a1, a2⟩ := (sigB_iff _ _).1 h1
  obtain ⟨b1, b2⟩ := (sigB_iff _ _).1 h2
  exact (sigB_iff _ _).2 ⟨allM_of fun i hi => by rw [ag_back]; exact smp_bd a1 i, by omega⟩
theorem dl_cut (k : Nat) (f : Nat → Int) : cutF k (dlF k f) = f := by
  funext i
  unfold cutF dlF
  rw [if_neg (by omega), show k + i - k = i by omega]
theorem dl_head (k : Nat) (f : Nat → Int) : ∀ m, m ≤ k → enF (cutF 0 (dlF k f)) m = 0
  | 0, _ => rfl
  | m + 1, h => by
    rw [enF_succ, dl_head k f m (by omega)]
    have : cutF 0 (dlF k f) m = 0 := by unfold cutF dlF; rw [if_pos (by omega)]
    rw [this]; rfl
theorem en_dl (k : Nat) (f : Nat → Int) : ∀ n, enF (dlF k f) (k + n) = enF f n
  | 0 => by
    have key : ∀ m, m ≤ k → enF (dlF k f) m = 0 := by
      intro m
      induction m with
      | zero => intro _; rfl
      | succ m ih =>
        intro h
        rw [enF_succ, ih (by omega)]
        have : dlF k f m = 0 := by unfold dlF; rw [if_pos (by omega)]
        rw [this]; rfl
    exact key k (Nat.le_refl _)
  | n + 1 => by
    rw [show k + (n + 1) = (k + n) + 1 by omega, enF_succ, enF_succ, en_dl k f n]
    have : dlF k f (k + n) = f n := by unfold dlF; rw [if_neg (by omega), show k + n - k = n by omega]
    rw [this]
theorem ct_sig {n : Nat} {f : Nat → Int} (h : sigB n f = true) (k m : Nat) (hm : k + m ≤ n) : sigB m (cutF k f) = true := by
  obtain ⟨a1, a2⟩ := (sigB_iff _ _).1 h
  exact (sigB_iff _ _).2 ⟨allM_of fun i hi => (show -1000000 ≤ f (k + i) ∧ f (k + i) ≤ 1000000 from allM_at a1 (by omega)), by omega⟩
theorem IntsR.cells {w : World} {a : Option Addr} {n cap : Nat} {f : Nat → Int} (h : IntsR w (.slice a n cap) n f) : ∀ i, i < n → ∃ x : Addr, a = some x ∧ x.block < w.heap.size ∧ w.cell? (x.add i) = some (.int .i64 (f i)) := by
  obtain ⟨a', cap', e, hc⟩ := h
  injection e with e1 _ _
  subst e1
  exact hc
theorem ct_all (f : Nat → Int) (K M R j : Nat) (hj : j < K + M + R) : (if j < K + M then (if j < K then f (0 + j) else f (K + (j - K))) else f (K + M + (j - (K + M)))) = f j := by
  by_cases h1 : j < K
  · rw [if_pos (by omega), if_pos h1, Nat.zero_add]
  · by_cases h2 : j < K + M
    · rw [if_pos h2, if_neg h1, show K + (j - K) = j by omega]
    · rw [if_neg h2, show K + M + (j - (K + M)) = j by omega]
theorem mul3_hi {k M : Int} (k1 : -1000000 ≤ k) (k2 : k ≤ 1000000) (m1 : -3 ≤ M) (m2 : M ≤ 3) : k * M ≤ 3000000 := by
  rcases (show M = -3 ∨ M = -2 ∨ M = -1 ∨ M = 0 ∨ M = 1 ∨ M = 2 ∨ M = 3 by omega) with rfl | rfl | rfl | rfl | rfl | rfl | rfl <;> omega
theorem mul3_lo {k M : Int} (k1 : -1000000 ≤ k) (k2 : k ≤ 1000000) (m1 : -3 ≤ M) (m2 : M ≤ 3) : -3000000 ≤ k * M := by
  rcases (show M = -3 ∨ M = -2 ∨ M = -1 ∨ M = 0 ∨ M = 1 ∨ M = 2 ∨ M = 3 by omega) with rfl | rfl | rfl | rfl | rfl | rfl | rfl <;> omega
end Go.Proofs.Ytbllmgdnhjdphab
