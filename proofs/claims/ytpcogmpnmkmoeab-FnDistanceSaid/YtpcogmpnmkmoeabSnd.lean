/- Users that are valid, their signals, SendAll: both sides. -/
import Derived.Test.YtpcogmpnmkmoeabUsrs2
import Derived.Test.YtpcogmpnmkmoeabSig11
import Derived.Test.YtpcogmpnmkmoeabSig12
import Derived.Test.YtpcogmpnmkmoeabSsUser
import Derived.Deep.RegionHeld3
namespace Go.Proofs.Ytpcogmpnmkmoeab
open Go.RowKit
set_option linter.unusedVariables false
set_option maxRecDepth 100000
def Usr.ok (u : Usr) : Bool := usrB u.code u.data u.gain u.delay
def okN (f : Nat → Usr) : Nat → Bool
  | 0 => true
  | k + 1 => okN f k && (f k).ok
def usrsB (n : Nat) (f : Nat → Usr) : Bool := okN f n && decide (n ≤ 8)
theorem okN_bad {f : Nat → Usr} {k : Nat} (h : (f k).ok = false) : ∀ n, k < n → okN f n = false
  | 0, hk => absurd hk (Nat.not_lt_zero k)
  | n + 1, hk => by
    simp only [okN]
    by_cases e : k = n
    · rw [← e, h, Bool.and_false]
    · rw [okN_bad h n (by omega)]; rfl
theorem okN_at {f : Nat → Usr} {k : Nat} : ∀ n, okN f n = true → k < n → (f k).ok = true
  | 0, _, hk => absurd hk (Nat.not_lt_zero k)
  | n + 1, h, hk => by
    simp only [okN, Bool.and_eq_true] at h
    by_cases e : k = n
    · rw [e]; exact h.2
    · exact okN_at n h.1 (by omega)
theorem usrs_long {n : Nat} {f : Nat → Usr} (h : ¬ n ≤ 8) : false = usrsB n f := by unfold usrsB; rw [decide_eq_false h, Bool.and_false]
theorem usrs_bad {n k : Nat} {f : Nat → Usr} (hk : k < n) (h : (f k).ok = false) : false = usrsB n f := by unfold usrsB; rw [okN_bad h n hk]; rfl
theorem usrs_all {n : Nat} {f : Nat → Usr} (h : okN f n = true) : decide (n ≤ 8) = usrsB n f := by unfold usrsB; rw [h]; rfl
/-- Texts that are not too long. -/
def UsrSz (n : Nat) (f : Nat → Usr) : Prop := ∀ i, i < n → (f i).code.size ≤ 1048576 ∧ (f i).data.size ≤ 1048576
/-- The signal of a user: its length and its samples. -/
def Usr.len (u : Usr) : Nat := u.delay.toNat + u.data.size * u.code.size
def Usr.sig (u : Usr) : Nat → Int := dlF u.delay.toNat (scF u.gain (spF u.data u.code u.code.size))
theorem sp_bd {p q : ByteArray} (hp : okB p p.size = true) (hq : okB q q.size = true) (t : Nat) (ht : t < p.size * q.size) : -1 ≤ spF p q q.size t ∧ spF p q q.size t ≤ 1 := by
  have hL : 0 < q.size := by
    rcases Nat.eq_zero_or_pos q.size with e | e
    · rw [e, Nat.mul_zero] at ht; omega
    · exact e
  have h1 : t / q.size < p.size := by rw [Nat.div_lt_iff_lt_mul hL]; exact ht
  have h2 : t % q.size < q.size := Nat.mod_lt _ hL
  exact sgn_bd (chF_bd hp h1) (chF_bd hq h2)
theorem gain_bd {g y : Int} (h0 : 0 ≤ g) (h1 : g ≤ 1000) (hy : -1 ≤ y ∧ y ≤ 1) : -1000 ≤ g * y ∧ g * y ≤ 1000 := by
  rcases (show y = -1 ∨ y = 0 ∨ y = 1 by omega) with rfl | rfl | rfl <;> omega
theorem usr_parts {c p : ByteArray} {g d : Int} (h : usrB c p g d = true) : p.size * c.size ≤ 3000 ∧ sigB (p.size * c.size) (spF p c c.size) = true ∧ sigB (p.size * c.size) (scF g (spF p c c.size)) = true ∧
    d.toNat + p.size * c.size ≤ 3000 ∧ sigB (d.toNat + p.size * c.size) (dlF d.toNat (scF g (spF p c c.size))) = true ∧ ∀ j, -1000 ≤ smp (d.toNat + p.size * c.size) (dlF d.toNat (scF g (spF p c c.size))) j ∧ smp (d.toNat + p.size * c.size) (dlF d.toNat (scF g (spF p c c.size))) j ≤ 1000 := by
  obtain ⟨h1, h2, ⟨g0, g1, d0, d1⟩, h3⟩ := (usrB_iff _ _ _ _).1 h
  obtain ⟨c1, c2, c3⟩ := (seqB_iff c).1 h1
  obtain ⟨p1, p2⟩ := (bits_iff p).1 h2
  have hP : ((p.size * c.size : Nat) : Int) = (p.size : Int) * (c.size : Int) := Int.natCast_mul _ _
  obtain ⟨P, hPP⟩ : ∃ P, p.size * c.size = P := ⟨_, rfl⟩
  have hb := fun t (ht : t < P) => sp_bd p1 c1 t (by rw [hPP]; exact ht)
  have hs := fun t (ht : t < P) => gain_bd g0 g1 (hb t ht)
  rw [hPP] at hP ⊢
  have hk : d.toNat + P ≤ 3000 := by omega
  refine ⟨by omega, (sigB_iff _ _).2 ⟨allM_of fun t ht => by have := hb t ht; omega, by omega⟩, (sigB_iff _ _).2 ⟨allM_of fun t ht => by have := hs t ht; unfold scF; omega, by omega⟩, hk,
    (sigB_iff _ _).2 ⟨allM_of fun t ht => ?_, hk⟩, fun j => ?_⟩
  · unfold dlF
    split
    · omega
    · have := hs (t - d.toNat) (by omega); unfold scF; omega
  · unfold smp
    split
    · unfold dlF
      split
      · omega
      · exact hs (j - d.toNat) (by omega)
    · omega
/-- Behind its end a sum is 0. -/
theorem smF_out {ns : Nat → Nat} {fs : Nat → Nat → Int} {j : Nat} : ∀ N, mxN ns N ≤ j → smF ns fs N j = 0
  | 0, _ => rfl
  | N + 1, h => by
    simp only [mxN] at h
    rw [smF_succ, smF_out N (by omega)]
    unfold smp
    rw [if_neg (by omega)]; rfl
theorem smF_smp (ns : Nat → Nat) (fs : Nat → Nat → Int) (N j : Nat) : smp (mxN ns N) (smF ns fs N) j = smF ns fs N j := by
  unfold smp
  by_cases h : j < mxN ns N
  · rw [if_pos h]
  · rw [if_neg h, smF_out N (by omega)]
theorem smF_step (ns : Nat → Nat) (fs : Nat → Nat → Int) (N : Nat) : agF (mxN ns N) (smF ns fs N) (ns N) (fs N) = smF ns fs (N + 1) := by
  funext j
  unfold agF
  rw [smF_smp, smF_succ]
theorem smF_k {ns : Nat → Nat} {fs : Nat → Nat → Int} (j : Nat) : ∀ N : Nat, (∀ i, i < N → -1000 ≤ smp (ns i) (fs i) j ∧ smp (ns i) (fs i) j ≤ 1000) → -(1000 * (N : Int)) ≤ smF ns fs N j ∧ smF ns fs N j ≤ 1000 * (N : Int)
  | 0, _ => ⟨Int.le_refl _, Int.le_refl _⟩
  | N + 1, h => by
    have h1 := smF_k (ns := ns) (fs := fs) j N (fun i hi => h i (by omega))
    have h2 := h N (by omega)
    rw [smF_succ]
    omega
/-- The lengths and the samples of users' signals. -/
def usN (f : Nat → Usr) (i : Nat) : Nat := (f i).len
def usF (f : Nat → Usr) (i : Nat) : Nat → Int := (f i).sig
theorem us_bd {f : Nat → Usr} {i : Nat} (h : (f i).ok = true) : usN f i ≤ 3000 ∧ sigB (usN f i) (usF f i) = true ∧ ∀ j, -1000 ≤ smp (usN f i) (usF f i) j ∧ smp (usN f i) (usF f i) j ≤ 1000 := by
  obtain ⟨_, _, _, q4, q5, q6⟩ := usr_parts h
  exact ⟨q4, q5, q6⟩
theorem us_sum {f : Nat → Usr} {n : Nat} (h : okN f n = true) (h8 : n ≤ 8) : mxN (usN f) n ≤ 3000 ∧ sigB (mxN (usN f) n) (smF (usN f) (usF f) n) = true := by
  have h3 := mxN_le (ns := usN f) (M := 3000) n (fun i hi => (us_bd (okN_at n h hi)).1)
  refine ⟨h3, (sigB_iff _ _).2 ⟨allM_of fun j hj => ?_, h3⟩⟩
  have := smF_k (ns := usN f) (fs := usF f) j n (fun i hi => (us_bd (okN_at n h hi)).2.2 j)
  omega
end Go.Proofs.Ytpcogmpnmkmoeab
