/- Pilots and their scores: periods, sums, scales and turns. -/
import Derived.Test.YtagdfohjhokgiaaPilMath
import Derived.Test.YtagdfohjhokgiaaSig12
namespace Go.Proofs.Ytagdfohjhokgiaa
open Go.RowKit
set_option linter.unusedVariables false
theorem sumI_splitP (f : Nat → Int) (a : Nat) : ∀ b, sumI f (a + b) = sumI f a + sumI (fun i => f (a + i)) b
  | 0 => by simp [sumI]
  | b + 1 => by rw [← Nat.add_assoc]; simp only [sumI]; rw [sumI_splitP f a b]; omega
theorem sumI_rotP (f : Nat → Int) (c n : Nat) (hc : c < n) : sumI (fun i => f ((c + i) % n)) n = sumI f n := by
  obtain ⟨d, rfl⟩ : ∃ d, n = d + c := ⟨n - c, by omega⟩
  rw [sumI_splitP _ d c]
  rw [show d + c = c + d from Nat.add_comm _ _, sumI_splitP f c d, Int.add_comm]
  congr 1
  · refine sumI_congr _ fun i hi => ?_
    have : (c + (d + i)) % (c + d) = i := by rw [show c + (d + i) = i + (c + d) by omega, Nat.add_mod_right, Nat.mod_eq_of_lt (by omega)]
    rw [this]
  · exact sumI_congr _ fun i hi => by rw [Nat.mod_eq_of_lt (by omega)]
theorem sumI_mulP (c : Int) (f : Nat → Int) : ∀ n, sumI (fun i => c * f i) n = c * sumI f n
  | 0 => by simp [sumI]
  | n + 1 => by simp only [sumI]; rw [sumI_mulP c f n, Int.mul_add]
theorem sumI_addP (f g : Nat → Int) : ∀ n, sumI (fun i => f i + g i) n = sumI f n + sumI g n
  | 0 => by simp [sumI]
  | n + 1 => by simp only [sumI]; rw [sumI_addP f g n]; omega
theorem sumI_zerosP {f : Nat → Int} : ∀ n, (∀ i, i < n → f i = 0) → sumI f n = 0
  | 0, _ => rfl
  | n + 1, h => by rw [sumI, sumI_zerosP n (fun i hi => h i (by omega)), h n (by omega)]; rfl
theorem ag_smpP (n : Nat) (f : Nat → Int) (m : Nat) (g : Nat → Int) (j : Nat) : smp (max n m) (agF n f m g) j = smp n f j + smp m g j := by
  show (if j < max n m then smp n f j + smp m g j else 0) = _
  by_cases h : j < max n m
  · rw [if_pos h]
  · rw [if_neg h]
    have e3 : smp n f j = 0 := by unfold smp; rw [if_neg (by omega)]
    have e4 : smp m g j = 0 := by unfold smp; rw [if_neg (by omega)]
    omega
theorem IntsR.cellsP {w : World} {a : Option Addr} {n cap : Nat} {f : Nat → Int} (h : IntsR w (.slice a n cap) n f) : ∀ i, i < n → ∃ x : Addr, a = some x ∧ x.block < w.heap.size ∧ w.cell? (x.add i) = some (.int .i64 (f i)) := by
  obtain ⟨a', cap', e, hc⟩ := h
  injection e with e1 _ _
  subst e1
  exact hc
theorem pl_per (c : ByteArray) (G P : Nat) (k : Int) (i : Nat) : plF c G P k (i + P) = plF c G P k i := by
  unfold plF
  rw [show ((i + P : Nat) : Int) - k = (i : Int) - k + (P : Int) * 1 by omega, modN_plus]
theorem pl_zero (c : ByteArray) (G P x : Nat) (h : 1 ≤ P) : plF c G P 0 (x % P) = plF c G P 0 x := by
  unfold plF
  rw [Int.sub_zero, Int.sub_zero, modN_of_nat, modN_of_nat, Nat.mod_mod]
theorem pl_first (c : ByteArray) (G P o i : Nat) (h : 1 ≤ P) (ho : o < P) : plF c G P 0 ((P - o + i) % P) = plF c G P (o : Int) i := by
  rw [pl_zero _ _ _ _ h]
  have := pl_back c G P (o : Int) i h
  rw [modN_id o P ho] at this
  exact this
theorem pl_sq {c : ByteArray} {G P : Nat} (h : okB c c.size = true) (hP : c.size * G = P) (h1 : 1 ≤ P) (a k : Int) (i : Nat) : (a * plF c G P k i) * (a * plF c G P k i) = a * a := by
  rcases pl_bd h hP h1 k i with e | e <;> rw [e]
  · rw [Int.mul_one]
  · rw [Int.mul_neg, Int.mul_one, Int.neg_mul_neg]
theorem sumI_ext (f g : Nat → Int) (a b : Nat) (hab : a ≤ b) (h1 : ∀ i, i < a → f i = g i) (h2 : ∀ i, a ≤ i → i < b → g i = 0) : sumI f a = sumI g b := by
  obtain ⟨d, rfl⟩ : ∃ d, b = a + d := ⟨b - a, by omega⟩
  rw [sumI_splitP, sumI_zerosP d (fun i hi => h2 (a + i) (by omega) (by omega)), Int.add_zero]
  exact sumI_congr _ h1
theorem scr_smp (n : Nat) (f : Nat → Int) (c : ByteArray) (G P : Nat) (k : Int) : scr n f c G P k = sumI (fun i => smp n f i * plF c G P k i) P := by
  unfold scr scT
  refine sumI_ext _ _ _ _ (Nat.min_le_left _ _) (fun i hi => ?_) (fun i h1 h2 => ?_)
  · unfold smp; rw [if_pos (by omega)]
  · show smp n f i * _ = 0
    unfold smp; rw [if_neg (by omega), Int.zero_mul]
theorem scr_add (n : Nat) (f : Nat → Int) (m : Nat) (g : Nat → Int) (c : ByteArray) (G P : Nat) (k : Int) : scr (max n m) (agF n f m g) c G P k = scr n f c G P k + scr m g c G P k := by
  rw [scr_smp, scr_smp, scr_smp, ← sumI_addP]
  exact sumI_congr _ (fun i _ => by rw [ag_smpP, Int.add_mul])
theorem scr_scale (n : Nat) (f : Nat → Int) (a : Int) (c : ByteArray) (G P : Nat) (k : Int) : scr n (scF a f) c G P k = a * scr n f c G P k := by
  unfold scr scT
  rw [← sumI_mulP]
  exact sumI_congr _ (fun i _ => by unfold scF; rw [Int.mul_assoc])
theorem scr_neg (n : Nat) (f : Nat → Int) (c : ByteArray) (G P : Nat) (k : Int) : scr n (scF (-1) f) c G P k = - scr n f c G P k := by rw [scr_scale]; omega
theorem pl_modi (c : ByteArray) (G P x : Nat) (e : Int) : plF c G P e (x % P) = plF c G P e x := by
  unfold plF
  have h : (x : Int) - e = (((x % P : Nat) : Int) - e) + (P : Int) * ((x / P : Nat) : Int) := by
    have := Nat.div_add_mod x P
    have h2 : ((P * (x / P) + x % P : Nat) : Int) = (x : Int) := by rw [this]
    rw [Int.natCast_add, Int.natCast_mul] at h2
    omega
  have h3 : modN ((x : Int) - e) P = modN (((x % P : Nat) : Int) - e) P := by
    refine Eq.trans (congrArg (fun z => modN z P) h) ?_
    exact modN_plus _ _ _
  rw [h3]
theorem pl_shift (c : ByteArray) (G P k j : Nat) (e : Int) (hk : k ≤ P) : plF c G P e (P - k + j) = plF c G P (e + (k : Int)) j := by
  unfold plF
  rw [show ((P - k + j : Nat) : Int) - e = (j : Int) - (e + (k : Int)) + (P : Int) * 1 by omega, modN_plus]
/-- The score of a pilot that begins later is that of the pilot that doesn't, at the offset before. -/
theorem scr_turn (c : ByteArray) (G P k i : Nat) (a : Int) (hk : k < P) : scr P (scF a (plF c G P (k : Int))) c G P (((i + k) % P : Nat) : Int) = scr P (scF a (plF c G P 0)) c G P (i : Int) := by
  have hP : 1 ≤ P := by omega
  unfold scr scT
  rw [Nat.min_self, ← sumI_rotP (fun j => scF a (plF c G P 0) j * plF c G P (i : Int) j) ((P - k) % P) P (Nat.mod_lt _ (by omega))]
  refine sumI_congr _ (fun j _ => ?_)
  show scF a (plF c G P (k : Int)) j * plF c G P (((i + k) % P : Nat) : Int) j = scF a (plF c G P 0) (((P - k) % P + j) % P) * plF c G P (i : Int) (((P - k) % P + j) % P)
  unfold scF
  rw [Nat.mod_add_mod, pl_modi, pl_modi, pl_shift _ _ _ _ _ _ (Nat.le_of_lt hk), pl_shift _ _ _ _ _ _ (Nat.le_of_lt hk), Int.zero_add,
    ← modN_of_nat, pl_mod _ _ _ _ hP, Int.natCast_add]
theorem amx_scale (f : Nat → Int) (a : Int) (ha : 0 < a) : ∀ n, amx (fun i => a * f i) n = amx f n
  | 0 => rfl
  | n + 1 => by
    have e : (a * f (amx f n) < a * f n) = (f (amx f n) < f n) := propext ⟨fun h => Int.lt_of_mul_lt_mul_left h (Int.le_of_lt ha), fun h => Int.mul_lt_mul_of_pos_left h ha⟩
    show (if a * f (amx (fun i => a * f i) n) < a * f n then n else amx (fun i => a * f i) n) = if f (amx f n) < f n then n else amx f n
    rw [amx_scale f a ha n]
    simp only [e]
theorem best_scale (n : Nat) (f : Nat → Int) (a : Int) (c : ByteArray) (g : Int) (m : Nat) (ha : 0 < a) : amx (stF n (scF a f) c g) m = amx (stF n f c g) m := by
  have : stF n (scF a f) c g = fun i => a * stF n f c g i := by funext i; unfold stF; rw [scr_scale]
  rw [this]
  exact amx_scale _ _ ha m
end Go.Proofs.Ytagdfohjhokgiaa
