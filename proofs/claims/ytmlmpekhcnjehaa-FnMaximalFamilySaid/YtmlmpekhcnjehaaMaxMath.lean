/- Plain mathematics: the states of a maximal register are all numbers but 0, each once. -/
import Derived.Test.YtmlmpekhcnjehaaOrbLaw
namespace Go.Proofs.Ytmlmpekhcnjehaa
set_option linter.unusedVariables false
def sumN (f : Nat → Nat) : Nat → Nat
  | 0 => 0
  | n + 1 => sumN f n + f n
theorem sumN_congr {f g : Nat → Nat} : ∀ n, (∀ i, i < n → f i = g i) → sumN f n = sumN g n
  | 0, _ => rfl
  | n + 1, h => by simp only [sumN]; rw [sumN_congr n (fun i hi => h i (by omega)), h n (by omega)]
theorem sumN_add (f g : Nat → Nat) : ∀ n, sumN (fun i => f i + g i) n = sumN f n + sumN g n
  | 0 => rfl
  | n + 1 => by simp only [sumN]; rw [sumN_add f g n]; omega
/-- How often a value is met. -/
def hits (g : Nat → Nat) (v : Nat) : Nat → Nat
  | 0 => 0
  | k + 1 => hits g v k + if g k = v then 1 else 0
theorem sum_one (F : Nat → Nat) (a : Nat) : ∀ n, sumN (fun v => (if a = v + 1 then 1 else 0) * F (v + 1)) n = if 1 ≤ a ∧ a ≤ n then F a else 0
  | 0 => by rw [if_neg (by omega)]; rfl
  | n + 1 => by
    simp only [sumN]
    rw [sum_one F a n]
    by_cases e : a = n + 1
    · rw [if_neg (by omega), if_pos e, if_pos (by omega), e]; omega
    · rw [if_neg e]
      by_cases h : 1 ≤ a ∧ a ≤ n
      · rw [if_pos h, if_pos (by omega)]; omega
      · rw [if_neg h, if_neg (by omega)]; omega
theorem sum_hits (g F : Nat → Nat) (n : Nat) : ∀ k, (∀ i, i < k → 1 ≤ g i ∧ g i ≤ n) → sumN (fun v => hits g (v + 1) k * F (v + 1)) n = sumN (fun i => F (g i)) k
  | 0, _ => by
    rw [sumN_congr (g := fun _ => 0) n (fun i _ => by simp [hits])]
    have : ∀ n, sumN (fun _ => 0) n = 0 := fun n => by induction n with
      | zero => rfl
      | succ n ih => simp [sumN, ih]
    exact this n
  | k + 1, h => by
    have ih := sum_hits g F n k (fun i hi => h i (by omega))
    simp only [sumN, hits]
    rw [sumN_congr (g := fun v => hits g (v + 1) k * F (v + 1) + (if g k = v + 1 then 1 else 0) * F (v + 1)) n (fun i _ => Nat.add_mul _ _ _), sumN_add, ih, sum_one, if_pos (h k (by omega))]
theorem hits_none {g : Nat → Nat} {v : Nat} : ∀ k, (∀ i, i < k → g i ≠ v) → hits g v k = 0
  | 0, _ => rfl
  | k + 1, h => by simp only [hits]; rw [hits_none k (fun i hi => h i (by omega)), if_neg (h k (by omega))]
theorem hits_le {g : Nat → Nat} {v : Nat} : ∀ k, (∀ a b, a < b → b < k → g a ≠ g b) → hits g v k ≤ 1
  | 0, _ => by simp [hits]
  | k + 1, h => by
    simp only [hits]
    by_cases e : g k = v
    · rw [if_pos e, hits_none k (fun i hi he => h i k hi (by omega) (by rw [he, e]))]
      omega
    · rw [if_neg e]; exact hits_le k (fun a b hab hb => h a b hab (by omega))
theorem hits_some {g : Nat → Nat} {v : Nat} : ∀ k, hits g v k ≠ 0 → ∃ i, i < k ∧ g i = v
  | 0, h => absurd rfl h
  | k + 1, h => by
    by_cases e : g k = v
    · exact ⟨k, by omega, e⟩
    · simp only [hits, if_neg e] at h
      obtain ⟨i, hi, he⟩ := hits_some k h
      exact ⟨i, by omega, he⟩
theorem sum_le {f : Nat → Nat} (h : ∀ v, f v ≤ 1) : ∀ n, sumN f n ≤ n
  | 0 => Nat.le_refl _
  | n + 1 => by have := sum_le h n; have := h n; simp only [sumN]; omega
theorem sum_all {f : Nat → Nat} (h : ∀ v, f v ≤ 1) : ∀ n, sumN f n = n → ∀ v, v < n → f v = 1
  | n + 1, e, v, hv => by
    have h1 := sum_le h n
    have h2 := h n
    simp only [sumN] at e
    by_cases hvn : v = n
    · subst hvn; omega
    · exact sum_all h n (by omega) v (by omega)
/-- Different numbers from 1 to n, in as many places as there are: each is met. -/
theorem places {g : Nat → Nat} {k n : Nat} (hg : ∀ i, i < k → 1 ≤ g i ∧ g i ≤ n) (hd : ∀ a b, a < b → b < k → g a ≠ g b) :
    k ≤ n ∧ (k = n → (∀ v, 1 ≤ v → v ≤ n → ∃ i, i < k ∧ g i = v) ∧ ∀ F : Nat → Nat, sumN (fun i => F (g i)) n = sumN (fun v => F (v + 1)) n) := by
  have h1 := sum_hits g (fun _ => 1) n k hg
  have h2 : sumN (fun i => (fun _ => 1) (g i)) k = k := by
    have : ∀ k, sumN (fun _ => 1) k = k := fun k => by induction k with
      | zero => rfl
      | succ k ih => simp only [sumN]; rw [ih]
    exact this k
  have h3 : sumN (fun v => hits g (v + 1) k * 1) n = sumN (fun v => hits g (v + 1) k) n := sumN_congr n (fun i _ => Nat.mul_one _)
  rw [h2, h3] at h1
  have hle : ∀ v, hits g (v + 1) k ≤ 1 := fun v => hits_le k hd
  refine ⟨by rw [← h1]; exact sum_le hle n, fun e => ?_⟩
  subst e
  have hall := sum_all hle k h1
  refine ⟨fun v v1 vn => ?_, fun F => ?_⟩
  · have := hall (v - 1) (by omega)
    rw [show v - 1 + 1 = v by omega] at this
    exact hits_some k (by omega)
  · rw [← sum_hits g F k k hg]
    exact sumN_congr k (fun v hv => by rw [hall v hv, Nat.one_mul])
theorem Orb.same {s t x L P L' P' : Nat} (o : Orb s t x L P) (o' : Orb s t x L' P') : L = L' ∧ P = P' := by
  have p := o.pos
  have p' := o'.pos
  have hN : L + P = L' + P' := by
    refine Classical.byContradiction fun hn => ?_
    rcases Nat.lt_or_gt_of_ne hn with h | h
    · exact o'.apart L (L + P) (by omega) h o.back.symm
    · exact o.apart L' (L' + P') (by omega) h o'.back.symm
  have hL : L = L' := by
    refine Classical.byContradiction fun hn => ?_
    have e1 := o.back
    have e2 := o'.back
    rw [← hN] at e2
    rcases Nat.lt_or_gt_of_ne hn with h | h
    · exact o.apart L L' h (by omega) (by rw [← e1, e2])
    · exact o.apart L' L h (by omega) (by rw [← e1, e2])
  exact ⟨hL, by omega⟩
theorem step_zero (s t : Nat) : stepN s t 0 = 0 := by unfold stepN; rw [Nat.zero_and, par_zero]; simp
/-- A maximal register: the state 1 comes back after as many steps as there are numbers but 0. -/
def MaxP (s t : Nat) : Prop := RegN s t 1 ∧ ∃ L, Orb s t 1 L (tw s - 1)
/-- Its states: all numbers but 0. -/
structure MaxF (s t N : Nat) : Prop where
  reg : RegN s t 1
  len : N + 1 = tw s
  three : 3 ≤ N
  back : stepsN s t N 1 = 1
  apart : ∀ a b, a < b → b < N → stepsN s t a 1 ≠ stepsN s t b 1
  bd : ∀ i, 1 ≤ stepsN s t i 1 ∧ stepsN s t i 1 ≤ N
  met : ∀ v, 1 ≤ v → v ≤ N → ∃ i, i < N ∧ stepsN s t i 1 = v
  sum : ∀ F : Nat → Nat, sumN (fun i => F (stepsN s t i 1)) N = sumN (fun v => F (v + 1)) N
theorem MaxP.facts {s t : Nat} (h : MaxP s t) : MaxF s t (tw s - 1) := by
  obtain ⟨hR, L, o⟩ := h
  have h4 := tw_four s hR.lo
  have hp := o.pos
  obtain ⟨N, hN⟩ : ∃ N, tw s - 1 = N := ⟨_, rfl⟩
  rw [hN] at o hp ⊢
  have hlt : ∀ i, stepsN s t i 1 ≤ N := fun i => by have := (hR.steps i).lt; omega
  have hnz : ∀ i, i < L + N → stepsN s t i 1 ≠ 0 := by
    intro i hi h0
    have h1 : stepsN s t (i + 1) 1 = 0 := by
      show stepN s t (stepsN s t i 1) = 0
      rw [h0, step_zero]
    by_cases hl : i + 1 < L + N
    · exact o.apart i (i + 1) (by omega) hl (by rw [h0, h1])
    · have e : i + 1 = L + N := by omega
      have e2 : stepsN s t L 1 = 0 := by rw [← o.back, ← e, h1]
      exact o.apart L i (by omega) hi (by rw [e2, h0])
  have hpl := places (g := fun i => stepsN s t i 1) (k := L + N) (n := N) (fun i hi => ⟨by have := hnz i hi; omega, hlt i⟩) o.apart
  obtain rfl : L = 0 := by have := hpl.1; omega
  rw [Nat.zero_add] at hpl hnz
  have hap := o.apart
  have hbk := o.back
  rw [Nat.zero_add] at hap hbk
  obtain ⟨hm, hs⟩ := hpl.2 rfl
  have hb1 : stepsN s t N 1 = 1 := hbk
  have hall : ∀ i, stepsN s t i 1 ≠ 0 := by
    intro i
    induction i using Nat.strongRecOn with
    | _ i ih =>
      by_cases hi : i < N
      · exact hnz i hi
      · have e : stepsN s t i 1 = stepsN s t (i - N) 1 := by
          have := steps_add s t 1 (i - N) N
          rw [hb1, show i - N + N = i by omega] at this
          exact this
        rw [e]; exact ih (i - N) (by omega)
  exact ⟨hR, by omega, by omega, hb1, hap, fun i => ⟨by have := hall i; omega, hlt i⟩, hm, hs⟩
theorem MaxF.round {s t N : Nat} (h : MaxF s t N) (i : Nat) : stepsN s t (i + N) 1 = stepsN s t i 1 := by
  rw [steps_add, h.back]
/-- Numbers from 1 on: how many are odd. -/
theorem odd_count : ∀ m, sumN (fun v => (v + 1) % 2) (2 * m + 1) = m + 1
  | 0 => rfl
  | m + 1 => by
    rw [show 2 * (m + 1) + 1 = (2 * m + 1) + 1 + 1 by omega]
    simp only [sumN]
    have := odd_count m
    rw [show 2 * m + 1 = (2 * m) + 1 by omega] at this
    simp only [sumN] at this
    omega
theorem MaxF.ones {s t N : Nat} (h : MaxF s t N) : 2 * sumN (fun i => stepsN s t i 1 % 2) N = N + 1 := by
  have e := h.sum (fun v => v % 2)
  have h2 := tw_half s (by have := h.reg.lo; omega)
  have h1 := tw_pos (s - 1)
  have hl := h.len
  obtain ⟨m, hm⟩ : ∃ m, N = 2 * m + 1 := ⟨tw (s - 1) - 1, by omega⟩
  rw [e, hm, odd_count]; omega
theorem bit_full (s j : Nat) (hj : j < s) : bitN (tw s - 1) j = 1 := by
  unfold bitN
  obtain ⟨d, rfl⟩ : ∃ d, s = j + (d + 1) := ⟨s - j - 1, by omega⟩
  have h1 := tw_pos j
  have h2 := tw_pos d
  have e : tw (j + (d + 1)) - 1 = (tw j - 1) + tw j * (2 * tw d - 1) := by
    rw [tw_add, tw_succ, Nat.mul_sub, Nat.mul_one]
    have : tw j * 1 ≤ tw j * (2 * tw d) := Nat.mul_le_mul_left _ (by omega)
    omega
  rw [e, Nat.add_mul_div_left _ _ h1, Nat.div_eq_of_lt (by omega)]
  omega
/-- The number of taps is even. -/
theorem MaxF.even {s t N : Nat} (h : MaxF s t N) : par t = 0 := by
  have hR := h.reg
  have hN3 := h.three
  have hlen := h.len
  have hs := hR.lo
  have hl := par_lt t
  refine Classical.byContradiction fun hne => ?_
  have hp : par t = 1 := by omega
  have hfix : stepN s t N = N := by
    have hNlt : N < tw s := by omega
    refine eq_of_bits s _ _ (stepN_lt s t N (by omega) hNlt) hNlt fun j hj => ?_
    have hf : ∀ j, j < s → bitN N j = 1 := fun j hj => by have := bit_full s j hj; rw [show tw s - 1 = N by omega] at this; exact this
    rw [hf j hj]
    by_cases e : j + 1 < s
    · rw [bit_step _ _ _ _ e, hf _ e]
    · obtain rfl : j = s - 1 := by omega
      rw [bit_top s t _ (by omega) hNlt]
      have ha : N &&& t = t := by
        rw [Nat.and_comm, show N = 2 ^ s - 1 by show N = tw s - 1; omega, Nat.and_two_pow_sub_one_eq_mod]
        exact Nat.mod_eq_of_lt hR.tapLt
      rw [ha, hp]
  obtain ⟨i, hi, he⟩ := h.met N (by omega) (Nat.le_refl _)
  have h1 : stepsN s t (i + 1) 1 = N := by
    show stepN s t (stepsN s t i 1) = N
    rw [he, hfix]
  by_cases hi1 : i + 1 < N
  · exact h.apart i (i + 1) (by omega) hi1 (by rw [he, h1])
  · have e : i + 1 = N := by omega
    have h2 := h.back
    rw [← e, h1] at h2
    omega
end Go.Proofs.Ytmlmpekhcnjehaa
