/- Plain mathematics of maximal sequences: balance, correlations, sums, every other bit, runs. -/
import Derived.Test.YtkkakfkebjdkeaaMaxMath
import Derived.Test.YtkkakfkebjdkeaaRevRun
import Derived.Test.YtkkakfkebjdkeaaSRun
namespace Go.Proofs.Ytkkakfkebjdkeaa
set_option linter.unusedVariables false
theorem MaxF.mod {s t N : Nat} (h : MaxF s t N) (i : Nat) : stepsN s t (i % N) 1 = stepsN s t i 1 := by
  have h3 := h.three
  induction i using Nat.strongRecOn with
  | _ i ih =>
    by_cases hi : i < N
    · rw [Nat.mod_eq_of_lt hi]
    · rw [Nat.mod_eq_sub_mod (by omega), ih (i - N) (by omega), ← h.round (i - N), show i - N + N = i by omega]
theorem zb_mx {s t x n i : Nat} (h : i < n) : zb (runS s t x n) i = 48 + stepsN s t i x % 2 := zb_strF h (by omega)
theorem MaxF.zb {s t N : Nat} (h : MaxF s t N) (i : Nat) : zb (runS s t 1 N) (i % N) = 48 + stepsN s t i 1 % 2 := by
  have h3 := h.three
  rw [zb_mx (Nat.mod_lt _ (by omega)), h.mod]
theorem MaxF.seq {s t N : Nat} (h : MaxF s t N) : seqB (runS s t 1 N) = true := by
  have h3 := h.three
  have hl := h.len
  have h8 := tw_le s h.reg.hi
  have hz : (runS s t 1 N).size = N := runS_size _ _ _ _
  refine (seqB_iff _).2 ⟨okB_of_zb _ fun i hi => ?_, by omega, by omega⟩
  rw [hz] at hi
  rw [zb_mx hi]; omega
theorem MaxF.shB {s t N : Nat} (h : MaxF s t N) (k i : Nat) : shB (runS s t 1 N) k i = 48 + stepsN s t (k + i) 1 % 2 := by
  have hz : (runS s t 1 N).size = N := runS_size _ _ _ _
  show Go.Proofs.Ytkkakfkebjdkeaa.zb _ ((k + i) % (runS s t 1 N).size) = _
  rw [hz, h.zb]
theorem MaxF.zb_shift {s t N : Nat} (h : MaxF s t N) (k i : Nat) (hi : i < N) : Go.Proofs.Ytkkakfkebjdkeaa.zb (shift (runS s t 1 N) (k : Int)) i = 48 + stepsN s t (k + i) 1 % 2 := by
  have hz : (runS s t 1 N).size = N := runS_size _ _ _ _
  rw [Go.Proofs.Ytkkakfkebjdkeaa.zb_shift _ _ _ (by omega), hz, modN_of_nat, Nat.mod_add_mod, h.zb]
/-- Bits of a state other than 0 are a shift. -/
theorem MaxF.shift_of {s t N y : Nat} (h : MaxF s t N) (hy : 1 ≤ y) (hyN : y ≤ N) {z : ByteArray} (hz : z.size = N) (hb : ∀ i, i < N → Go.Proofs.Ytkkakfkebjdkeaa.zb z i = 48 + stepsN s t i y % 2) : ∃ j : Nat, j < N ∧ shift (runS s t 1 N) (j : Int) = z := by
  obtain ⟨j, hj, he⟩ := h.met y hy hyN
  refine ⟨j, hj, ba_ext (by rw [shift_size, runS_size, hz]) fun i hi => ?_⟩
  rw [shift_size, runS_size] at hi
  rw [h.zb_shift j i hi, hb i hi, ← he, ← steps_add, Nat.add_comm i j]
theorem addB_pq {p q : Nat} (hp : p < 2) (hq : q < 2) : addB (48 + p) (48 + q) = 48 + (p + q) % 2 := by
  have h1 : p = 0 ∨ p = 1 := by omega
  have h2 : q = 0 ∨ q = 1 := by omega
  rcases h1 with rfl | rfl <;> rcases h2 with rfl | rfl <;> decide
theorem xor_ne {x y : Nat} (h : x ≠ y) : x ^^^ y ≠ 0 := fun e => h (by
  have : x ^^^ y ^^^ y = 0 ^^^ y := by rw [e]
  rw [Nat.xor_assoc, Nat.xor_self, Nat.xor_zero, Nat.zero_xor] at this
  exact this)
/-- The sum of a maximal sequence and a shift of it is a further shift. -/
theorem MaxF.addS {s t N k : Nat} (h : MaxF s t N) (k1 : 1 ≤ k) (kN : k < N) : ∃ j : Nat, j < N ∧ shift (runS s t 1 N) (j : Int) = Go.Proofs.Ytkkakfkebjdkeaa.addS (runS s t 1 N) (shift (runS s t 1 N) (k : Int)) := by
  have hz : (runS s t 1 N).size = N := runS_size _ _ _ _
  have hl := h.len
  have hk := h.reg.steps k
  have hne := h.apart 0 k (by omega) kN
  have hlt : 1 ^^^ stepsN s t k 1 < tw s := Nat.xor_lt_two_pow h.reg.lt hk.lt
  have hnz := xor_ne (x := 1) (y := stepsN s t k 1) hne
  refine h.shift_of (y := 1 ^^^ stepsN s t k 1) (by omega) (by omega) (by rw [addS_size, hz]) fun i hi => ?_
  rw [zb_addS _ _ _ (by omega), zb_mx hi, h.zb_shift k i hi, addB_pq (Nat.mod_lt _ (by omega)) (Nat.mod_lt _ (by omega)), steps_xor h.reg hk, xor_low, ← steps_add, Nat.add_comm i k]
theorem bal_sum (s t : Nat) (N : Nat) : ∀ n, n ≤ N → sumI (fun i => agr (Go.Proofs.Ytkkakfkebjdkeaa.zb (runS s t 1 N) i) 49) n = 2 * ((sumN (fun i => stepsN s t i 1 % 2) n : Nat) : Int) - (n : Int)
  | 0, _ => rfl
  | n + 1, h => by
    simp only [sumI, sumN]
    rw [bal_sum s t N n (by omega), zb_mx (show n < N by omega)]
    have : stepsN s t n 1 % 2 = 0 ∨ stepsN s t n 1 % 2 = 1 := by omega
    rcases this with e | e <;> rw [e] <;> simp [agr] <;> omega
theorem MaxF.bal {s t N : Nat} (h : MaxF s t N) : balN (runS s t 1 N) = 1 := by
  have e := h.ones
  have hb := bal_sum s t N N (Nat.le_refl _)
  unfold balN
  rw [runS_size, hb]
  omega
theorem bal_shift (z : ByteArray) (j : Nat) (hj : j < z.size) : balN (shift z (j : Int)) = balN z := by
  unfold balN
  rw [shift_size, ← sumI_rot (fun i => agr (Go.Proofs.Ytkkakfkebjdkeaa.zb z i) 49) j z.size hj]
  exact sumI_congr _ fun i hi => by rw [Go.Proofs.Ytkkakfkebjdkeaa.zb_shift _ _ _ hi, modN_of_nat, Nat.mod_eq_of_lt hj]
/-- A maximal sequence has the correlation -1 with its shifts. -/
theorem MaxF.cross {s t N k : Nat} (h : MaxF s t N) (k1 : 1 ≤ k) (kN : k < N) : crossN (runS s t 1 N) (runS s t 1 N) k = -1 := by
  have hz : (runS s t 1 N).size = N := runS_size _ _ _ _
  obtain ⟨j, hj, e⟩ := h.addS k1 kN
  have hb := balN_addS (runS s t 1 N) (shift (runS s t 1 N) (k : Int))
  rw [← e, bal_shift _ j (by omega), h.bal] at hb
  have hc : crossN (runS s t 1 N) (runS s t 1 N) k = sumI (fun i => agr (Go.Proofs.Ytkkakfkebjdkeaa.zb (runS s t 1 N) i) (Go.Proofs.Ytkkakfkebjdkeaa.zb (shift (runS s t 1 N) (k : Int)) i)) (runS s t 1 N).size := by
    unfold crossN
    exact sumI_congr _ fun i hi => by rw [h.shB, h.zb_shift k i (by omega)]
  omega
theorem MaxF.least {s t N : Nat} (h : MaxF s t N) : leastP (runS s t 1 N) = N := by
  have hz : (runS s t 1 N).size = N := runS_size _ _ _ _
  have h3 := h.three
  obtain ⟨b1, b2⟩ := leastP_bd (runS s t 1 N) (by omega)
  refine Classical.byContradiction fun hn => ?_
  have hy := leastP_yes (runS s t 1 N) (by omega)
  have hc := h.cross (k := leastP (runS s t 1 N)) b1 (by omega)
  have hf := (auto_full (runS s t 1 N) ((leastP (runS s t 1 N) : Nat) : Int)).2 hy
  rw [modN_of_nat, Nat.mod_eq_of_lt (by omega), hc, hz] at hf
  omega
/-- Bits as a number. -/
theorem num_of_bits (f : Nat → Nat) (hf : ∀ i, f i < 2) : ∀ s, ∃ y, y < tw s ∧ ∀ j, j < s → bitN y j = f j
  | 0 => ⟨0, tw_pos 0, fun j hj => absurd hj (Nat.not_lt_zero j)⟩
  | s + 1 => by
    obtain ⟨y, hy, hb⟩ := num_of_bits f hf s
    have h2 := hf s
    have hp := tw_pos s
    have hm : f s * tw s ≤ 1 * tw s := Nat.mul_le_mul_right _ (by omega)
    refine ⟨y + f s * tw s, by rw [tw_succ]; omega, fun j hj => ?_⟩
    by_cases e : j = s
    · subst e
      unfold bitN
      rw [Nat.add_mul_div_right _ _ hp, Nat.div_eq_of_lt hy]; omega
    · rw [← hb j (by omega)]
      obtain ⟨d, rfl⟩ : ∃ d, s = j + (d + 1) := ⟨s - j - 1, by omega⟩
      unfold bitN
      rw [tw_add, tw_succ, show f (j + (d + 1)) * (tw j * (2 * tw d)) = tw j * (2 * (f (j + (d + 1)) * tw d)) by rw [Nat.mul_left_comm, Nat.mul_left_comm (f (j + (d + 1)))], Nat.add_mul_div_left _ _ (tw_pos j), Nat.add_mul_mod_self_left]
theorem tsum_diag (t : Nat) (F : Nat → Nat → Nat) (hF : ∀ i j, F i j = F j i) : ∀ m, tsum t (fun i => tsum t (fun j => F i j) m) m % 2 = tsum t (fun i => F i i) m % 2
  | 0 => rfl
  | m + 1 => by
    have ih := tsum_diag t F hF m
    have e1 : tsum t (fun i => tsum t (fun j => F i j) (m + 1)) m = tsum t (fun i => tsum t (fun j => F i j) m) m + tsum t (fun i => if bitN t m = 1 then F i m else 0) m := tsum_add t (fun i => tsum t (fun j => F i j) m) (fun i => if bitN t m = 1 then F i m else 0) m
    have e2 : tsum t (fun i => tsum t (fun j => F i j) (m + 1)) (m + 1) = tsum t (fun i => tsum t (fun j => F i j) (m + 1)) m + if bitN t m = 1 then tsum t (fun j => F m j) (m + 1) else 0 := rfl
    have e3 : tsum t (fun i => F i i) (m + 1) = tsum t (fun i => F i i) m + if bitN t m = 1 then F m m else 0 := rfl
    have e4 : tsum t (fun j => F m j) (m + 1) = tsum t (fun j => F m j) m + if bitN t m = 1 then F m m else 0 := rfl
    have e5 : tsum t (fun i => F i m) m = tsum t (fun j => F m j) m := tsum_congr m fun i _ => hF i m
    rw [e2, e1, e3]
    by_cases hb : bitN t m = 1
    · simp only [if_pos hb] at e4 ⊢
      rw [e4, e5]; omega
    · simp only [if_neg hb]
      rw [tsum_zero]; omega
theorem recL_sq (s t : Nat) (f : Nat → Nat) (k : Nat) : recL s t (recL s t f) k % 2 = (f (k + 2 * s) + tsum t (fun i => f (k + 2 * i)) s) % 2 := by
  have e1 : recL s t (recL s t f) k = (f (k + s + s) + tsum t (fun i => f (k + s + i)) s) + tsum t (fun i => f (k + i + s) + tsum t (fun j => f (k + i + j)) s) s := rfl
  rw [e1, tsum_add t (fun i => f (k + i + s)) (fun i => tsum t (fun j => f (k + i + j)) s)]
  have e2 : tsum t (fun i => f (k + i + s)) s = tsum t (fun i => f (k + s + i)) s := tsum_congr _ fun i _ => by rw [show k + i + s = k + s + i by omega]
  have e3 := tsum_diag t (fun i j => f (k + i + j)) (fun i j => by rw [show k + i + j = k + j + i by omega]) s
  have e4 : tsum t (fun i => f (k + i + i)) s = tsum t (fun i => f (k + 2 * i)) s := tsum_congr _ fun i _ => by rw [show k + i + i = k + 2 * i by omega]
  rw [e4] at e3
  rw [e2, show k + s + s = k + 2 * s by omega]
  omega
/-- Every other bit of a maximal sequence is a shift of it. -/
theorem MaxF.twice {s t N : Nat} (h : MaxF s t N) : ∃ j : Nat, j < N ∧ shift (runS s t 1 N) (j : Int) = decS (runS s t 1 N) 2 := by
  have hz : (runS s t 1 N).size = N := runS_size _ _ _ _
  have h3 := h.three
  have hl := h.len
  have hs := h.reg.lo
  obtain ⟨y, hy, hb⟩ := num_of_bits (fun i => stepsN s t (2 * i) 1 % 2) (fun i => Nat.mod_lt _ (by omega)) s
  have hR : RegN s t y := ⟨h.reg.lo, h.reg.hi, h.reg.tap, h.reg.tapLt, hy⟩
  have hd : ∀ k, recL s t (fun i => stepsN s t (2 * i) 1 % 2) k % 2 = 0 := by
    intro k
    have e1 := recL_even (s := s) (t := t) (f := recL s t (fun i => stepsN s t i 1 % 2)) (k := 2 * k) (fun i _ => reg_rec h.reg _)
    rw [recL_sq] at e1
    have e2 : recL s t (fun i => stepsN s t (2 * i) 1 % 2) k = stepsN s t (2 * (k + s)) 1 % 2 + tsum t (fun i => stepsN s t (2 * (k + i)) 1 % 2) s := rfl
    have e3 : tsum t (fun i => stepsN s t (2 * (k + i)) 1 % 2) s = tsum t (fun i => stepsN s t (2 * k + 2 * i) 1 % 2) s := tsum_congr _ fun i _ => by rw [Nat.mul_add]
    rw [e2, e3, Nat.mul_add]
    exact e1
  have hall : ∀ i, stepsN s t i y % 2 = stepsN s t (2 * i) 1 % 2 := by
    have hz0 := rec_zero (s := s) (t := t) (f := fun i => stepsN s t i y % 2 + stepsN s t (2 * i) 1 % 2) (fun k => by
      rw [recL_add s t (fun i => stepsN s t i y % 2) (fun i => stepsN s t (2 * i) 1 % 2) k]
      have a := reg_rec hR k
      have b := hd k
      omega) (fun i hi => by
      have e1 := first_bit (t := t) (x := y) i hi
      have e2 : bitN y i = stepsN s t (2 * i) 1 % 2 := hb i hi
      show (stepsN s t i y % 2 + stepsN s t (2 * i) 1 % 2) % 2 = 0
      omega)
    intro i
    have : (stepsN s t i y % 2 + stepsN s t (2 * i) 1 % 2) % 2 = 0 := hz0 i
    omega
  have hy0 : y ≠ 0 := by
    intro e
    subst e
    have hzero : ∀ i, stepsN s t i 0 = 0 := fun i => by induction i with
      | zero => rfl
      | succ i ih => show stepN s t (stepsN s t i 0) = 0; rw [ih, step_zero]
    have hx : ∀ m, stepsN s t m 1 % 2 = 0 := fun m => by
      have h2 := tw_half s (by omega)
      have e1 := hall (tw (s - 1) * m)
      rw [hzero, ← Nat.mul_assoc, ← h2, ← hl, Nat.add_mul, Nat.one_mul, Nat.add_comm] at e1
      have e2 := h.mod (m + N * m)
      rw [Nat.add_mul_mod_self_left, h.mod] at e2
      rw [e2]; omega
    have ho := h.ones
    have : ∀ n, sumN (fun i => stepsN s t i 1 % 2) n = 0 := fun n => by induction n with
      | zero => rfl
      | succ n ih => simp only [sumN]; rw [ih, hx n]
    rw [this] at ho
    omega
  refine h.shift_of (y := y) (by omega) (by omega) (by rw [decS_size, hz]) fun i hi => ?_
  rw [zb_decS _ _ _ (by omega), hz, h.zb, hall i]
/-- Each run is a window of equal bits. -/
theorem runs_window (t : Nat → Nat) : ∀ n, (∀ x ∈ (runsC t n).1, ∃ p L : Nat, x = L ∧ p + L ≤ n ∧ ∀ i, i < L → t (p + i) = t p) ∧ ∃ p, p + (runsC t n).2 = n ∧ ∀ i, i < (runsC t n).2 → t (p + i) = t p
  | 0 => ⟨fun x hx => absurd hx (List.not_mem_nil), 0, rfl, fun i hi => absurd hi (Nat.not_lt_zero i)⟩
  | n + 1 => by
    obtain ⟨h1, p, h2, h3⟩ := runs_window t n
    simp only [runsC]
    split
    · next hc =>
      refine ⟨fun x hx => ?_, p, by simp only; omega, fun i hi => ?_⟩
      · obtain ⟨q, L, a, b, c⟩ := h1 x hx
        exact ⟨q, L, a, by omega, c⟩
      · simp only at hi
        by_cases e : i = (runsC t n).2
        · subst e
          by_cases h0 : (runsC t n).2 = 0
          · rw [h0, Nat.add_zero]
          · rw [h2]
            rcases hc with hc | hc
            · omega
            · rw [hc, ← h3 ((runsC t n).2 - 1) (by omega)]
              congr 1; omega
        · exact h3 i (by omega)
    · refine ⟨fun x hx => ?_, n, by simp only, fun i hi => ?_⟩
      · simp only at hx
        rcases List.mem_append.1 hx with hx | hx
        · obtain ⟨q, L, a, b, c⟩ := h1 x hx
          exact ⟨q, L, a, by omega, c⟩
        · rw [List.mem_singleton] at hx
          exact ⟨p, (runsC t n).2, hx, by omega, h3⟩
      · simp only at hi
        obtain rfl : i = 0 := by omega
        rfl
/-- A window of equal bits lies in a run. -/
theorem window_run (t : Nat → Nat) : ∀ n p L, 1 ≤ L → p + L ≤ n → (∀ i, i < L → t (p + i) = t p) → (p + L = n → L ≤ (runsC t n).2) ∧ (L ≤ (runsC t n).2 ∨ ∃ x ∈ (runsC t n).1, (L : Int) ≤ x)
  | 0, p, L, h1, h2, _ => by omega
  | n + 1, p, L, h1, h2, h3 => by
    simp only [runsC]
    by_cases e : p + L ≤ n
    · have ih := (window_run t n p L h1 e h3).2
      split
      · exact ⟨fun h => by omega, by rcases ih with ih | ih; exact .inl (by simp only; omega); exact .inr ih⟩
      · refine ⟨fun h => by omega, .inr ?_⟩
        rcases ih with ih | ⟨x, hx, hl⟩
        · exact ⟨_, List.mem_append_right _ (List.mem_singleton.2 rfl), by omega⟩
        · exact ⟨x, List.mem_append_left _ hx, hl⟩
    · have e2 : p + L = n + 1 := by omega
      by_cases hL : L = 1
      · subst hL
        split
        · exact ⟨fun _ => by simp only; omega, .inl (by simp only; omega)⟩
        · exact ⟨fun _ => Nat.le_refl _, .inl (Nat.le_refl _)⟩
      · have ih := (window_run t n p (L - 1) (by omega) (by omega) (fun i hi => h3 i (by omega))).1 (by omega)
        have a1 := h3 (L - 1) (by omega)
        have a2 := h3 (L - 2) (by omega)
        rw [show p + (L - 1) = n by omega] at a1
        rw [show p + (L - 2) = n - 1 by omega] at a2
        rw [if_pos (.inr (by rw [a1, a2]))]
        exact ⟨fun _ => by simp only; omega, .inl (by simp only; omega)⟩
theorem MaxF.next {s t N : Nat} (h : MaxF s t N) (a : Nat) : stepsN s t a 1 ≠ stepsN s t (a + 1) 1 := by
  have h3 := h.three
  intro e
  have hl : a % N < N := Nat.mod_lt _ (by omega)
  have e1 := h.mod a
  have e2 : stepsN s t (a % N + 1) 1 = stepsN s t (a + 1) 1 := by
    show stepN s t (stepsN s t (a % N) 1) = stepN s t (stepsN s t a 1)
    rw [e1]
  by_cases hc : a % N + 1 < N
  · exact h.apart (a % N) (a % N + 1) (by omega) hc (by rw [e1, e2, e])
  · have e3 : a % N + 1 = N := by omega
    rw [e3, h.back] at e2
    exact h.apart 0 (a % N) (by omega) hl (by rw [e1, e, ← e2]; rfl)
/-- Half of the bits begin runs, and the longest run is as long as there are cells. -/
theorem MaxF.runs {s t N : Nat} (h : MaxF s t N) : rlN (runS s t 1 N) = (N + 1) / 2 ∧ rlF (runS s t 1 N) ((N + 1) / 2 - 1) = s := by
  have hz : (runS s t 1 N).size = N := runS_size _ _ _ _
  have h3 := h.three
  have hl := h.len
  have hs2 := h.reg.lo
  have hseq := h.seq
  obtain ⟨K, g, e1, e2, hK, -, -, hasc, -, hcr, -⟩ := run_facts hseq
  rw [hz] at hK hcr
  have hm1 : modN 1 N = 1 := by rw [show (1 : Int) = ((1 : Nat) : Int) from rfl, modN_of_nat, Nat.mod_eq_of_lt (by omega)]
  rw [hm1, h.cross (Nat.le_refl _) (by omega)] at hcr
  have hKN : K = (N + 1) / 2 := by omega
  rw [e1, e2]
  refine ⟨hKN, ?_⟩
  rw [← hKN]
  have hlen : (rlL (runS s t 1 N)).length = K := by unfold rlN at e1; rw [if_pos hseq] at e1; exact e1
  have hg : g = LF (rlL (runS s t 1 N)) := e2.symm
  have hone := rl_len (z := runS s t 1 N) (by omega)
  have hst : firstN (startP (runS s t 1 N)) (runS s t 1 N).size ≠ (runS s t 1 N).size := fun e => by
    have := rl_one (z := runS s t 1 N) (by omega) e
    rw [this] at hlen
    simp at hlen
    omega
  have hle := firstN_le (startP (runS s t 1 N)) (runS s t 1 N).size
  have hlt : firstN (startP (runS s t 1 N)) (runS s t 1 N).size < (runS s t 1 N).size := by omega
  have hm : startN (runS s t 1 N) = firstN (startP (runS s t 1 N)) (runS s t 1 N).size := by unfold startN; rw [if_pos hlt]
  obtain ⟨m, hmm⟩ : ∃ m, startN (runS s t 1 N) = m := ⟨_, rfl⟩
  have hsp : startP (runS s t 1 N) m = true := by rw [← hmm, hm]; exact firstN_at hlt
  have hmN : m < N := by rw [← hmm, hm]; omega
  have hmod : modN ((startN (runS s t 1 N) : Nat) : Int) (runS s t 1 N).size = m := by rw [hmm, hz, modN_of_nat, Nat.mod_eq_of_lt hmN]
  have hL : rlL (runS s t 1 N) = srt (runsA (Go.Proofs.Ytkkakfkebjdkeaa.shB (runS s t 1 N) m) N) := by unfold rlL; rw [hmod, hz]
  have hA : runsA (Go.Proofs.Ytkkakfkebjdkeaa.shB (runS s t 1 N) m) N = (runsC (Go.Proofs.Ytkkakfkebjdkeaa.shB (runS s t 1 N) m) N).1 ++ [((runsC (Go.Proofs.Ytkkakfkebjdkeaa.shB (runS s t 1 N) m) N).2 : Int)] := by unfold runsA; rw [if_neg (by omega)]
  have hmem : ∀ x, x ∈ rlL (runS s t 1 N) ↔ x ∈ runsA (Go.Proofs.Ytkkakfkebjdkeaa.shB (runS s t 1 N) m) N := fun x => by rw [hL]; exact srt_mem _ _
  -- no run is longer
  have up : ∀ x ∈ rlL (runS s t 1 N), x ≤ s := by
    intro x hx
    have hx := (hmem x).1 hx
    have hw := runs_window (Go.Proofs.Ytkkakfkebjdkeaa.shB (runS s t 1 N) m) N
    obtain ⟨p, L, rfl, -, hc⟩ : ∃ p L : Nat, x = L ∧ p + L ≤ N ∧ ∀ i, i < L → Go.Proofs.Ytkkakfkebjdkeaa.shB (runS s t 1 N) m (p + i) = Go.Proofs.Ytkkakfkebjdkeaa.shB (runS s t 1 N) m p := by
      rw [hA] at hx
      rcases List.mem_append.1 hx with hx | hx
      · exact hw.1 x hx
      · rw [List.mem_singleton] at hx
        obtain ⟨p, a, b⟩ := hw.2
        exact ⟨p, _, hx, by omega, b⟩
    refine Classical.byContradiction fun hn => ?_
    have hLs : s + 1 ≤ L := by omega
    refine h.next (m + p) (state_of_bits h.reg fun i hi => ?_)
    have a1 := hc i (by omega)
    have a2 := hc (i + 1) (by omega)
    rw [h.shB, h.shB] at a1 a2
    rw [show m + p + i = m + (p + i) by omega, show m + p + 1 + i = m + (p + (i + 1)) by omega]
    omega
  -- some run is as long
  have some : ∃ x ∈ rlL (runS s t 1 N), (s : Int) ≤ x := by
    obtain ⟨i, hi, he⟩ := h.met N (by omega) (Nat.le_refl _)
    have hbits : ∀ j, j < s → stepsN s t (i + j) 1 % 2 = 1 := fun j hj => by
      rw [← state_bit j i hj, he]
      have := bit_full s j hj
      rw [show tw s - 1 = N by omega] at this
      exact this
    obtain ⟨q, hq, hqe⟩ : ∃ q, q < N ∧ (m + q) % N = i := by
      by_cases e : m ≤ i
      · exact ⟨i - m, by omega, by rw [show m + (i - m) = i by omega, Nat.mod_eq_of_lt hi]⟩
      · exact ⟨i + N - m, by omega, by rw [show m + (i + N - m) = i + N by omega, Nat.add_mod_right, Nat.mod_eq_of_lt hi]⟩
    have hwin : ∀ j, j < s → Go.Proofs.Ytkkakfkebjdkeaa.shB (runS s t 1 N) m (q + j) = 49 := fun j hj => by
      rw [h.shB]
      have e1 : stepsN s t (m + (q + j)) 1 = stepsN s t (i + j) 1 := by
        rw [← h.mod (m + (q + j)), ← h.mod (i + j), ← hqe, Nat.mod_add_mod, Nat.add_assoc]
      rw [e1, hbits j hj]
    have hfit : q + s ≤ N := by
      refine Classical.byContradiction fun hn => ?_
      have x1 := (start_iff (runS s t 1 N) m (by omega)).1 hsp
      have w1 := hwin (N - 1 - q) (by omega)
      have w2 := hwin (N - q) (by omega)
      rw [show q + (N - 1 - q) = N - 1 by omega] at w1
      rw [show q + (N - q) = N by omega] at w2
      refine x1 ?_
      have y1 : Go.Proofs.Ytkkakfkebjdkeaa.zb (runS s t 1 N) m = 49 := by
        rw [← w2]; show _ = Go.Proofs.Ytkkakfkebjdkeaa.zb _ ((m + N) % _); rw [hz, Nat.add_mod_right, Nat.mod_eq_of_lt hmN]
      have y2 : Go.Proofs.Ytkkakfkebjdkeaa.zb (runS s t 1 N) ((m + (runS s t 1 N).size - 1) % (runS s t 1 N).size) = 49 := by
        rw [← w1]; show _ = Go.Proofs.Ytkkakfkebjdkeaa.zb _ ((m + (N - 1)) % _); rw [hz, show m + N - 1 = m + (N - 1) by omega]
      rw [y1, y2]
    have hr := (window_run (Go.Proofs.Ytkkakfkebjdkeaa.shB (runS s t 1 N) m) N q s (by omega) hfit (fun j hj => by rw [hwin j hj, ← Nat.add_zero q, hwin 0 (by omega)])).2
    rcases hr with hr | ⟨x, hx, hsx⟩
    · exact ⟨((runsC (Go.Proofs.Ytkkakfkebjdkeaa.shB (runS s t 1 N) m) N).2 : Int), (hmem _).2 (by rw [hA]; exact List.mem_append_right _ (List.mem_singleton.2 rfl)), by omega⟩
    · exact ⟨x, (hmem _).2 (by rw [hA]; exact List.mem_append_left _ hx), hsx⟩
  have hK1 : 0 < K := by omega
  have hlast : ∀ d i, i + d = K - 1 → g i ≤ g (K - 1) := by
    intro d
    induction d with
    | zero => intro i hi; rw [show i = K - 1 by omega]; exact Int.le_refl _
    | succ d ih => intro i hi; exact Int.le_trans (hasc i (by omega)) (ih (i + 1) (by omega))
  have u1 : g (K - 1) ≤ s := by
    rw [hg]
    refine up _ ?_
    rw [LF_get (show K - 1 < (rlL (runS s t 1 N)).length by omega)]
    exact List.getElem_mem _
  obtain ⟨x, hx, hsx⟩ := some
  obtain ⟨i, hi, e⟩ := List.getElem_of_mem hx
  have u2 : g i = x := by rw [hg, LF_get hi]; exact e
  have u3 := hlast (K - 1 - i) i (by omega)
  omega
end Go.Proofs.Ytkkakfkebjdkeaa
