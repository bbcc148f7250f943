/- Plain mathematics: a register with reversed taps has the bits in reverse order; both are maximal or neither. -/
import Derived.Test.YtmlmpekhcnjehaaRegRev
import Derived.Test.YtmlmpekhcnjehaaMaxMath
import Derived.Test.YtmlmpekhcnjehaaShortMath
import Derived.Test.YtmlmpekhcnjehaaSeqRev
namespace Go.Proofs.Ytmlmpekhcnjehaa
open Go.RowKit
set_option linter.unusedVariables false
set_option maxRecDepth 100000
def foldA (y : Nat) : Nat := Nat.xor y (Nat.shiftRight y 4)
def foldB (y : Nat) : Nat := Nat.xor (foldA y) (Nat.shiftRight (foldA y) 2)
def parT (y : Nat) : Nat := Nat.mod (Nat.xor (foldB y) (Nat.shiftRight (foldB y) 1)) 2
theorem parT_all : (List.range 256).all (fun y => Nat.beq (par y) (parT y)) = true := by kernel_rfl
theorem parT_eq (y : Nat) (h : y < 256) : par y = parT y := Nat.eq_of_beq_eq_true (List.all_eq_true.1 parT_all y (List.mem_range.2 h))
def stepT (s t x : Nat) : Nat := Nat.add (Nat.div x 2) (Nat.mul (parT (Nat.land x t)) (Nat.pow 2 (s - 1)))
theorem stepT_eq {s t x : Nat} (h : x < 256) : stepT s t x = stepN s t x := by
  have h1 : x &&& t ≤ x := Nat.and_le_left
  unfold stepN
  rw [parT_eq _ (by omega)]
  rfl
/-- Does the state 1 come back behind that many steps, and not ahead of them? -/
def chk (s t : Nat) : Nat → Nat → Bool
  | 0, _ => false
  | f + 1, x => match stepT s t x with
    | 0 => false
    | 1 => Nat.beq f 0
    | y + 2 => chk s t f (y + 2)
theorem chk_zero {s t f x : Nat} (h : stepT s t x = 0) : chk s t (f + 1) x = false := by simp only [chk, h]
theorem chk_one {s t f x : Nat} (h : stepT s t x = 1) : chk s t (f + 1) x = Nat.beq f 0 := by simp only [chk, h]
theorem chk_two {s t f x y : Nat} (h : stepT s t x = y + 2) : chk s t (f + 1) x = chk s t f (y + 2) := by simp only [chk, h]
theorem stays_zero {s t k : Nat} (h : stepsN s t k 1 = 0) : ∀ f, stepsN s t (k + f) 1 = 0
  | 0 => h
  | f + 1 => by
    have e := stays_zero h f
    show stepN s t (stepsN s t (k + f) 1) = 0
    rw [e, step_zero]
theorem chk_iff {s t : Nat} (h : RegN s t 1) : ∀ f k, chk s t f (stepsN s t k 1) = true ↔ (stepsN s t (k + f) 1 = 1 ∧ 0 < f ∧ ∀ i, 0 < i → i < f → stepsN s t (k + i) 1 ≠ 1)
  | 0, k => by simp [chk]
  | f + 1, k => by
    have e : stepT s t (stepsN s t k 1) = stepsN s t (k + 1) 1 := stepT_eq (by have h1 := (h.steps k).lt; have h2 := tw_le s h.hi; omega)
    have ih := chk_iff h f (k + 1)
    match hv : stepsN s t (k + 1) 1 with
    | 0 =>
      rw [hv] at e
      rw [chk_zero e]
      refine ⟨fun h => (by cases h), fun h => ?_⟩
      have e2 := stays_zero hv f
      rw [show k + (f + 1) = k + 1 + f by omega, e2] at h
      exact absurd h.1 (by omega)
    | 1 =>
      rw [hv] at e
      rw [chk_one e]
      refine ⟨fun h => ?_, fun h => ?_⟩
      · have h0 : f = 0 := Nat.eq_of_beq_eq_true h
        subst h0
        exact ⟨hv, by omega, fun i h1 h2 => by omega⟩
      · by_cases h0 : f = 0
        · subst h0; rfl
        · exact absurd hv (h.2.2 1 (by omega) (by omega))
    | y + 2 =>
      rw [hv] at e ih
      rw [chk_two e, ih]
      refine ⟨fun h => ⟨by rw [show k + (f + 1) = k + 1 + f by omega]; exact h.1, by omega, fun i h1 h2 => ?_⟩, fun h => ⟨by rw [show k + 1 + f = k + (f + 1) by omega]; exact h.1, ?_, fun i h1 h2 => ?_⟩⟩
      · by_cases hi : i = 1
        · subst hi; rw [hv]; omega
        · have := h.2.2 (i - 1) (by omega) (by omega)
          rw [show k + 1 + (i - 1) = k + i by omega] at this
          exact this
      · refine Nat.pos_of_ne_zero fun h0 => ?_
        subst h0
        have := h.1
        rw [Nat.zero_add, hv] at this
        omega
      · have := h.2.2 (i + 1) (by omega) (by omega)
        rw [show k + (i + 1) = k + 1 + i by omega] at this
        exact this
theorem steps_more {s t a b : Nat} (h : stepsN s t a 1 = stepsN s t b 1) : ∀ d, stepsN s t (a + d) 1 = stepsN s t (b + d) 1
  | 0 => h
  | d + 1 => by
    have := steps_more h d
    show stepN s t (stepsN s t (a + d) 1) = stepN s t (stepsN s t (b + d) 1)
    rw [this]
theorem maxP_chk {s t : Nat} (h : RegN s t 1) : MaxP s t ↔ chk s t (tw s - 1) 1 = true := by
  have h4 := tw_four s h.lo
  have hc := chk_iff h (tw s - 1) 0
  rw [show stepsN s t 0 1 = 1 from rfl] at hc
  simp only [Nat.zero_add] at hc
  rw [hc]
  refine ⟨fun hp => ?_, fun ⟨h1, h2, h3⟩ => ⟨h, 0, by omega, by rw [Nat.zero_add]; exact h1, fun a b hab hb he => ?_⟩⟩
  · have hf := hp.facts
    exact ⟨hf.back, by omega, fun i h1 h2 he => hf.apart 0 i h1 h2 (by rw [he]; rfl)⟩
  · rw [Nat.zero_add] at hb
    have e := steps_more he (tw s - 1 - b)
    rw [show b + (tw s - 1 - b) = tw s - 1 by omega, h1] at e
    exact h3 (a + (tw s - 1 - b)) (by omega) (by omega) e
/-- All that is asked of the reversed taps of one size and taps. -/
def revOk (s t : Nat) : Bool := match revN s t (s - 1) with
  | 0 => false
  | m + 1 => Nat.blt (m + 1) (Nat.pow 2 s) && (Nat.beq (Nat.mod (m + 1) 2) 1 && (Nat.beq (revN s (m + 1) (s - 1)) t && ((List.range s).all (fun j => Nat.beq j 0 || Nat.beq (bitN (m + 1) (s - j)) (bitN t j)) && (chk s t (Nat.pow 2 s - 1) 1 == chk s (m + 1) (Nat.pow 2 s - 1) 1))))
theorem rev_all : (List.range 9).all (fun s => Nat.blt s 2 || (List.range (Nat.pow 2 s)).all (fun t => Nat.beq (Nat.mod t 2) 0 || revOk s t)) = true := by kernel_rfl
theorem rev_one {s t : Nat} (h2 : 2 ≤ s) (h8 : s ≤ 8) (ht : t < tw s) (ho : t % 2 = 1) : revOk s t = true := by
  have h1 := List.all_eq_true.1 rev_all s (List.mem_range.2 (by omega))
  simp only [Bool.or_eq_true] at h1
  rcases h1 with h1 | h1
  · have := Nat.le_of_ble_eq_true h1; omega
  · have h3 := List.all_eq_true.1 h1 t (List.mem_range.2 ht)
    simp only [Bool.or_eq_true] at h3
    rcases h3 with h3 | h3
    · have : t % 2 = 0 := Nat.eq_of_beq_eq_true h3; omega
    · exact h3
structure Rev (s t m : Nat) : Prop where
  lt : m < tw s
  odd : m % 2 = 1
  back : revN s m (s - 1) = t
  bits : ∀ j, 0 < j → j < s → bitN m (s - j) = bitN t j
  max : MaxP s m ↔ MaxP s t
theorem rev_facts {s t : Nat} (h2 : 2 ≤ s) (h8 : s ≤ 8) (ht : t < tw s) (ho : t % 2 = 1) : Rev s t (revN s t (s - 1)) := by
  have h := rev_one h2 h8 ht ho
  have h4 := tw_four s h2
  unfold revOk at h
  match hm : revN s t (s - 1) with
  | 0 => rw [hm] at h; cases h
  | m + 1 =>
    rw [hm] at h
    simp only [Bool.and_eq_true] at h
    obtain ⟨a, b, c, d, e⟩ := h
    have a1 : m + 1 < tw s := Nat.le_of_ble_eq_true a
    have b1 : (m + 1) % 2 = 1 := Nat.eq_of_beq_eq_true b
    have c1 : revN s (m + 1) (s - 1) = t := Nat.eq_of_beq_eq_true c
    refine ⟨a1, b1, c1, fun j j0 js => ?_, ?_⟩
    · have := List.all_eq_true.1 d j (List.mem_range.2 js)
      simp only [Bool.or_eq_true] at this
      rcases this with h | h
      · have : j = 0 := Nat.eq_of_beq_eq_true h; omega
      · exact Nat.eq_of_beq_eq_true h
    · have r1 : RegN s t 1 := ⟨h2, h8, by omega, ht, by omega⟩
      have r2 : RegN s (m + 1) 1 := ⟨h2, h8, by omega, a1, by omega⟩
      have e1 : chk s t (tw s - 1) 1 = chk s (m + 1) (tw s - 1) 1 := eq_of_beq e
      rw [maxP_chk r1, maxP_chk r2, e1]
theorem sumN_front (f : Nat → Nat) : ∀ n, sumN f (n + 1) = f 0 + sumN (fun i => f (i + 1)) n
  | 0 => by simp [sumN]
  | n + 1 => by
    have := sumN_front f n
    show sumN f (n + 1) + f (n + 1) = f 0 + (sumN (fun i => f (i + 1)) n + f (n + 1))
    omega
theorem sumN_turn (h : Nat → Nat) : ∀ n, sumN (fun i => h (n - 1 - i)) n = sumN h n
  | 0 => rfl
  | n + 1 => by
    rw [sumN_front]
    have := sumN_turn h n
    show h (n + 1 - 1 - 0) + sumN (fun i => h (n + 1 - 1 - (i + 1))) n = sumN h n + h n
    rw [sumN_congr (g := fun i => h (n - 1 - i)) n (fun i hi => by rw [show n + 1 - 1 - (i + 1) = n - 1 - i by omega]), this, show n + 1 - 1 - 0 = n by omega]
    omega
theorem tsum_sum (t : Nat) (f : Nat → Nat) : ∀ n, tsum t f n = sumN (fun i => if bitN t i = 1 then f i else 0) n
  | 0 => rfl
  | n + 1 => by simp only [tsum, sumN]; rw [tsum_sum t f n]
/-- The taps' sum taken backwards, ends and all. -/
theorem tsum_rev {s t m : Nat} (h2 : 2 ≤ s) (ho : t % 2 = 1) (h : Rev s t m) (F : Nat → Nat) : F 0 + tsum m (fun j => F (s - j)) s = F s + tsum t F s := by
  obtain ⟨n, rfl⟩ : ∃ n, s = n + 1 := ⟨s - 1, by omega⟩
  rw [tsum_sum, tsum_sum, sumN_front, sumN_front]
  have e1 : bitN m 0 = 1 := by rw [bitN_zero]; exact h.odd
  have e2 : bitN t 0 = 1 := by rw [bitN_zero]; exact ho
  simp only [e1, e2, if_true]
  have e3 := sumN_turn (fun i => if bitN t (i + 1) = 1 then F (i + 1) else 0) n
  rw [← e3]
  rw [sumN_congr (g := fun i => if bitN t (n - 1 - i + 1) = 1 then F (n - 1 - i + 1) else 0) n (fun i hi => by
    have hb := h.bits (n - i) (by omega) (by omega)
    rw [show n + 1 - (n - i) = i + 1 by omega] at hb
    rw [hb, show n - 1 - i + 1 = n - i by omega, show n + 1 - (i + 1) = n - i by omega])]
  rw [show n + 1 - 0 = n + 1 by omega]
  omega
theorem revS_bits {s t x N : Nat} (hN : N ≤ 600) : bitsB (revS (runS s t x N)) = true := by
  unfold bitsB
  have hz : (revS (runS s t x N)).size = N := by rw [revS_size, runS_size]
  rw [okB_of_zb _ (fun i hi => by
    rw [hz] at hi
    rw [zb_revS _ _ (by rw [runS_size]; omega), runS_size, zb_run (by omega)]
    omega), decide_eq_true (by omega)]
  rfl
/-- The register with reversed taps that begins as the reversed bits do has them all. -/
theorem rev_run {s t x N : Nat} (hR : RegN s t x) (ho : t % 2 = 1) {m : Nat} (h : Rev s t m) (hs : s ≤ N) :
    RegN s m (valX (revS (runS s t x N)) s) ∧ runS s m (valX (revS (runS s t x N)) s) N = revS (runS s t x N) := by
  have h2 := hR.lo
  have h8 := hR.hi
  obtain ⟨Z, hZ⟩ : ∃ Z, revS (runS s t x N) = Z := ⟨_, rfl⟩
  have hsz : Z.size = N := by rw [← hZ, revS_size, runS_size]
  have hzb : ∀ i, i < N → zb Z i = 48 + stepsN s t (N - 1 - i) x % 2 := fun i hi => by
    rw [← hZ, zb_revS _ _ (by rw [runS_size]; omega), runS_size, zb_run (by omega)]
  rw [hZ]
  have hok : okB Z Z.size = true := okB_of_zb _ fun i hi => by rw [hzb i (by omega)]; omega
  have hok2 := okB_less _ s _ (by omega) (Nat.le_refl _) hok
  have hlt : valX Z s < tw s := by
    have := valN_lt _ (allBits_of Z s (by omega) hok2)
    rw [List.length_take, show Z.data.toList.length = Z.size from rfl, Nat.min_eq_left (by omega)] at this
    exact this
  have hY : RegN s m (valX Z s) := ⟨h2, h8, by have := h.odd; omega, h.lt, hlt⟩
  refine ⟨hY, ?_⟩
  have key : ∀ i, i < N → stepsN s m i (valX Z s) % 2 = stepsN s t (N - 1 - i) x % 2 := by
    intro i
    induction i using Nat.strongRecOn with
    | _ i ih =>
      intro hi
      by_cases hlt : i < s
      · rw [first_bit i hlt, val_bit (by omega) hlt hok2, hzb i hi]; omega
      · obtain ⟨k, rfl⟩ : ∃ k, i = k + s := ⟨i - s, by omega⟩
        rw [next_bit hY k, tsum_congr (g := fun j => (fun q => stepsN s t (N - 1 - (k + s) + q) x % 2) (s - j)) s (fun j hj => by
          rw [ih (k + j) (by omega) (by omega)]
          show _ = stepsN s t (N - 1 - (k + s) + (s - j)) x % 2
          rw [show N - 1 - (k + s) + (s - j) = N - 1 - (k + j) by omega])]
        have e := tsum_rev h2 ho h (fun q => stepsN s t (N - 1 - (k + s) + q) x % 2)
        have e2 := next_bit hR (N - 1 - (k + s))
        simp only [Nat.add_zero] at e
        show tsum m (fun j => stepsN s t (N - 1 - (k + s) + (s - j)) x % 2) s % 2 = _
        omega
  refine ba_ext (by rw [runS_size, hsz]) fun i hi => ?_
  rw [runS_size] at hi
  rw [zb_run hi, hzb i hi, key i hi]
end Go.Proofs.Ytmlmpekhcnjehaa
