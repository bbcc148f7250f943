/- Repeated bits of which fewer than half are wrong: the mathematics. -/
import Derived.Test.YtkpiloefmhhclaaFrm4
import Derived.Test.YtkpiloefmhhclaaSsFlip
namespace Go.Proofs.Ytkpiloefmhhclaa
open Go.RowKit
set_option linter.unusedVariables false
set_option maxRecDepth 100000
/-- Whether one of the first places that a round changes is this one. -/
def hitK (m c kk r : Nat) : Bool := (List.range kk).any (fun k => decide ((2 * k + c) % m = r))
theorem hitK_succ (m c kk r : Nat) : hitK m c (kk + 1) r = (hitK m c kk r || decide ((2 * kk + c) % m = r)) := by
  unfold hitK; rw [List.range_succ, List.any_append]; simp
theorem hitK_zero (m c r : Nat) : hitK m c 0 r = false := rfl
theorem hitK_mod (m c kk r : Nat) : hitK m (c % m) kk r = hitK m c kk r := by
  unfold hitK
  congr 1
  funext k
  rw [Nat.add_mod_mod]
theorem mod_same {a b m : Nat} (h : a % m = b % m) (h1 : a ≤ b) (h2 : b < a + m) : a = b := by
  have h3 := Nat.sub_mod_eq_zero_of_mod_eq h.symm
  rw [Nat.mod_eq_of_lt (by omega)] at h3
  omega
theorem hitK_new {m c : Nat} (ho : m % 2 = 1) {kk : Nat} (h : kk < m / 2) : hitK m c kk ((2 * kk + c) % m) = false := by
  unfold hitK
  rw [List.any_eq_false]
  intro k hk
  have hk2 := List.mem_range.1 hk
  simp only [decide_eq_true_eq]
  intro e
  have := mod_same e (by omega) (by omega)
  omega
theorem hit_sum {m : Nat} (h9 : m ≤ 9) (ho : m % 2 = 1) (c : Nat) : sumI (fun r => if hitK m c (m / 2) r then -1 else 1) m = 1 := by
  have e : (fun r => if hitK m c (m / 2) r then (-1 : Int) else 1) = fun r => if hitK m (c % m) (m / 2) r then -1 else 1 := by funext r; rw [hitK_mod]
  rw [e]
  have hc := Nat.mod_lt c (show 0 < m by omega)
  obtain ⟨d, hd⟩ : ∃ d, c % m = d := ⟨_, rfl⟩
  rw [hd] at hc ⊢
  have hm : m = 1 ∨ m = 3 ∨ m = 5 ∨ m = 7 ∨ m = 9 := by omega
  rcases hm with rfl | rfl | rfl | rfl | rfl
  · exact (by decide : ∀ d, d < 1 → sumI (fun r => if hitK 1 d (1 / 2) r then (-1 : Int) else 1) 1 = 1) d hc
  · exact (by decide : ∀ d, d < 3 → sumI (fun r => if hitK 3 d (3 / 2) r then (-1 : Int) else 1) 3 = 1) d hc
  · exact (by decide : ∀ d, d < 5 → sumI (fun r => if hitK 5 d (5 / 2) r then (-1 : Int) else 1) 5 = 1) d hc
  · exact (by decide : ∀ d, d < 7 → sumI (fun r => if hitK 7 d (7 / 2) r then (-1 : Int) else 1) 7 = 1) d hc
  · exact (by decide : ∀ d, d < 9 → sumI (fun r => if hitK 9 d (9 / 2) r then (-1 : Int) else 1) 9 = 1) d hc
/-- The bits with the changes of the rounds so far. -/
def fX (z : ByteArray) (m L i kk p : Nat) : Nat :=
  if (p / m < i ∧ hitK m (L + p / m) (m / 2) (p % m) = true) ∨ (p / m = i ∧ hitK m (L + i) kk (p % m) = true) then 97 - zb z (p / m) else zb z (p / m)
def FXS (z : ByteArray) (m L i kk : Nat) : ByteArray := strF (z.size * m) (fX z m L i kk)
theorem FXS_size (z : ByteArray) (m L i kk : Nat) : (FXS z m L i kk).size = z.size * m := strF_size _ _
theorem fX_lt (z : ByteArray) (m L i kk p : Nat) : fX z m L i kk p < 256 := by have := zb_lt z (p / m); unfold fX; split <;> omega
theorem zb_FXS {z : ByteArray} {m L i kk p : Nat} (h : p < z.size * m) : zb (FXS z m L i kk) p = fX z m L i kk p := zb_strF h (fX_lt _ _ _ _ _ _)
theorem FXS_ok {z : ByteArray} (ho : okB z z.size = true) {m : Nat} (hm : 1 ≤ m) (L i kk : Nat) : okB (FXS z m L i kk) (FXS z m L i kk).size = true := okB_of_zb _ fun p hp => by
  rw [FXS_size] at hp
  rw [zb_FXS hp]
  have hq : p / m < z.size := (Nat.div_lt_iff_lt_mul hm).2 hp
  unfold fX
  rcases okB_zb z ho _ hq with e | e <;> rw [e] <;> split <;> simp
theorem FXS_start (z : ByteArray) (m L : Nat) : FXS z m L 0 0 = repS z m := by
  unfold FXS repS
  refine strF_congr fun p hp => ?_
  unfold fX
  rw [if_neg]
  rintro (⟨h, _⟩ | ⟨_, h⟩)
  · exact absurd h (Nat.not_lt_zero _)
  · rw [hitK_zero] at h; cases h
theorem FXS_round (z : ByteArray) (m L i : Nat) : FXS z m L i (m / 2) = FXS z m L (i + 1) 0 := by
  unfold FXS
  refine strF_congr fun p hp => ?_
  unfold fX
  by_cases h1 : p / m < i
  · by_cases h2 : hitK m (L + p / m) (m / 2) (p % m) = true
    · rw [if_pos (.inl ⟨h1, h2⟩), if_pos (.inl ⟨by omega, h2⟩)]
    · rw [if_neg, if_neg]
      · rintro (⟨_, h⟩ | ⟨h, _⟩)
        · exact h2 h
        · omega
      · rintro (⟨_, h⟩ | ⟨h, _⟩)
        · exact h2 h
        · omega
  · by_cases h3 : p / m = i
    · by_cases h2 : hitK m (L + i) (m / 2) (p % m) = true
      · rw [if_pos (.inr ⟨h3, h2⟩), if_pos (.inl ⟨by omega, by rw [h3]; exact h2⟩)]
      · rw [if_neg, if_neg]
        · rintro (⟨_, h⟩ | ⟨h, _⟩)
          · rw [h3] at h; exact h2 h
          · omega
        · rintro (⟨h, _⟩ | ⟨_, h⟩)
          · omega
          · exact h2 h
    · rw [if_neg, if_neg]
      · rintro (⟨h, _⟩ | ⟨_, h⟩)
        · omega
        · rw [hitK_zero] at h; cases h
      · rintro (⟨h, _⟩ | ⟨h, _⟩) <;> omega
theorem FXS_next {z : ByteArray} {m : Nat} (hm : 1 ≤ m) (ho : m % 2 = 1) (L i kk : Nat) (hk : kk < m / 2) : flipS (FXS z m L i kk) (i * m + (2 * kk + (L + i)) % m) = FXS z m L i (kk + 1) := by
  have hR := Nat.mod_lt (2 * kk + (L + i)) hm
  have hnew := hitK_new (m := m) (c := L + i) ho hk
  obtain ⟨R, hRR⟩ : ∃ R, (2 * kk + (L + i)) % m = R := ⟨_, rfl⟩
  have hsc := fun r => hitK_succ m (L + i) kk r
  rw [hRR] at hR hnew ⊢
  rw [hRR] at hsc
  unfold flipS
  rw [FXS_size]
  show _ = strF (z.size * m) _
  refine strF_congr fun p hp => ?_
  rw [zb_FXS hp]
  have hpm := Nat.div_add_mod p m
  have hpr := Nat.mod_lt p hm
  by_cases e : p = i * m + R
  · have e1 : p / m = i := by rw [e, Nat.mul_comm, Nat.mul_add_div hm, Nat.div_eq_of_lt hR, Nat.add_zero]
    have e2 : p % m = R := by rw [e, Nat.mul_comm, Nat.mul_add_mod, Nat.mod_eq_of_lt hR]
    rw [if_pos e]
    unfold fX
    rw [e1, e2, hsc R, hnew, decide_eq_true rfl]
    rw [if_neg, if_pos (.inr ⟨rfl, rfl⟩)]
    rintro (⟨h, _⟩ | ⟨_, h⟩)
    · omega
    · cases h
  · rw [if_neg e]
    unfold fX
    by_cases h3 : p / m = i
    · have hne : ¬ R = p % m := fun h => e (by rw [h, ← h3, Nat.mul_comm]; exact hpm.symm)
      rw [hsc (p % m), decide_eq_false hne, Bool.or_false]
    · by_cases h1 : p / m < i ∧ hitK m (L + p / m) (m / 2) (p % m) = true
      · rw [if_pos (.inl h1), if_pos (.inl h1)]
      · rw [if_neg, if_neg]
        · rintro (h | ⟨h, _⟩)
          · exact h1 h
          · exact h3 h
        · rintro (h | ⟨h, _⟩)
          · exact h1 h
          · exact h3 h
theorem pos_lt {n m i r : Nat} (hi : i < n) (hr : r < m) : i * m + r < n * m := by
  have h : (i + 1) * m ≤ n * m := Nat.mul_le_mul_right _ hi
  rw [Nat.add_mul, Nat.one_mul] at h; omega
/-- Which bit a block's majority is. -/
theorem bal_block {z Y : ByteArray} {m i : Nat} (b : Nat → Bool) (hY : i * m + m ≤ Y.size) (hb : ∀ r, r < m → zb Y (i * m + r) = if b r then 97 - zb z i else zb z i) (hs : 0 < sumI (fun r => if b r then -1 else 1) m) :
    (zb z i = 49 → 0 < balN (Y.extract (i * m) (i * m + m))) ∧ (zb z i = 48 → balN (Y.extract (i * m) (i * m + m)) < 0) := by
  have hsz : (Y.extract (i * m) (i * m + m)).size = m := by rw [size_extract _ _ _ hY]; omega
  have hz : ∀ r, r < m → zb (Y.extract (i * m) (i * m + m)) r = if b r then 97 - zb z i else zb z i := fun r hr => by rw [zb_extract _ _ _ _ hY (by omega), hb r hr]
  unfold balN
  rw [hsz]
  constructor
  · intro h
    rw [sumI_congr (g := fun r => if b r then -1 else 1) m (fun r hr => by rw [hz r hr, h]; cases b r <;> rfl)]
    exact hs
  · intro h
    rw [sumI_congr (g := fun r => -(if b r then -1 else 1)) m (fun r hr => by rw [hz r hr, h]; cases b r <;> rfl), sumI_neg]
    omega
theorem maj_back {z Y : ByteArray} (ho : okB z z.size = true) {m : Nat} (hm : 1 ≤ m) (hY : Y.size = z.size * m)
    (h : ∀ i, i < z.size → (zb z i = 49 → 0 < balN (Y.extract (i * m) (i * m + m))) ∧ (zb z i = 48 → balN (Y.extract (i * m) (i * m + m)) < 0)) : majS Y m = z := by
  symm
  unfold majS
  rw [hY, Nat.mul_div_cancel _ hm]
  apply strF_of _ _ _ rfl
  intro i hi
  obtain ⟨h1, h2⟩ := h i hi
  have hle : i * m + m ≤ Y.size := by
    have h : (i + 1) * m ≤ z.size * m := Nat.mul_le_mul_right _ hi
    rw [Nat.add_mul, Nat.one_mul] at h; omega
  have hsz : (Y.extract (i * m) (i * m + m)).size = m := by rw [size_extract _ _ _ hle]; omega
  rw [balN_ones, hsz] at h1 h2
  unfold majF
  rcases okB_zb z ho i hi with e | e
  · have := h2 e
    rw [e, if_neg (by omega)]
  · have := h1 e
    rw [e, if_pos (by omega)]
theorem one_sum {m : Nat} (h1 : 1 ≤ m) : 0 < sumI (fun _ => if false = true then (-1 : Int) else 1) m := by
  have : ∀ n, sumI (fun _ => if false = true then (-1 : Int) else 1) n = n := fun n => by
    induction n with
    | zero => rfl
    | succ n ih => simp only [sumI, ih]; simp
  rw [this]; omega
theorem maj_rep {z : ByteArray} (ho : okB z z.size = true) {m : Nat} (hm : 1 ≤ m) : majS (repS z m) m = z := by
  refine maj_back ho hm (strF_size _ _) fun i hi => bal_block (fun _ => false) ?_ (fun r hr => ?_) (one_sum hm)
  · have h : (i + 1) * m ≤ z.size * m := Nat.mul_le_mul_right _ hi
    rw [Nat.add_mul, Nat.one_mul] at h
    have : (repS z m).size = z.size * m := strF_size _ _
    omega
  · have e : zb (repS z m) (i * m + r) = zb z ((i * m + r) / m) := zb_strF (f := fun i => zb z (i / m)) (pos_lt hi hr) (zb_lt _ _)
    rw [e, Nat.mul_comm, Nat.mul_add_div hm, Nat.div_eq_of_lt hr, Nat.add_zero]; simp
theorem maj_FXS {z : ByteArray} (ho : okB z z.size = true) {m : Nat} (hm : 1 ≤ m) (h9 : m ≤ 9) (hodd : m % 2 = 1) (L : Nat) : majS (FXS z m L z.size 0) m = z := by
  refine maj_back ho hm (FXS_size _ _ _ _ _) fun i hi => bal_block (fun r => hitK m (L + i) (m / 2) r) ?_ (fun r hr => ?_) (by rw [hit_sum h9 hodd]; decide)
  · have h : (i + 1) * m ≤ z.size * m := Nat.mul_le_mul_right _ hi
    rw [Nat.add_mul, Nat.one_mul] at h
    rw [FXS_size]; omega
  · rw [zb_FXS (pos_lt hi hr)]
    unfold fX
    have e1 : (i * m + r) / m = i := by rw [Nat.mul_comm, Nat.mul_add_div hm, Nat.div_eq_of_lt hr, Nat.add_zero]
    have e2 : (i * m + r) % m = r := by rw [Nat.mul_comm, Nat.mul_add_mod, Nat.mod_eq_of_lt hr]
    rw [e1, e2]
    cases hb : hitK m (L + i) (m / 2) r with
    | true => rw [if_pos (.inl ⟨hi, rfl⟩)]; rfl
    | false =>
      rw [if_neg]
      · rfl
      · rintro (⟨_, h⟩ | ⟨h, _⟩)
        · cases h
        · omega
theorem majAns_yes {z Y : ByteArray} {m : Nat} (h1 : 1 ≤ m) (h9 : m ≤ 9) (ho : m % 2 = 1) (hb : bitsB Y = true) (hs : Y.size = z.size * m) (h : majS Y m = z) : majAns Y m = (z, true) := by
  unfold majAns
  rw [Int.toNat_natCast, h, if_pos ⟨hb, (repsB_iff _).2 ⟨by omega, by omega, by have e := mod_value m 2; rw [show ((2 : Nat) : Int) = 2 from rfl] at e; rw [e]; omega⟩, by rw [hs, Nat.mul_mod_left]⟩]
end Go.Proofs.Ytkpiloefmhhclaa
