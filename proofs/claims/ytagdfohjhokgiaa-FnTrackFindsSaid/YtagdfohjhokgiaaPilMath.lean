/- Plain numbers of chapter 5: the first place that is good enough, the greatest number's first place, steps of a loop. -/
import Derived.Test.YtagdfohjhokgiaaPil2
namespace Go.Proofs.Ytagdfohjhokgiaa
open Go.RowKit
set_option linter.unusedVariables false
set_option maxRecDepth 100000
/-- The first one of m places that is good, m if none is. -/
def fq (q : Nat → Bool) : Nat → Nat
  | 0 => 0
  | m + 1 => if fq q m < m then fq q m else if q m then m else m + 1
theorem fq_le (q : Nat → Bool) : ∀ m, fq q m ≤ m
  | 0 => Nat.le_refl _
  | m + 1 => by
    have := fq_le q m
    simp only [fq]
    split
    · omega
    · split <;> omega
theorem fq_none {q : Nat → Bool} {m : Nat} (h : fq q m = m) : ∀ i, i < m → q i = false := by
  induction m with
  | zero => intro i hi; omega
  | succ m ih =>
    intro i hi
    have hl := fq_le q m
    simp only [fq] at h
    by_cases h1 : fq q m < m
    · rw [if_pos h1] at h; omega
    · rw [if_neg h1] at h
      cases hq : q m with
      | true => rw [hq] at h; simp at h
      | false =>
        by_cases e : i = m
        · rw [e]; exact hq
        · exact ih (by omega) i (by omega)
theorem fq_all {q : Nat → Bool} : ∀ m, (∀ i, i < m → q i = false) → fq q m = m
  | 0, _ => rfl
  | m + 1, h => by
    simp only [fq]
    rw [fq_all m (fun i hi => h i (by omega)), if_neg (Nat.lt_irrefl m), h m (by omega)]
    rfl
theorem fq_found {q : Nat → Bool} {j : Nat} (hq : q j = true) (h : ∀ i, i < j → q i = false) : ∀ m, j < m → fq q m = j
  | 0, hm => by omega
  | m + 1, hm => by
    simp only [fq]
    by_cases e : j = m
    · subst e
      rw [fq_all j h, if_neg (Nat.lt_irrefl j), hq]; rfl
    · rw [fq_found hq h m (by omega), if_pos (by omega)]
/-- How many offsets a search looks at. -/
def lkN (P s : Nat) : Nat := (P + s - 1) / s
theorem lk_iff {P s j : Nat} (hs : 1 ≤ s) : j < lkN P s ↔ j * s < P := by
  unfold lkN
  rw [Nat.lt_div_iff_mul_lt (by omega)]
  constructor <;> intro h <;> omega
/-- The answers of a search: the offset and how many scores were taken. -/
def lkQ (n : Nat) (f : Nat → Int) (c : ByteArray) (G P s : Nat) (t : Int) (j : Nat) : Bool := decide (t ≤ scr n f c G P ((j * s : Nat) : Int))
def lkAns (n : Nat) (f : Nat → Int) (c : ByteArray) (g s t : Int) : Int × Int :=
  if sigB n f && (pilB c g && (decide (1 ≤ s) && decide (s ≤ 8))) then
    (let m := lkN (perL c g) s.toNat
     let j := fq (lkQ n f c g.toNat (perL c g) s.toNat t) m
     if j < m then (((j * s.toNat : Nat) : Int), (j : Int) + 1) else (-1, (m : Int)))
  else (-1, -1)
/-- The first place of the greatest of n numbers. -/
def amx (f : Nat → Int) : Nat → Nat
  | 0 => 0
  | n + 1 => if f (amx f n) < f n then n else amx f n
theorem amx_lt (f : Nat → Int) : ∀ n, 1 ≤ n → amx f n < n
  | 1, _ => by have e : amx f 1 = 0 := by simp [amx]
               omega
  | n + 2, _ => by
    have := amx_lt f (n + 1) (by omega)
    rw [amx]; split <;> omega
theorem amx_max (f : Nat → Int) : ∀ n i, i < n → f i ≤ f (amx f n)
  | 0, i, h => by omega
  | n + 1, i, h => by
    rw [amx]
    by_cases e : i = n
    · subst e; split <;> omega
    · have := amx_max f n i (by omega)
      split <;> omega
theorem amx_first (f : Nat → Int) : ∀ n i, i < amx f n → f i < f (amx f n)
  | 0, i, h => by simp only [amx] at h; omega
  | n + 1, i, h => by
    rw [amx] at h ⊢
    by_cases e : f (amx f n) < f n
    · rw [if_pos e] at h ⊢
      have := amx_max f n i h
      omega
    · rw [if_neg e] at h ⊢
      exact amx_first f n i h
/-- Half a chip, at least one sample. -/
def hfN (G : Nat) : Nat := max 1 (G / 2)
/-- The later score minus the earlier one. -/
def elD (n : Nat) (f : Nat → Int) (c : ByteArray) (G P : Nat) (k : Int) : Int := scr n f c G P (k + (hfN G : Int)) - scr n f c G P (k - (hfN G : Int))
def sgI (x : Int) : Int := if 0 < x then 1 else if x < 0 then -1 else 0
/-- The next offset of the loop. -/
def stN (n : Nat) (f : Nat → Int) (c : ByteArray) (G P : Nat) (k : Nat) : Nat := modN ((k : Int) + sgI (elD n f c G P (k : Int))) P
theorem stN_lt (n : Nat) (f : Nat → Int) (c : ByteArray) (G P : Nat) (k : Nat) (h : 1 ≤ P) : stN n f c G P k < P := modN_lt _ _ (by omega)
def pathN (n : Nat) (f : Nat → Int) (c : ByteArray) (G P : Nat) (k : Nat) : Nat → Nat
  | 0 => k
  | i + 1 => stN n f c G P (pathN n f c G P k i)
theorem path_lt {n : Nat} {f : Nat → Int} {c : ByteArray} {G P k : Nat} (hk : k < P) : ∀ i, pathN n f c G P k i < P
  | 0 => hk
  | i + 1 => stN_lt _ _ _ _ _ _ (by omega)
/-- What the functions answer. -/
def scAns (n : Nat) (f : Nat → Int) (c : ByteArray) (g k : Int) : Int × Bool := if sigB n f && offB c g k then (scr n f c g.toNat (perL c g) k, true) else (0, false)
def elAns (n : Nat) (f : Nat → Int) (c : ByteArray) (g k : Int) : Int × Bool := if sigB n f && offB c g k then (elD n f c g.toNat (perL c g) k, true) else (0, false)
def tsAns (n : Nat) (f : Nat → Int) (c : ByteArray) (g k : Int) : Int := if sigB n f && offB c g k then (stN n f c g.toNat (perL c g) k.toNat : Int) else -1
def tpN (n : Nat) (f : Nat → Int) (c : ByteArray) (g k s : Int) : Nat := if sigB n f && (offB c g k && (decide (0 ≤ s) && decide (s ≤ 200))) then s.toNat + 1 else 0
def tpF (n : Nat) (f : Nat → Int) (c : ByteArray) (g k : Int) (i : Nat) : Int := (pathN n f c g.toNat (perL c g) k.toNat i : Int)
def laAns (n : Nat) (f : Nat → Int) (c : ByteArray) (g k t : Int) : Bool := sigB n f && (offB c g k && (decide (stN n f c g.toNat (perL c g) k.toNat = k.toNat) && decide (t ≤ scr n f c g.toNat (perL c g) k)))
def stN5 (n : Nat) (f : Nat → Int) (c : ByteArray) (g : Int) : Nat := if sigB n f && pilB c g then perL c g else 0
def stF (n : Nat) (f : Nat → Int) (c : ByteArray) (g : Int) (k : Nat) : Int := scr n f c g.toNat (perL c g) (k : Int)
def boAns (n : Nat) (f : Nat → Int) (c : ByteArray) (g : Int) : Int := if sigB n f && pilB c g then (amx (stF n f c g) (perL c g) : Int) else -1
/-- In how many of the first periods the score is great enough. -/
def vfC (n : Nat) (f : Nat → Int) (c : ByteArray) (G P : Nat) (k t : Int) : Nat → Nat
  | 0 => 0
  | i + 1 => vfC n f c G P k t i + if t ≤ scr (n - i * P) (cutF (i * P) f) c G P k then 1 else 0
theorem vfC_le (n : Nat) (f : Nat → Int) (c : ByteArray) (G P : Nat) (k t : Int) : ∀ i, vfC n f c G P k t i ≤ i
  | 0 => Nat.le_refl _
  | i + 1 => by have := vfC_le n f c G P k t i; simp only [vfC]; split <;> omega
def vfAns (n : Nat) (f : Nat → Int) (c : ByteArray) (g k t p d : Int) : Bool := sigB n f && (offB c g k && (decide (0 ≤ p) && (decide (p ≤ 200) && decide (d ≤ (vfC n f c g.toNat (perL c g) k t p.toNat : Int)))))
theorem scr_empty {f g : Nat → Int} {c : ByteArray} {G P : Nat} {k : Int} : scr 0 f c G P k = scr 0 g c G P k := by unfold scr; rw [Nat.min_zero]; rfl
theorem scr_congr {n : Nat} {f g : Nat → Int} {c : ByteArray} {G P : Nat} {k : Int} (h : ∀ i, i < n → f i = g i) : scr n f c G P k = scr n g c G P k := by
  unfold scr scT
  exact sumI_congr _ (fun i hi => by rw [h i (by omega)])
end Go.Proofs.Ytagdfohjhokgiaa
