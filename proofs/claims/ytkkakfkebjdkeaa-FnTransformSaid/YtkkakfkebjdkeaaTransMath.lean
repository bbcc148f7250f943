/- The transform of a transform, and the sum of its squares. -/
import Derived.Test.YtkkakfkebjdkeaaFamTrans
import Derived.Test.YtkkakfkebjdkeaaWalMath
namespace Go.Proofs.Ytkkakfkebjdkeaa
open Go.RowKit
set_option linter.unusedVariables false
set_option maxRecDepth 100000
theorem sumT_congr {f g : Nat → Int} : ∀ {n}, (∀ v, v < n → f v = g v) → sumI f n = sumI g n
  | 0, _ => rfl
  | n + 1, h => by
    show sumI f n + f n = sumI g n + g n
    rw [sumT_congr (fun v hv => h v (by omega)), h n (by omega)]
theorem sumT_mul (c : Int) (f : Nat → Int) : ∀ n, sumI (fun k => c * f k) n = c * sumI f n
  | 0 => by simp [sumI]
  | n + 1 => by
    show sumI (fun k => c * f k) n + c * f n = c * (sumI f n + f n)
    rw [sumT_mul c f n, Int.mul_add]
theorem sumT_mulR (c : Int) (f : Nat → Int) : ∀ n, sumI (fun k => f k * c) n = sumI f n * c
  | 0 => by simp [sumI]
  | n + 1 => by
    show sumI (fun k => f k * c) n + f n * c = (sumI f n + f n) * c
    rw [sumT_mulR c f n, Int.add_mul]
theorem sumT_zero : ∀ n, sumI (fun _ => 0) n = 0
  | 0 => rfl
  | n + 1 => by show sumI (fun _ => 0) n + 0 = 0; rw [sumT_zero n]; rfl
theorem sumT_add (f g : Nat → Int) : ∀ n, sumI (fun k => f k + g k) n = sumI f n + sumI g n
  | 0 => by simp [sumI]
  | n + 1 => by
    show sumI (fun k => f k + g k) n + (f n + g n) = (sumI f n + f n) + (sumI g n + g n)
    rw [sumT_add f g n]; omega
theorem sumT_swap (f : Nat → Nat → Int) (n : Nat) : ∀ m, sumI (fun k => sumI (fun i => f k i) n) m = sumI (fun i => sumI (fun k => f k i) m) n
  | 0 => by
    show (0 : Int) = sumI (fun i => 0) n
    rw [sumT_zero]
  | m + 1 => by
    show sumI (fun k => sumI (fun i => f k i) n) m + sumI (fun i => f m i) n = sumI (fun i => sumI (fun k => f k i) m + f m i) n
    rw [sumT_swap f n m, sumT_add]
theorem sumT_at (f : Nat → Int) (c : Int) (m : Nat) : ∀ n, sumI (fun i => f i * (if i = m then c else 0)) n = if m < n then f m * c else 0
  | 0 => by simp [sumI]
  | n + 1 => by
    show sumI (fun i => f i * (if i = m then c else 0)) n + f n * (if n = m then c else 0) = _
    rw [sumT_at f c m n]
    by_cases h : n = m
    · subst h; rw [if_pos rfl, if_neg (by omega), if_pos (by omega), Int.zero_add]
    · rw [if_neg h, Int.mul_zero, Int.add_zero]
      by_cases h2 : m < n
      · rw [if_pos h2, if_pos (by omega)]
      · rw [if_neg h2, if_neg (by omega)]
theorem wv_comm (i k : Nat) : wv i k = wv k i := by unfold wv walF; rw [Nat.and_comm]
theorem wv_agr (i m v : Nat) : wv i v * wv m v = agr (48 + walF i v) (48 + walF m v) := by
  have h1 := walF_lt i v
  have h2 := walF_lt m v
  unfold agr
  rcases (show walF i v = 0 ∨ walF i v = 1 by omega) with e | e <;> rcases (show walF m v = 0 ∨ walF m v = 1 by omega) with e' | e'
  · rw [wv_zero e, wv_zero e', e, e']; rfl
  · rw [wv_zero e, wv_one e', e, e']; rfl
  · rw [wv_one e, wv_zero e', e, e']; rfl
  · rw [wv_one e, wv_one e', e, e']; rfl
theorem wv_sum (n i m : Nat) : sumI (fun v => wv i v * wv m v) n = sumI (fun v => agr (zb (walshB n i) v) (shB (walshB n m) 0 v)) n :=
  sumT_congr fun v hv => by
    have e : shB (walshB n m) 0 v = zb (walshB n m) v := by
      unfold shB
      rw [walshB_size, Nat.zero_add, Nat.mod_eq_of_lt hv]
    rw [wv_agr, e, zb_walsh n i v hv, zb_walsh n m v hv]
theorem wv_orth {o i m : Nat} (ho : o ≤ 6) (hi : i < tw o) (hm : m < tw o) : sumI (fun v => wv i v * wv m v) (tw o) = if i = m then ((tw o : Nat) : Int) else 0 := by
  have h := cross_wal ho hi hm
  unfold crossN at h
  rw [walshB_size] at h
  rw [wv_sum, h]
theorem trF_twice {o m : Nat} (ho : o ≤ 6) (hm : m < tw o) (z : Nat → Int) : trF (tw o) (trF (tw o) z) m = ((tw o : Nat) : Int) * z m := by
  have e1 : trF (tw o) (trF (tw o) z) m = sumI (fun k => sumI (fun i => z i * (wv i k * wv m k)) (tw o)) (tw o) := by
    show sumI (fun k => trF (tw o) z k * wv m k) (tw o) = _
    refine sumT_congr fun k hk => ?_
    show sumI (fun i => z i * wv k i) (tw o) * wv m k = _
    rw [← sumT_mulR]
    refine sumT_congr fun i hi => ?_
    rw [wv_comm k i, Int.mul_assoc]
  rw [e1, sumT_swap]
  have e2 : sumI (fun i => sumI (fun k => z i * (wv i k * wv m k)) (tw o)) (tw o) = sumI (fun i => z i * (if i = m then ((tw o : Nat) : Int) else 0)) (tw o) := by
    refine sumT_congr fun i hi => ?_
    rw [sumT_mul, wv_orth ho hi hm]
  rw [e2, sumT_at, if_pos hm, Int.mul_comm]
theorem trF_square {o : Nat} (ho : o ≤ 6) (z : Nat → Int) : sumI (fun k => trF (tw o) z k * trF (tw o) z k) (tw o) = ((tw o : Nat) : Int) * sumI (fun i => z i * z i) (tw o) := by
  have e1 : sumI (fun k => trF (tw o) z k * trF (tw o) z k) (tw o) = sumI (fun k => sumI (fun m => z m * (trF (tw o) z k * wv m k)) (tw o)) (tw o) := by
    refine sumT_congr fun k hk => ?_
    have : trF (tw o) z k * trF (tw o) z k = trF (tw o) z k * sumI (fun m => z m * wv k m) (tw o) := rfl
    rw [this, ← sumT_mul]
    refine sumT_congr fun m hm => ?_
    rw [wv_comm k m, Int.mul_left_comm]
  rw [e1, sumT_swap, ← sumT_mul]
  refine sumT_congr fun m hm => ?_
  rw [sumT_mul]
  have h := trF_twice ho hm z
  have h2 : sumI (fun k => trF (tw o) z k * wv m k) (tw o) = ((tw o : Nat) : Int) * z m := h
  rw [h2, Int.mul_left_comm]
end Go.Proofs.Ytkkakfkebjdkeaa
