/- Contracts of LeastPeriod and ShiftBetween, of both sides. -/
import Derived.Test.YtmlmpekhcnjehaaSeqFun
namespace Go.Proofs.Ytmlmpekhcnjehaa
open Go.RowKit
set_option linter.unusedVariables false
/-- The first number from k on, of the next f, that p holds of; else k + f. -/
def findN (p : Nat → Bool) : Nat → Nat → Nat
  | 0, k => k
  | f + 1, k => if p k then k else findN p f (k + 1)
theorem findN_le (p : Nat → Bool) : ∀ f k, k ≤ findN p f k ∧ findN p f k ≤ k + f
  | 0, k => by simp [findN]
  | f + 1, k => by
    simp only [findN]
    split
    · omega
    · have := findN_le p f (k + 1); omega
theorem findN_no (p : Nat → Bool) : ∀ f k m, k ≤ m → m < findN p f k → p m = false
  | 0, k, m, h1, h2 => by simp only [findN] at h2; omega
  | f + 1, k, m, h1, h2 => by
    simp only [findN] at h2
    split at h2
    · omega
    · rename_i hp
      by_cases e : m = k
      · subst e; simpa using hp
      · exact findN_no p f (k + 1) m (by omega) h2
theorem findN_yes (p : Nat → Bool) : ∀ f k, findN p f k < k + f → p (findN p f k) = true
  | 0, k, h => by simp only [findN] at h; omega
  | f + 1, k, h => by
    simp only [findN] at h ⊢
    split
    · assumption
    · rename_i hp
      rw [if_neg hp] at h
      exact findN_yes p f (k + 1) (by omega)
theorem findN_ex (p : Nat → Bool) (f k m : Nat) (h1 : k ≤ m) (h2 : m < k + f) (hp : p m = true) : findN p f k ≤ m := by
  rcases Nat.lt_or_ge m (findN p f k) with h | h
  · rw [findN_no p f k m h1 h] at hp; cases hp
  · exact h
theorem shift_zero (z : ByteArray) (k : Int) (h : modN k z.size = 0) : shift z k = z := by
  unfold shift
  rw [h]
  exact (strF_of z _ _ rfl fun i hi => by unfold shB; rw [Nat.zero_add, Nat.mod_eq_of_lt hi]).symm
theorem shift_full (z : ByteArray) (h : 1 ≤ z.size) : shift z (z.size : Nat) = z := shift_zero z _ (by rw [modN_of_nat]; exact Nat.mod_self _)
/-- After how many bits a sequence repeats. -/
def leastP (z : ByteArray) : Nat := findN (fun k => decide (shift z (k : Nat) = z)) z.size 1
theorem leastP_bd (z : ByteArray) (h : 1 ≤ z.size) : 1 ≤ leastP z ∧ leastP z ≤ z.size :=
  ⟨(findN_le _ _ _).1, findN_ex _ _ _ z.size h (by omega) (by simpa using shift_full z h)⟩
theorem leastP_yes (z : ByteArray) (h : 1 ≤ z.size) : shift z (leastP z : Nat) = z := by
  have h1 := (leastP_bd z h).2
  have := findN_yes (fun k => decide (shift z (k : Nat) = z)) z.size 1 (by unfold leastP at h1; omega)
  exact of_decide_eq_true this
theorem leastP_no (z : ByteArray) (k : Nat) (h1 : 1 ≤ k) (h2 : k < leastP z) : ¬ shift z (k : Nat) = z := by
  have := findN_no _ _ _ k h1 h2
  simpa using this
def leastAns (z : ByteArray) : Int := if seqB z then (leastP z : Nat) else -1
/-- The least shift by which a becomes b; the length if there is none. -/
def betweenN (a b : ByteArray) : Nat := findN (fun k => decide (shift a (k : Nat) = b)) a.size 0
theorem betweenN_le (a b : ByteArray) : betweenN a b ≤ a.size := by have := (findN_le (fun k => decide (shift a (k : Nat) = b)) a.size 0).2; unfold betweenN; omega
theorem betweenN_no (a b : ByteArray) (k : Nat) (h : k < betweenN a b) : ¬ shift a (k : Nat) = b := by
  have := findN_no _ _ _ k (Nat.zero_le _) h
  simpa using this
theorem betweenN_yes (a b : ByteArray) (h : betweenN a b < a.size) : shift a (betweenN a b : Nat) = b := by
  have := findN_yes (fun k => decide (shift a (k : Nat) = b)) a.size 0 (by unfold betweenN at h; omega)
  exact of_decide_eq_true this
def betweenAns (a b : ByteArray) : Int × Bool := if pairB a b && decide (betweenN a b < a.size) then ((betweenN a b : Nat), true) else noI
set_option maxRecDepth 100000 in
theorem iBetween_pair (a b : ByteArray) (w : World) (h : pairB a b = true) :
    Calls Try.prog 19 #[.string a, .string b] w fun e w' => e = .returned (.tuple #[.int .i64 (betweenAns a b).1, .bool (betweenAns a b).2]) ∧ Below w.heap.size w w' := by
  have h12 := size_le ((pairB_iff a b).1 h).1
  have HL := Lib.hid (betweenN_le a b)
  have HN := Lib.hid (betweenN_no a b)
  have HY := Lib.hid (betweenN_yes a b)
  have HA : Hid (betweenN a b < a.size → betweenAns a b = (((betweenN a b : Nat) : Int), true)) := fun hlt => by unfold betweenAns; rw [h, decide_eq_true hlt]; rfl
  have HB : Hid (¬ betweenN a b < a.size → betweenAns a b = noI) := fun hlt => by unfold betweenAns; rw [h, decide_eq_false hlt]; rfl
  have HT := Lib.hid (fun (k : Nat) w => turned_any a (k : Int) w h12.1 h12.2)
  have HM := Lib.hid (fun (k : Nat) => modN_lt (k : Int) a.size (by omega))
  have HZ := Lib.hid (fun (k : Nat) (w' : World) (g : Nat) (hR : Bytes w' g 5 (2 * a.size) (fun i => zb a (i % a.size))) => turned_str hR (k : Int) h12.1)
  obtain ⟨N, hN⟩ : ∃ N, betweenN a b = N := ⟨_, rfl⟩
  rw [hN] at HL HN HY HA HB
  obtain ⟨A, hA⟩ : ∃ A, betweenAns a b = A := ⟨_, rfl⟩
  rw [hA] at HA HB ⊢
  clear hN hA
  go_enter Try.func19, Try.ntmps19
  go_wp2_with (first | (go_at_call 40; refine (iPair_yes a b _ h).mono ?_; rintro e w1 ⟨rfl, rfl⟩))
  go_loopw [13] (fun i wr => ∃ k : Nat, k ≤ N ∧ i = .int .i64 k ∧ Below w.heap.size w wr) (fun i _ => N - (intOf i).toNat)
  case atStart => exact ⟨0, by omega, rfl, Below.refl _ _⟩
  case round =>
    obtain ⟨k, hk2, rfl, hb⟩ := hrel
    have hNB := HL.out
    clear h
    by_cases hlt : k < a.size
    · have hm := HM.out k
      by_cases he : shift a (k : Nat) = b
      · have hst := fun w' g hR cap => HZ.out k w' g hR cap
        rw [he] at hst
        have HS := Lib.hid hst
        have HK : Hid (k = N) := Lib.hid (by
          rcases Nat.lt_or_ge k N with h | h
          · exact absurd he (HN.out k h)
          · omega)
        clear he hst
        go_wp2_with fail
        refine (HT.out k _).mono ?_
        rintro e w1 ⟨rfl, hR, hB⟩
        have hcv := HS.out _ _ hR
        have qb := below_then hb (Nat.le_refl _) hB
        clear hR hB hb
        go_wp2
        go_ret2
        exact ⟨ret_ans (by rw [HA.out (by rw [← HK.out]; exact hlt), HK.out]), qb⟩
      · have hst := fun w' g hR cap => HZ.out k w' g hR cap
        have HK : Hid (k < N) := Lib.hid (by
          rcases Nat.lt_or_ge k N with h | h
          · exact h
          · obtain rfl : k = N := by omega
            exact absurd (HY.out hlt) he)
        obtain ⟨y, hy⟩ : ∃ y, shift a (k : Nat) = y := ⟨_, rfl⟩
        rw [hy] at he hst
        have se := str_ne he
        have sn := str_ne' he
        have HS := Lib.hid hst
        clear hy hst
        go_wp2_with fail
        refine (HT.out k _).mono ?_
        rintro e w1 ⟨rfl, hR, hB⟩
        have hcv := HS.out _ _ hR
        have qb := below_then hb (Nat.le_refl _) hB
        clear hR hB hb
        go_wp2
        go_roundw
        case rel => exact ⟨k + 1, by have := HK.out; omega, by go_num, qb⟩
        case measure => have := HK.out; simp [intOf]; omega
    · go_wp2
      go_ret2
      exact ⟨ret_ans (by rw [HB.out (by omega)]; rfl), hb⟩
set_option maxRecDepth 100000 in
theorem iBetween_any (a b : ByteArray) (w : World) (ha : a.size ≤ 9223372036854775807) (hb : b.size ≤ 9223372036854775807) :
    Calls Try.prog 19 #[.string a, .string b] w fun e w' => e = .returned (.tuple #[.int .i64 (betweenAns a b).1, .bool (betweenAns a b).2]) ∧ Below w.heap.size w w' := by
  cases h : pairB a b with
  | true => exact iBetween_pair a b w h
  | false =>
    rw [show betweenAns a b = noI by unfold betweenAns; rw [h]; rfl]
    go_enter Try.func19, Try.ntmps19
    go_wp2_with (first | (go_at_call 40; refine (iPair_no a b _ ha hb h).mono ?_; rintro e w1 ⟨rfl, rfl⟩))
    go_ret2
    exact ⟨rfl, Below.refl _ _⟩
end Go.Proofs.Ytmlmpekhcnjehaa
