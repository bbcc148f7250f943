/- SignsOf, EnergyOf and BitErrors: contracts of both sides. -/
import Derived.Test.YthfcfnamaedffaaSig2
namespace Go.Proofs.Ythfcfnamaedffaa
open Go.RowKit
set_option linter.unusedVariables false
set_option maxRecDepth 100000
def sgAns (n : Nat) (f : Nat → Int) : ByteArray × Bool := if sigB n f && decide (n ≤ 600) then (sgS n f, true) else noS
theorem sq_bd {y : Int} (h1 : -1000000 ≤ y) (h2 : y ≤ 1000000) : 0 ≤ y * y ∧ y * y ≤ 1000000000000 := by
  rcases Int.le_total 0 y with h | h
  · exact ⟨Int.mul_nonneg h h, by have := Int.mul_le_mul h2 h2 h (by omega); omega⟩
  · have h3 : 0 ≤ -y := by omega
    have h4 : -y ≤ 1000000 := by omega
    have e : -y * -y = y * y := Int.neg_mul_neg y y
    exact ⟨by rw [← e]; exact Int.mul_nonneg h3 h3, by rw [← e]; have := Int.mul_le_mul h4 h4 h3 (by omega); omega⟩
/-- The sum of the squares. -/
def enF (f : Nat → Int) : Nat → Int := sumI (fun i => f i * f i)
theorem enF_succ (f : Nat → Int) (k : Nat) : enF f (k + 1) = enF f k + f k * f k := rfl
theorem enF_bd {n : Nat} {f : Nat → Int} (h : allM n f = true) : ∀ k, k ≤ n → 0 ≤ enF f k ∧ enF f k ≤ 1000000000000 * (k : Int)
  | 0, _ => by simp [enF, sumI]
  | k + 1, hk => by
    have ih := enF_bd h k (by omega)
    have hz := allM_at h (show k < n by omega)
    have := sq_bd hz.1 hz.2
    rw [enF_succ]; omega
def enAns (n : Nat) (f : Nat → Int) : Int := if sigB n f then enF f n else -1
/-- In how many places two strings differ. -/
def errN (a b : ByteArray) : Nat → Nat
  | 0 => 0
  | k + 1 => errN a b k + if zb a k = zb b k then 0 else 1
theorem errN_le (a b : ByteArray) : ∀ k, errN a b k ≤ k
  | 0 => Nat.le_refl _
  | k + 1 => by have := errN_le a b k; simp only [errN]; split <;> omega
def errAns (a b : ByteArray) : Int := if bitsB a && (bitsB b && decide (a.size = b.size)) then (errN a b a.size : Int) else -1
set_option maxRecDepth 100000 in
theorem iErrs_any (a b : ByteArray) (w : World) (ha : a.size ≤ 1048576) (hb : b.size ≤ 1048576) :
    Calls Try.prog 38 #[.string a, .string b] w fun e w' => e = .returned (.int .i64 (errAns a b)) ∧ Below w.heap.size w w' := by
  have h1 := fun w => bitsValid_any a w (by omega)
  have h2 := fun w => bitsValid_any b w (by omega)
  cases hx : bitsB a with
  | false =>
    rw [show errAns a b = -1 by unfold errAns; rw [hx]; rfl]
    rw [hx] at h1
    have H1 := Lib.hid h1
    clear h1 h2
    go_enter Try.func38, Try.ntmps38
    go_wp2_with fail
    refine (H1.out _).mono ?_
    rintro e w' ⟨rfl, rfl⟩
    go_wp2
    go_ret
    exact ⟨rfl, Below.refl _ _⟩
  | true =>
    cases hy : bitsB b with
    | false =>
      rw [show errAns a b = -1 by unfold errAns; rw [hx, hy]; rfl]
      rw [hx] at h1
      rw [hy] at h2
      have H1 := Lib.hid h1
      have H2 := Lib.hid h2
      clear h1 h2
      go_enter Try.func38, Try.ntmps38
      go_wp2_with fail
      refine (H1.out _).mono ?_
      rintro e w' ⟨rfl, rfl⟩
      go_wp2_with fail
      refine (H2.out _).mono ?_
      rintro e w' ⟨rfl, rfl⟩
      go_wp2
      go_ret
      exact ⟨rfl, Below.refl _ _⟩
    | true =>
      by_cases hn : a.size = b.size
      · rw [show errAns a b = (errN a b a.size : Int) by unfold errAns; rw [hx, hy, decide_eq_true hn]; rfl]
        rw [hx] at h1
        rw [hy] at h2
        have H1 := Lib.hid h1
        have H2 := Lib.hid h2
        have HN := Lib.hid hn
        have HL := Lib.hid (errN_le a b)
        have n0 : ((a.size : Int) == (b.size : Int)) = true := by rw [hn]; simp
        clear h1 h2 hx hy hn
        go_enter Try.func38, Try.ntmps38
        go_wp2_with fail
        refine (H1.out _).mono ?_
        rintro e w' ⟨rfl, rfl⟩
        go_wp2_with fail
        refine (H2.out _).mono ?_
        rintro e w' ⟨rfl, rfl⟩
        go_wp2
        go_loopw [5, 24] (fun s i wr => ∃ k m : Nat, k ≤ a.size ∧ i = .int .i64 k ∧ s = .int .i64 (errN a b k : Nat) ∧ wr = w.drewN m) (fun _ i _ => a.size - (intOf i).toNat)
        case atStart => exact ⟨0, 0, by omega, rfl, rfl, rfl⟩
        case round =>
          obtain ⟨k, m, hk, rfl, rfl, rfl⟩ := hrel
          by_cases hlt : k < a.size
          · have hlb : k < b.size := by have := HN.out; omega
            have e1 := HL.out k
            have hsu : errN a b (k + 1) = errN a b k + if zb a k = zb b k then 0 else 1 := rfl
            obtain ⟨S, hS⟩ : ∃ S, errN a b k = S := ⟨_, rfl⟩
            rw [hS] at e1 hsu ⊢
            obtain ⟨W, hW⟩ : ∃ W, w.drewN m = W := ⟨_, rfl⟩
            rw [hW] at ⊢
            have HW := Lib.hid hW
            have i0 : (0 : Int) ≤ (k : Int) := by omega
            have i1 : (k : Int) < (a.size : Int) := by omega
            have i2 : (k : Int) < (b.size : Int) := by omega
            have HA := Lib.hid (zb_at a k hlt)
            have HBB := Lib.hid (zb_at b k hlb)
            clear hW hS
            by_cases he : zb a k = zb b k
            · rw [if_pos he] at hsu
              replace hsu : errN a b (k + 1) = S := hsu
              have ht : (((a[k].toNat : Nat) : Int) == ((b[k].toNat : Nat) : Int)) = true := by rw [HA.out, HBB.out, he]; simp
              have HS := Lib.hid hsu
              clear he hsu
              go_wp2_with fail
              go_quiet (fail)
              go_wp2
              go_roundw
              case rel => exact ⟨k + 1, m + nq, by omega, by go_num, by rw [HS.out], by rw [← HW.out, World.drewN_drewN]⟩
              case measure => simp [intOf]; omega
            · rw [if_neg he] at hsu
              have ht : (((a[k].toNat : Nat) : Int) == ((b[k].toNat : Nat) : Int)) = false := by rw [HA.out, HBB.out]; simp; omega
              have HS := Lib.hid hsu
              clear he hsu
              go_wp2_with fail
              go_quiet (fail)
              go_wp2
              go_roundw
              case rel => exact ⟨k + 1, m + nq, by omega, by go_num, by rw [HS.out]; simp, by rw [← HW.out, World.drewN_drewN]⟩
              case measure => simp [intOf]; omega
          · obtain rfl : k = a.size := by omega
            go_wp2
            go_ret
            exact ⟨rfl, below_drewN (Below.refl _ _) m⟩
      · rw [show errAns a b = -1 by unfold errAns; rw [hx, hy, decide_eq_false hn]; rfl]
        rw [hx] at h1
        rw [hy] at h2
        have H1 := Lib.hid h1
        have H2 := Lib.hid h2
        have n0 : ((a.size : Int) == (b.size : Int)) = false := by simp; omega
        clear h1 h2 hx hy
        go_enter Try.func38, Try.ntmps38
        go_wp2_with fail
        refine (H1.out _).mono ?_
        rintro e w' ⟨rfl, rfl⟩
        go_wp2_with fail
        refine (H2.out _).mono ?_
        rintro e w' ⟨rfl, rfl⟩
        go_wp2
        go_ret
        exact ⟨rfl, Below.refl _ _⟩
end Go.Proofs.Ythfcfnamaedffaa
