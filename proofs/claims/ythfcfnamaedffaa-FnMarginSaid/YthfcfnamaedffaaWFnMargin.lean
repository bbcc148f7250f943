/- The walk of the law FnMargin. -/
import Derived.Test.YthfcfnamaedffaaDrawUser4
import Derived.Test.YthfcfnamaedffaaSig15
import Derived.Test.YthfcfnamaedffaaSsUser
import Derived.Test.YthfcfnamaedffaaSig3
namespace Go.Proofs.Ythfcfnamaedffaa
open Go.RowKit
set_option linter.unusedVariables false
set_option maxRecDepth 100000
theorem mnI_le {f : Nat → Int} : ∀ n, ∀ i, i < n → mnI f n ≤ f i
  | 0, i, h => absurd h (Nat.not_lt_zero _)
  | 1, i, h => by
    have e : i = 0 := by omega
    subst e
    exact Int.le_refl _
  | n + 2, i, h => by
    have ih := mnI_le (f := f) (n + 1) i
    show min (mnI f (n + 1)) (f (n + 1)) ≤ f i
    rcases Nat.lt_or_ge i (n + 1) with h2 | h2
    · have := ih h2; omega
    · have e : i = n + 1 := by omega
      subst e
      omega
theorem mnI_at {f : Nat → Int} : ∀ n, 0 < n → ∃ i, i < n ∧ mnI f n = f i
  | 0, h => absurd h (Nat.not_lt_zero _)
  | 1, h => ⟨0, by omega, rfl⟩
  | n + 2, h => by
    obtain ⟨i, hi, e⟩ := mnI_at (f := f) (n + 1) (by omega)
    by_cases c : mnI f (n + 1) ≤ f (n + 1)
    · exact ⟨i, by omega, by show min (mnI f (n + 1)) (f (n + 1)) = f i; omega⟩
    · exact ⟨n + 1, by omega, by show min (mnI f (n + 1)) (f (n + 1)) = f (n + 1); omega⟩
theorem errN_zero {a b : ByteArray} : ∀ k, (∀ i, i < k → zb a i = zb b i) → errN a b k = 0
  | 0, _ => rfl
  | k + 1, h => by
    have ih := errN_zero (a := a) (b := b) k (fun i hi => h i (by omega))
    simp only [errN]
    rw [ih, if_pos (h k (by omega))]
theorem errN_pos {a b : ByteArray} : ∀ k, (∃ i, i < k ∧ ¬ zb a i = zb b i) → 0 < errN a b k
  | 0, ⟨i, h, _⟩ => absurd h (Nat.not_lt_zero _)
  | k + 1, ⟨i, h, hne⟩ => by
    simp only [errN]
    rcases Nat.lt_or_ge i k with h2 | h2
    · have := errN_pos (a := a) (b := b) k ⟨i, h2, hne⟩
      omega
    · have e : i = k := by omega
      subst e
      rw [if_neg hne]
      omega
/-- A bit is heard right where its margin is above 0, and wrong where it is below. -/
theorem mg_bit {n : Nat} {f : Nat → Int} {q : ByteArray} {d : Nat} {p : ByteArray} (hp : okB p p.size = true) {i : Nat} (hi : i < p.size) :
    (0 < mgF n f q d p i → zb (sgS p.size (coL n f q d)) i = zb p i) ∧ (mgF n f q d p i < 0 → ¬ zb (sgS p.size (coL n f q d)) i = zb p i) := by
  rw [zb_sgS hi]
  unfold mgF sgF
  obtain ⟨x, hx⟩ : ∃ x, coL n f q d i = x := ⟨_, rfl⟩
  rw [hx]
  rcases okB_zb p hp i hi with e | e
  · have c : chF p i = 1 := by unfold chF; rw [e]; rfl
    rw [c, e]
    constructor <;> intro h <;> split <;> omega
  · have c : chF p i = -1 := by unfold chF; rw [e]; rfl
    rw [c, e]
    constructor <;> intro h <;> split <;> omega
theorem mg_all {n : Nat} {f : Nat → Int} {q : ByteArray} {d : Nat} {p : ByteArray} (hp : okB p p.size = true) (h0 : 0 < p.size) :
    (0 < mnI (mgF n f q d p) p.size → errN (sgS p.size (coL n f q d)) p p.size = 0) ∧ (mnI (mgF n f q d p) p.size < 0 → 0 < errN (sgS p.size (coL n f q d)) p p.size) := by
  constructor
  · intro h
    exact errN_zero _ (fun i hi => (mg_bit hp hi).1 (by have := mnI_le (f := mgF n f q d p) p.size i hi; omega))
  · intro h
    obtain ⟨i, hi, e⟩ := mnI_at (f := mgF n f q d p) p.size h0
    exact errN_pos _ ⟨i, hi, (mg_bit hp hi).2 (by omega)⟩
set_option maxHeartbeats 1600000 in
theorem fnMargin_walk (a0 : Option Addr) (len0 cap0 : Nat) (z0 : List Int) (w : World) (w0 : IsBytes w a0 len0 cap0 z0) :
    Calls Try.prog 6 #[.slice a0 len0 cap0] w fun e w' => e = .returned (.bool true) ∧ Below w.heap.size w w' := by
  by_cases hl0 : 1048576 < len0
  · go_enter Try.func6, Try.ntmps6
    go_wp2
    go_ret
    exact ⟨rfl, Below.refl _ _⟩
  go_enter Try.func6, Try.ntmps6
  go_wp2_with fail
  refine (drawMargin_any a0 len0 cap0 z0 _ w0).mono ?_
  rintro e W1 ⟨v, n, f, z, d, p, rfl, O0, hn, hz, hd, hp, bc⟩
  clear w0
  have hi := fun w h => iMarg_any v n f z d p w h (by omega) (by omega) (by omega)
  have hs := fun w h => sMarg_any v n f z d p w h (by omega) (by omega) (by omega)
  by_cases hv : bitsB p = true ∧ 0 < p.size ∧ rcB n f z d p.size = true
  · obtain ⟨v1, v2, v3⟩ := hv
    obtain ⟨r1, r2, r3, r4⟩ := (rcB_iff _ _ _ _ _).1 v3
    obtain ⟨D, rfl⟩ : ∃ D : Nat, d = D := ⟨d.toNat, by omega⟩
    rw [mg_yes v1 v2 v3] at hi hs
    have hu := fun w h => ssUser_any v n f z D p.size w h (by omega) (by omega)
    rw [show (rvAns n f z D p.size).1 = sgS p.size (coL n f z D) by unfold rvAns; rw [v3]; simp] at hu
    have hk : okB p p.size = true := by unfold bitsB at v1; simp only [Bool.and_eq_true] at v1; exact v1.1
    have hm := mg_all (n := n) (f := f) (q := z) (d := D) hk v2
    have hb : bitsB (sgS p.size (coL n f z D)) = true := by unfold bitsB; rw [sgS_ok, sgS_size, decide_eq_true (by omega)]; rfl
    have he := fun w => iErrs_any (sgS p.size (coL n f z D)) p w (by rw [sgS_size]; omega) (by omega)
    rw [show errAns (sgS p.size (coL n f z D)) p = (errN (sgS p.size (coL n f z D)) p p.size : Int) by unfold errAns; rw [hb, v1, sgS_size, decide_eq_true rfl]; rfl] at he
    obtain ⟨M, hM⟩ : ∃ M, mnI (mgF n f z D p) p.size = M := ⟨_, rfl⟩
    rw [hM] at hi hs hm
    obtain ⟨N, hN⟩ : ∃ N, errN (sgS p.size (coL n f z D)) p p.size = N := ⟨_, rfl⟩
    rw [hN] at hm he
    obtain ⟨U, hU⟩ : ∃ U, sgS p.size (coL n f z D) = U := ⟨_, rfl⟩
    rw [hU] at hu he
    clear hM hN hU hb hk v1 v2 v3 r1 r2 r3 r4
    have HI := Lib.hid hi
    have HS := Lib.hid hs
    have HU := Lib.hid hu
    have HE := Lib.hid he
    have n0 : (0 : Int) ≤ (N : Int) := by omega
    have hc : (0 < M ∧ N = 0) ∨ M = 0 ∨ (M < 0 ∧ 0 < N) := by
      obtain ⟨m1, m2⟩ := hm
      rcases Int.lt_trichotomy M 0 with h | h | h
      · exact .inr (.inr ⟨h, m2 h⟩)
      · exact .inr (.inl h)
      · exact .inl ⟨h, m1 h⟩
    clear hi hs hu he hm
    go_wp2_with fail
    refine (HI.out _ O0.intsC).mono ?_
    rintro e W2 ⟨rfl, h2⟩
    have O2 := O0.below h2
    have b2 := below_then bc (Nat.le_refl _) h2
    clear O0 bc h2
    go_wp2_with fail
    refine (HS.out _ O2.ints).mono ?_
    rintro e W3 ⟨rfl, h3⟩
    have O3 := O2.below h3
    have b3 := below_then b2 (Nat.le_refl _) h3
    clear O2 b2 h3
    go_wp2_with fail
    refine (HU.out _ O3.intsC).mono ?_
    rintro e W4 ⟨rfl, h4⟩
    have b4 := below_then b3 (Nat.le_refl _) h4
    clear O3 b3 h4
    go_wp2_with fail
    refine (HE.out _).mono ?_
    rintro e W5 ⟨rfl, h5⟩
    have b5 := below_then b4 (Nat.le_refl _) h5
    clear b4 h5
    rcases hc with ⟨c1, rfl⟩ | rfl | ⟨c1, c2⟩
    · have c3 : ¬ M ≤ 0 := by omega
      have c4 : (0 : Int) ≤ M := by omega
      have c5 : ¬ M < 0 := by omega
      clear n0
      go_wp2
      go_ret
      exact ⟨rfl, b5⟩
    · go_wp2
      go_ret
      exact ⟨rfl, b5⟩
    · have c3 : M ≤ 0 := by omega
      have c4 : ¬ (0 : Int) ≤ M := by omega
      have c5 : (0 : Int) < (N : Int) := by omega
      go_wp2
      go_ret
      exact ⟨rfl, b5⟩
  · rw [mg_no hv] at hi hs
    clear hv
    have HI := Lib.hid hi
    have HS := Lib.hid hs
    clear hi hs
    go_wp2_with fail
    refine (HI.out _ O0.intsC).mono ?_
    rintro e W2 ⟨rfl, h2⟩
    have O2 := O0.below h2
    have b2 := below_then bc (Nat.le_refl _) h2
    clear O0 bc h2
    go_wp2_with fail
    refine (HS.out _ O2.ints).mono ?_
    rintro e W3 ⟨rfl, h3⟩
    have b3 := below_then b2 (Nat.le_refl _) h3
    go_wp2
    go_ret
    exact ⟨rfl, b3⟩
end Go.Proofs.Ythfcfnamaedffaa
