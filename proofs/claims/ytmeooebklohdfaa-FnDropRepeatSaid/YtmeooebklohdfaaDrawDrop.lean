/- The draws of DropSample and RepeatSample. -/
import Derived.Test.YtmeooebklohdfaaDrawSig
namespace Go.Proofs.Ytmeooebklohdfaa
open Go.RowKit
set_option linter.unusedVariables false
set_option maxRecDepth 100000
theorem OF.offd {w : World} {B b : Nat} {v : Value} {n : Nat} {f : Nat → Int} (h : OF w B v n f) (hb : b < B) : v.ownBlock = none ∨ v.ownBlock ≠ some b := by
  cases hv : v.ownBlock with
  | none => exact .inl rfl
  | some q => right; intro e; cases e; have := (h.lt _ hv).1; omega
/-- A signal and a place were drawn. -/
def DdPost (w : World) (e : Ending) (w' : World) : Prop :=
  ∃ (v : Value) (n : Nat) (f : Nat → Int) (k : Int), e = .returned (.tuple #[v, .int .i64 k]) ∧ OF w' w.heap.size v n f ∧ n ≤ 3001 ∧ FitsI k ∧ Below w.heap.size w w'
set_option maxHeartbeats 1600000 in
theorem drawDrop_any (a : Option Addr) (len cap : Nat) (zs : List Int) (w : World) (h : IsBytes w a len cap zs) :
    Calls Try.prog 90 #[.slice a len cap] w (DdPost w) := by
  go_enter Try.func90, Try.ntmps90
  go_wp2_with fail
  refine (open_any a len cap zs _ h).mono ?_
  rintro e w1 ⟨b, ys, rfl, hr, hb, hlb⟩
  have hb1 := hr.1
  have hz1 := hb.size
  clear h
  go_wp2_with fail
  refine (l4Some_any b 0 20 ys _ hr (by omega) (by omega)).mono ?_
  rintro e w2 ⟨v2, n2, f2, q2, rfl, O2, hn2, hf2, hq2, r2, h2⟩
  clear hr
  go_wp2_with fail
  refine (l4Bad_any b q2 w1.heap.size ys v2 n2 f2 _ r2 (by omega) O2 (by omega) (fun j hj => by have := hf2 j hj; unfold FitsI; omega) hb1 h2.size).mono ?_
  rintro e w3 ⟨u, m, g, q3, rfl, O3, hm, hg, hq3, r3, hg3⟩
  have g3 := hg3 w1 h2 (Nat.le_refl _)
  obtain ⟨ua, uc, rfl, -⟩ := O3.form
  clear hg3 hg hf2 O2 r2 h2
  go_wp2_with fail
  refine (pick_any b q3 12 ys _ r3 (by omega) (by omega) (by omega)).mono ?_
  rintro e w4 ⟨k, hk, rfl, r4, h4⟩
  have O4 := O3.kept h4 (O3.offd hb1)
  have g4 := g3.trans h4
  clear r3 h4 O3 g3
  by_cases k0 : k = 0
  · subst k0
    clear hk
    go_wp2_with fail
    refine (num_any b (q3 + 1) ys _ w4.heap.size 3 [-1, (m : Int), 9223372036854775807] (r4.alloc _) (IntsAt.new w4 _ [-1, (m : Int), 9223372036854775807]) rfl r4.1 (by omega) (by omega) (by omega)).mono ?_
    rintro e w5 ⟨y, hy, rfl, r5, h5'⟩
    have hF : FitsI y := by
      simp only [List.mem_cons, List.not_mem_nil, or_false] at hy
      unfold FitsI; omega
    have h5 := (World.grownBy_alloc w4 (.cells #[.int .i64 (-1), .int .i64 (m : Int), .int .i64 9223372036854775807] 3) (some b)).trans h5'
    have O5 := Lib.hid ((O4.kept h5 (O4.offd hb1)).mono hz1)
    have b5 := below_grown hb (Nat.le_refl _) (g4.trans h5) hlb
    clear O4 g4 r4 h5 h5' hb hy
    go_wp2
    go_ret2
    exact ⟨_, m, g, y, rfl, O5.out, hm, hF, b5⟩
  · have t0 : ((k : Int) == 0) = false := by simp; omega
    by_cases hm1 : 1 ≤ m
    · have q1 : ¬ ((m : Int) < 1) := by omega
      have q2' : max (m : Int) 1 = (m : Int) := by omega
      have q4 : ¬ (m < 1) := by omega
      go_wp2_with fail
      refine (pick_any b (q3 + 1) m ys _ r4 (by omega) (by omega) (by omega)).mono ?_
      rintro e w5 ⟨y, hy, rfl, r5, h5⟩
      have hF : FitsI (y : Int) := by unfold FitsI; omega
      have O5 := Lib.hid ((O4.kept h5 (O4.offd hb1)).mono hz1)
      have b5 := below_grown hb (Nat.le_refl _) (g4.trans h5) hlb
      clear O4 g4 r4 h5 hb hy
      go_wp2
      go_ret2
      exact ⟨_, m, g, _, rfl, O5.out, hm, hF, b5⟩
    · obtain rfl : m = 0 := by omega
      clear hm1
      go_wp2_with fail
      refine (pick_any b (q3 + 1) 1 ys _ r4 (by omega) (by omega) (by omega)).mono ?_
      rintro e w5 ⟨y, hy, rfl, r5, h5⟩
      have hF : FitsI (y : Int) := by unfold FitsI; omega
      have O5 := Lib.hid ((O4.kept h5 (O4.offd hb1)).mono hz1)
      have b5 := below_grown hb (Nat.le_refl _) (g4.trans h5) hlb
      clear O4 g4 r4 h5 hb hy
      go_wp2
      go_ret2
      exact ⟨_, 0, g, _, rfl, O5.out, hm, hF, b5⟩
theorem drawRep_any (a : Option Addr) (len cap : Nat) (zs : List Int) (w : World) (h : IsBytes w a len cap zs) :
    Calls Try.prog 52 #[.slice a len cap] w (DdPost w) := by
  go_enter Try.func52, Try.ntmps52
  go_wp2_with fail
  refine (drawDrop_any a len cap zs _ h).mono ?_
  rintro e w1 ⟨v, n, f, k, rfl, O, hn, hk, hb⟩
  go_wp2
  go_ret2
  exact ⟨v, n, f, k, rfl, O, hn, hk, hb⟩
end Go.Proofs.Ytmeooebklohdfaa
