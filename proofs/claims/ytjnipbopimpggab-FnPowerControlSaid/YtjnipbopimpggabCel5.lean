/- PowerGoal and StrengthOf of both sides. -/
import Derived.Test.YtjnipbopimpggabCel2
namespace Go.Proofs.Ytjnipbopimpggab
open Go.RowKit
set_option linter.unusedVariables false
set_option maxRecDepth 100000
def tgB (T : Int) : Bool := decide (0 ≤ T) && decide (T ≤ 40)
theorem tg_iff (T : Int) : tgB T = true ↔ 0 ≤ T ∧ T ≤ 40 := by unfold tgB; simp only [Bool.and_eq_true, decide_eq_true_eq]
/-- The goal of a station; -1 if there is none. -/
def goV (c p : ByteArray) (g d T : Int) : Int := if stnB c p g d = true then (if tgB T = true then T * d else -1) else -1
theorem mul_goal {T d : Int} (h0 : 0 ≤ T) (h1 : T ≤ 40) (h2 : 1 ≤ d) (h3 : d ≤ 20) : 0 ≤ T * d ∧ T * d ≤ 800 := by
  refine ⟨Int.mul_nonneg h0 (by omega), ?_⟩
  have e := Int.mul_le_mul h1 h3 (by omega : (0 : Int) ≤ d) (by omega : (0 : Int) ≤ 40)
  omega
theorem goV_no {c p : ByteArray} {g d T : Int} (h : stnB c p g d = false) : -1 = goV c p g d T := by unfold goV; rw [h]; rfl
theorem goV_out {c p : ByteArray} {g d T : Int} (h : tgB T = false) : -1 = goV c p g d T := by
  unfold goV; rw [h]; split <;> rfl
theorem goV_yes {c p : ByteArray} {g d T : Int} (h : stnB c p g d = true) (ht : tgB T = true) : T * d = goV c p g d T := by unfold goV; rw [h, ht]; rfl
/-- What arrives of a station; -1 if it is none. -/
def sgV (c p : ByteArray) (g d : Int) : Int := if stnB c p g d = true then g / d else -1
theorem sgV_no {c p : ByteArray} {g d : Int} (h : stnB c p g d = false) : -1 = sgV c p g d := by unfold sgV; rw [h]; rfl
theorem sgV_yes {c p : ByteArray} {g d : Int} (h : stnB c p g d = true) : g / d = sgV c p g d := by unfold sgV; rw [h]; rfl
theorem target_tg (T : Int) : (decide (0 ≤ T) && decide (T ≤ 40)) = tgB T := rfl
theorem l8Goal_any (c p : ByteArray) (g d T : Int) (w : World) (h0 : 0 ≤ T) (h1 : T ≤ 40) (h2 : 1 ≤ d) (h3 : d ≤ 20) :
    Calls Try.prog 28 #[.agg #[.string c, .string p, .int .i64 g, .int .i64 d], .int .i64 T] w fun e w' => e = .returned (.int .i64 (T * d)) ∧ Below w.heap.size w w' := by
  have b0 := (Below.refl w.heap.size w).alloc (Nat.le_refl _) (.cells #[.string c, .string p, .int .i64 g, .int .i64 d] 30)
  obtain ⟨m0, m1⟩ := mul_goal h0 h1 h2 h3
  have m2 : T * d < 1000 := by omega
  have m3 : T * d ≤ 1000 := by omega
  have m4 : ¬ (1000 < T * d) := by omega
  go_enter Try.func28, Try.ntmps28
  go_wp2
  go_ret
  exact ⟨rfl, b0⟩
set_option maxHeartbeats 800000 in
theorem iGoal_any (c p : ByteArray) (g d T : Int) (w : World) (hc : c.size ≤ 9223372036854775807) (hp : p.size ≤ 9223372036854775807) :
    Calls Try.prog 11 #[.agg #[.string c, .string p, .int .i64 g, .int .i64 d], .int .i64 T] w fun e w' => e = .returned (.int .i64 (goV c p g d T)) ∧ Below w.heap.size w w' := by
  have b0 := (Below.refl w.heap.size w).alloc (Nat.le_refl _) (.cells #[.string c, .string p, .int .i64 g, .int .i64 d] 30)
  have u0 := UsrAt.new w 30 c p g d
  have hs := fun w => iStn_any c p g d w hc hp
  have ht := fun w => targetValid_any T w
  rw [target_tg] at ht
  cases h1 : stnB c p g d with
  | false =>
    have HB := Lib.hid (goV_no (T := T) h1)
    rw [h1] at hs
    have HS := Lib.hid hs
    clear hs ht h1 u0
    go_enter Try.func11, Try.ntmps11
    go_wp2_with fail
    refine (HS.out _).mono ?_
    rintro e w1 ⟨rfl, n1⟩
    have b1 := below_then b0 (Nat.le_refl _) n1
    clear n1 b0
    go_wp2
    go_ret
    exact ⟨ret_int HB.out, b1⟩
  | true =>
    rw [h1] at hs
    have HS := Lib.hid hs
    clear hs
    cases h2 : tgB T with
    | false =>
      have HB := Lib.hid (goV_out (c := c) (p := p) (g := g) (d := d) h2)
      rw [h2] at ht
      have HT := Lib.hid ht
      clear ht h1 h2 u0
      go_enter Try.func11, Try.ntmps11
      go_wp2_with fail
      refine (HS.out _).mono ?_
      rintro e w1 ⟨rfl, n1⟩
      have b1 := below_then b0 (Nat.le_refl _) n1
      clear n1 b0
      go_wp2_with fail
      refine (HT.out _).mono ?_
      rintro e w' ⟨rfl, rfl⟩
      go_wp2
      go_ret
      exact ⟨ret_int HB.out, b1⟩
    | true =>
      have HB := Lib.hid (goV_yes h1 h2)
      rw [h2] at ht
      have HT := Lib.hid ht
      obtain ⟨t0, t1⟩ := (tg_iff T).1 h2
      obtain ⟨-, -, -, -, d0, d1⟩ := (stnB_iff _ _ _ _).1 h1
      obtain ⟨m0, m1⟩ := mul_goal t0 t1 d0 d1
      have m2 : T * d < 1000 := by omega
      have m3 : T * d ≤ 1000 := by omega
      have m4 : ¬ (1000 < T * d) := by omega
      clear ht h1 h2
      go_enter Try.func11, Try.ntmps11
      go_wp2_with fail
      refine (HS.out _).mono ?_
      rintro e w1 ⟨rfl, n1⟩
      have b1 := below_then b0 (Nat.le_refl _) n1
      have u1 := u0.below n1 u0.2.2.2.2
      clear n1 b0 u0
      obtain ⟨x0, x1, x2, x3, x4⟩ := u1
      go_wp2_with fail
      refine (HT.out _).mono ?_
      rintro e w' ⟨rfl, rfl⟩
      go_wp2
      go_ret
      exact ⟨ret_int HB.out, b1⟩
set_option maxHeartbeats 800000 in
theorem iStrength_any (c p : ByteArray) (g d : Int) (w : World) (hc : c.size ≤ 9223372036854775807) (hp : p.size ≤ 9223372036854775807) :
    Calls Try.prog 12 #[.agg #[.string c, .string p, .int .i64 g, .int .i64 d]] w fun e w' => e = .returned (.int .i64 (sgV c p g d)) ∧ Below w.heap.size w w' := by
  have b0 := (Below.refl w.heap.size w).alloc (Nat.le_refl _) (.cells #[.string c, .string p, .int .i64 g, .int .i64 d] 30)
  have u0 := UsrAt.new w 30 c p g d
  have hs := fun w => iStn_any c p g d w hc hp
  cases h1 : stnB c p g d with
  | false =>
    have HB := Lib.hid (sgV_no h1)
    rw [h1] at hs
    have HS := Lib.hid hs
    clear hs h1 u0
    go_enter Try.func12, Try.ntmps12
    go_wp2_with fail
    refine (HS.out _).mono ?_
    rintro e w1 ⟨rfl, n1⟩
    have b1 := below_then b0 (Nat.le_refl _) n1
    clear n1 b0
    go_wp2
    go_ret
    exact ⟨ret_int HB.out, b1⟩
  | true =>
    rw [h1] at hs
    have HS := Lib.hid hs
    have HB := Lib.hid (sgV_yes h1)
    obtain ⟨-, -, g0, g1, d0, d1⟩ := (stnB_iff _ _ _ _).1 h1
    clear hs h1
    go_enter Try.func12, Try.ntmps12
    go_wp2_with fail
    refine (HS.out _).mono ?_
    rintro e w1 ⟨rfl, n1⟩
    have b1 := below_then b0 (Nat.le_refl _) n1
    have u1 := u0.below n1 u0.2.2.2.2
    clear n1 b0 u0
    obtain ⟨x0, x1, x2, x3, x4⟩ := u1
    go_wp2
    go_ret
    exact ⟨ret_int HB.out, b1⟩
end Go.Proofs.Ytjnipbopimpggab
