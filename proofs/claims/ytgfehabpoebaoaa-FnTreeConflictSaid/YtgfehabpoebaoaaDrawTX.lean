/- The draw of TreeConflict. -/
import Derived.Test.YtgfehabpoebaoaaDrawTree
import Derived.BigQuiet
namespace Go.Proofs.Ytgfehabpoebaoaa
open Go.RowKit
set_option linter.unusedVariables false
set_option maxRecDepth 100000
set_option maxHeartbeats 1600000 in
theorem drawTX_any (a : Option Addr) (len cap : Nat) (zs : List Int) (w : World) (h : IsBytes w a len cap zs) :
    Calls Try.prog 23 #[.slice a len cap] w fun e w' => ∃ x y : ByteArray, e = .returned (.tuple #[.string x, .string y]) ∧ x.size ≤ 1000 ∧ y.size ≤ 1000 ∧ Below w.heap.size w w' := by
  go_enter Try.func23, Try.ntmps23
  go_wp2_with fail
  refine (open_any a len cap zs _ h).mono ?_
  rintro e w1 ⟨b, ys, rfl, hr, hb, hlb⟩
  clear h
  go_wp2_with fail
  refine (l1String_any b 0 6 ys _ hr (by omega) (by omega)).mono ?_
  rintro e w2 ⟨z, q, rfl, hz, hq, r2, h2⟩
  clear hr
  obtain ⟨J, hJ⟩ : ∃ J, z.size + 1 = J := ⟨_, rfl⟩
  have v1 : IntKind.i64.wrap ((z.size : Int) + 1) = (J : Int) := by rw [show (z.size : Int) + 1 = (J : Int) by omega]; exact IntWalk.i64_in _ (by omega)
  have HJ := Lib.hid hJ
  have HZ := Lib.hid hz
  clear hJ hz
  go_wp2_with fail
  go_region_with ((first
    | (go_at_call 36; (with_reducible refine (pick_any b q J ys _ (r2.below (Below.refl _ _).drew) (by omega) (by have := HJ.out; omega) (by have := HJ.out; have := HZ.out; omega)).mono ?_); rintro e w5 ⟨k, hk, rfl, r5, h5⟩; have i0 : (0 : Int) ≤ (k : Int) := (by omega); have i1 : (k : Int) ≤ (z.size : Int) := (by have := HJ.out; omega); have i2 : k ≤ z.size := (by have := HJ.out; omega); obtain ⟨A, hA⟩ : ∃ A, z.extract 0 k = A := ⟨_, rfl⟩; have s1 : A.size ≤ 6 := (by rw [← hA, size_extract z 0 k i2]; have := HZ.out; omega))
    | (go_at_call 48; (refine (l1String_any b (q + 1) 3 ys _ r5 (by omega) (by omega)).mono ?_); rintro e w6 ⟨y, q6, rfl, hy, hq6, r6, h6⟩; have q1 : A.size + y.size ≤ 9223372036854775807 := (by omega); have q3 := fun w => run_string_add_sum (P := Try.prog) w A y q1; have q5 : ¬ (9223372036854775807 < A.size + y.size) := (by omega))))
  all_goals
    have h7 := (h2.trans ((drewRow w2 (some b)).trans h5)).trans h6
    have hz := HZ.out
    have sq : (A ++ y).size = A.size + y.size := ByteArray.size_append
    obtain ⟨Q, hQ⟩ : ∃ Q, A ++ y = Q := ⟨_, rfl⟩
    rw [hQ] at sq ⊢
    clear hQ q1 q3 q5 hA i0 i1 i2 v1 r2 h2 r5 h5 h6
    by_cases h9 : Q.size ≤ 6
    · have g1 : ¬ ((6 : Int) < (Q.size : Int)) := by omega
      go_wp2_with fail
      refine (l3Bent_any b q6 ys z _ r6 (by omega) (by omega)).mono ?_
      rintro e w8 ⟨u, rfl, hu, r8, h8⟩
      go_wp2_with fail
      refine (l3Bent_any b (q6 + 1) ys Q _ r8 (by omega) (by omega)).mono ?_
      rintro e w9 ⟨v, rfl, hv, r9, h9'⟩
      have b9 := below_grown hb (Nat.le_refl _) ((h7.trans h8).trans h9') hlb
      clear hb h7 h8 h9' r6 r8 r9
      go_wp2
      go_ret2
      exact ⟨u, v, rfl, by omega, by omega, b9⟩
    · have g1 : (6 : Int) < (Q.size : Int) := by omega
      have g2 : (6 : Int) ≤ (Q.size : Int) := by omega
      have g3 := size_extract Q 0 6 (by omega)
      go_wp2_with fail
      refine (l3Bent_any b q6 ys z _ r6 (by omega) (by omega)).mono ?_
      rintro e w8 ⟨u, rfl, hu, r8, h8⟩
      obtain ⟨P, hP⟩ : ∃ P, Q.extract 0 6 = P := ⟨_, rfl⟩
      rw [hP] at g3 ⊢
      clear hP
      go_wp2_with fail
      refine (l3Bent_any b (q6 + 1) ys P _ r8 (by omega) (by omega)).mono ?_
      rintro e w9 ⟨v, rfl, hv, r9, h9'⟩
      have b9 := below_grown hb (Nat.le_refl _) ((h7.trans h8).trans h9') hlb
      clear hb h7 h8 h9' r6 r8 r9
      go_wp2
      go_ret2
      exact ⟨u, v, rfl, by omega, by omega, b9⟩
end Go.Proofs.Ytgfehabpoebaoaa
