/- What the functions answer about two paths, the shorter one first. -/
import Derived.Test.YtgfehabpoebaoaaConfMath
namespace Go.Proofs.Ytgfehabpoebaoaa
open Go.RowKit
set_option linter.unusedVariables false
set_option maxRecDepth 100000
theorem eq_strD (y z : ByteArray) : (y.toList == z.toList) = decide (y = z) := by
  by_cases h : y = z
  · subst h; rw [decide_eq_true rfl]; exact beq_self_eq_true _
  · rw [decide_eq_false h]; exact str_ne h
theorem conf_le {x y : ByteArray} (hx : pathB x = true) (hy : pathB y = true) (hle : x.size ≤ y.size) :
    confB x y = decide (x = y.extract 0 x.size) ∧ confB y x = decide (x = y.extract 0 x.size) := by
  unfold confB begB
  rw [hx, hy, if_pos hle, Bool.true_and, Bool.true_and, Bool.true_and, Bool.true_and, eq_strD]
  refine ⟨rfl, ?_⟩
  by_cases h : y.size ≤ x.size
  · have e : y.size = x.size := by omega
    have e1 : x.extract 0 y.size = x := ba_ext (by rw [size_extract _ _ _ h]; omega) fun i hi => by
      rw [size_extract _ _ _ h] at hi
      rw [zb_extract _ _ _ _ h (by omega), Nat.zero_add]
    have e2 : y.extract 0 x.size = y := ba_ext (by rw [size_extract _ _ _ hle]; omega) fun i hi => by
      rw [size_extract _ _ _ hle] at hi
      rw [zb_extract _ _ _ _ hle (by omega), Nat.zero_add]
    rw [if_pos h, e1, e2, eq_strD]
    exact decide_eq_decide.2 ⟨fun h => h.symm, fun h => h.symm⟩
  · rw [if_neg h, eq_strD]
    exact decide_eq_decide.2 ⟨fun h => h.symm, fun h => h.symm⟩
theorem conf_all {x y : ByteArray} (hx : pathB x = true) (hy : pathB y = true) (hle : x.size ≤ y.size) : ∃ (A B : ByteArray) (W : Nat) (D : Bool), treeAns x = (A, true) ∧ treeAns y = (B, true) ∧ confB x y = D ∧ confB y x = D ∧ 1 ≤ A.size ∧ B.size ≤ 64 ∧ B.size = W * A.size ∧ A.size ≤ B.size ∧ 1 ≤ W ∧ (x.size < y.size → A.size < B.size) ∧
    ∀ t, t < W → t * A.size + A.size ≤ B.size ∧ ∃ c : Int, (D = true → c = (A.size : Int) ∨ c = -(A.size : Int)) ∧ (D = false → c = 0) ∧
      ∀ w, Calls Try.prog 26 #[.string A, .string (B.extract (t * A.size) (t * A.size + A.size)), .int .i64 0] w fun e w' => e = .returned (.tuple #[.int .i64 c, .bool true]) ∧ Below w.heap.size w w' := by
  obtain ⟨c1, c2⟩ := conf_le hx hy hle
  have hx6 := ((pathB_iff x).1 hx).2
  have hy6 := ((pathB_iff y).1 hy).2
  have hT := tw_addP x.size (y.size - x.size)
  rw [show x.size + (y.size - x.size) = y.size by omega] at hT
  have p1 := tw_pos x.size
  have p2 := tw_pos (y.size - x.size)
  have p3 := tw_6 y.size hy6
  have p4 : 1 * tw x.size ≤ tw (y.size - x.size) * tw x.size := Nat.mul_le_mul_right _ p2
  refine ⟨treeS x x.size, treeS y y.size, tw (y.size - x.size), decide (x = y.extract 0 x.size), by unfold treeAns; rw [if_pos hx], by unfold treeAns; rw [if_pos hy], c1, c2, by rw [treeS_size]; exact p1, by rw [treeS_size]; exact p3, by rw [treeS_size, treeS_size]; exact hT, by rw [treeS_size, treeS_size]; omega, p2, fun h => ?_, fun t ht => ?_⟩
  · rw [treeS_size, treeS_size]
    have e := tw_succ (y.size - x.size - 1)
    rw [show y.size - x.size - 1 + 1 = y.size - x.size by omega] at e
    have p5 := tw_pos (y.size - x.size - 1)
    have p6 : 2 * tw x.size ≤ tw (y.size - x.size) * tw x.size := Nat.mul_le_mul_right _ (by omega)
    omega
  · obtain ⟨q1, q2, q3, c, q4, q5, q6⟩ := part_cross hx hy hle t ht
    rw [treeS_size, treeS_size]
    refine ⟨q1, c, fun h => q4 (of_decide_eq_true h), fun h => q5 (of_decide_eq_false h), fun w => ?_⟩
    refine (iCross_yes _ _ 0 w ((pairB_iff _ _).2 ⟨treeS_seq x x.size hx6, (seqB_iff _).2 ⟨q3, by omega, by omega⟩, by rw [q2, treeS_size]⟩)).mono fun e w' h => ?_
    have e0 : modN 0 ((treeS y y.size).extract (t * tw x.size) (t * tw x.size + tw x.size)).size = 0 := by unfold modN; simp
    rw [e0, q6] at h
    exact h
end Go.Proofs.Ytgfehabpoebaoaa
