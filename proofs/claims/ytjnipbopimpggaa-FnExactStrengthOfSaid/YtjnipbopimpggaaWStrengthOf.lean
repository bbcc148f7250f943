/- The walk of the exact law of StrengthOf. -/
import Derived.Test.YtjnipbopimpggaaCel5
import Derived.Test.YtjnipbopimpggaaStn
namespace Go.Proofs.Ytjnipbopimpggaa
open Go.RowKit
set_option linter.unusedVariables false
theorem szU_bd (c p : ByteArray) (h : ¬ szU c p 1048576 < 0) : c.size ≤ 1048576 ∧ p.size ≤ 1048576 := by
  unfold szU at h
  by_cases q : (1048576 : Int) - (c.size : Int) < 0
  · rw [if_pos q] at h; omega
  · rw [if_neg q] at h
    by_cases q2 : (1048576 : Int) - (c.size : Int) - (p.size : Int) < 0
    · rw [if_pos q2] at h; omega
    · omega
set_option maxHeartbeats 800000 in
set_option maxRecDepth 100000 in
theorem fnExactStrengthOf_walk (c p : ByteArray) (g d : Int) (w : World) (hc : c.size ≤ maxLen) (hp : p.size ≤ maxLen) :
    Calls Try.prog 5 #[.agg #[.string c, .string p, .int .i64 g, .int .i64 d]] w fun e w' => e = .returned (.bool true) ∧ Below w.heap.size w w' := by
  unfold maxLen at hc hp
  have HS := Lib.hid (fun w => szStation_any c p g d 1048576 w (by omega) (by omega) (by omega) (by omega))
  have HT := Lib.hid (fun w => toStation_any c p g d w)
  have hbd := szU_bd c p
  obtain ⟨Z, hZ⟩ : ∃ Z, szU c p 1048576 = Z := ⟨_, rfl⟩
  rw [hZ] at HS hbd
  clear hZ
  have b0 := (Below.refl w.heap.size w).alloc (Nat.le_refl _) (.cells #[.string c, .string p, .int .i64 g, .int .i64 d] 30)
  have u0 := UsrAt.new w 30 c p g d
  by_cases hz : Z < 0
  · clear hbd u0
    go_enter Try.func5, Try.ntmps5
    go_wp2_with fail
    refine (HS.out _).mono ?_
    rintro e w1 ⟨rfl, b1⟩
    have c1 := below_then b0 (Nat.le_refl _) b1
    clear b1 b0
    go_wp2
    go_ret
    exact ⟨rfl, c1⟩
  · obtain ⟨h1, h2⟩ := hbd hz
    have HI := Lib.hid (fun w => iStrength_any c p g d w (by omega) (by omega))
    have HM := Lib.hid (fun w => sStrength_any c p g d w (by omega) (by omega))
    obtain ⟨B, hB⟩ : ∃ B, sgV c p g d = B := ⟨_, rfl⟩
    rw [hB] at HI HM
    clear hB hbd
    go_enter Try.func5, Try.ntmps5
    go_wp2_with fail
    refine (HS.out _).mono ?_
    rintro e w1 ⟨rfl, n1⟩
    have b1 := below_then b0 (Nat.le_refl _) n1
    have u1 := u0.below n1 u0.2.2.2.2
    clear n1 b0 u0
    obtain ⟨x0, x1, x2, x3, x4⟩ := id u1
    go_wp2_with fail
    clear x0 x1 x2 x3 x4
    refine (HT.out _).mono ?_
    rintro e w2 ⟨rfl, n2⟩
    have b2 := below_then b1 (Nat.le_refl _) n2
    have u2 := u1.below n2 u1.2.2.2.2
    clear n2 b1 u1
    obtain ⟨x0, x1, x2, x3, x4⟩ := id u2
    go_wp2_with fail
    clear x0 x1 x2 x3 x4
    refine (HM.out _).mono ?_
    rintro e w3 ⟨rfl, n3⟩
    have b3 := below_then b2 (Nat.le_refl _) n3
    have u3 := u2.below n3 u2.2.2.2.2
    clear n3 b2 u2
    obtain ⟨x0, x1, x2, x3, x4⟩ := id u3
    go_wp2_with fail
    clear x0 x1 x2 x3 x4
    refine (HT.out _).mono ?_
    rintro e w4 ⟨rfl, n4⟩
    have b4 := below_then b3 (Nat.le_refl _) n4
    have u4 := u3.below n4 u3.2.2.2.2
    clear n4 b3 u3
    obtain ⟨x0, x1, x2, x3, x4⟩ := id u4
    go_wp2_with fail
    clear x0 x1 x2 x3 x4
    refine (HI.out _).mono ?_
    rintro e w5 ⟨rfl, n5⟩
    have b5 := below_then b4 (Nat.le_refl _) n5
    have u5 := u4.below n5 u4.2.2.2.2
    clear n5 b4 u4
    obtain ⟨x0, x1, x2, x3, x4⟩ := id u5
    go_wp2
    go_ret
    exact ⟨rfl, b5⟩
end Go.Proofs.Ytjnipbopimpggaa
