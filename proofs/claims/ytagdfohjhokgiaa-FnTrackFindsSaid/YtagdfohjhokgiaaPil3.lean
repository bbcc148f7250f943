/- OffsetDistance of both sides. -/
import Derived.Test.YtagdfohjhokgiaaPil
namespace Go.Proofs.Ytagdfohjhokgiaa
open Go.RowKit
set_option linter.unusedVariables false
set_option maxRecDepth 100000
theorem ds_abs {P A B : Nat} (hA : A < P) (hB : B < P) : min (max ((A : Int) - (B : Int)) ((B : Int) - (A : Int))) ((P : Int) - max ((A : Int) - (B : Int)) ((B : Int) - (A : Int))) = (dsN P A B : Int) := by
  unfold dsN; omega
set_option maxHeartbeats 800000 in
theorem iDist_any (c : ByteArray) (g a b : Int) (w : World) (hc : c.size ≤ 1048576) :
    Calls Try.prog 10 #[.agg #[.string c, .int .i64 g], .int .i64 a, .int .i64 b] w fun e w' => e = .returned (.int .i64 (dsAns c g a b)) ∧ Below w.heap.size w w' := by
  have h1 := fun w => iOff_any c g a w hc
  have h2 := fun w => iOff_any c g b w hc
  have b0 := (Below.refl w.heap.size w).alloc (Nat.le_refl _) (.cells #[.string c, .int .i64 g] 24)
  have u0 := PilAt.new w 24 c g
  cases ha : offB c g a with
  | false =>
    rw [ds_no (by rw [ha]; simp)]
    rw [ha] at h1
    have H1 := Lib.hid h1
    clear h1 h2 ha u0
    go_enter Try.func10, Try.ntmps10
    go_wp2_with fail
    refine (H1.out _).mono ?_
    rintro e w1 ⟨rfl, n1⟩
    have b1 := below_then b0 (Nat.le_refl _) n1
    clear n1 b0
    go_wp2
    go_ret
    exact ⟨rfl, b1⟩
  | true =>
    rw [ha] at h1
    cases hb : offB c g b with
    | false =>
      rw [ds_no (by rw [hb]; simp)]
      rw [hb] at h2
      have H1 := Lib.hid h1
      have H2 := Lib.hid h2
      clear h1 h2 ha hb
      go_enter Try.func10, Try.ntmps10
      go_wp2_with fail
      refine (H1.out _).mono ?_
      rintro e w1 ⟨rfl, n1⟩
      have b1 := below_then b0 (Nat.le_refl _) n1
      have u1 := u0.below n1 (by simp)
      clear n1 b0 u0
      obtain ⟨x0, x1, x2⟩ := id u1
      go_wp2_with fail
      clear x0 x1 x2
      refine (H2.out _).mono ?_
      rintro e w2 ⟨rfl, n2⟩
      have b2 := below_then b1 (Nat.le_refl _) n2
      clear n2 b1 u1
      go_wp2
      go_ret
      exact ⟨rfl, b2⟩
    | true =>
      rw [hb] at h2
      obtain ⟨hp, a0, a1⟩ := (offB_iff _ _ _).1 ha
      obtain ⟨-, b0', b1'⟩ := (offB_iff _ _ _).1 hb
      obtain ⟨A, rfl⟩ : ∃ A : Nat, a = A := ⟨a.toNat, by omega⟩
      obtain ⟨B, rfl⟩ : ∃ B : Nat, b = B := ⟨b.toNat, by omega⟩
      rw [ds_yes ha hb]
      have hl := fun w => iPLen_any c g w hc
      rw [show lenAns c g = (perL c g : Int) by unfold lenAns; rw [hp]; rfl] at hl
      obtain ⟨G, -, -, -, -, -, -, -, -, q8, q9⟩ := pil_nat hp
      obtain ⟨P, hP⟩ : ∃ P, perL c g = P := ⟨_, rfl⟩
      rw [hP] at hl q8 q9 a1 b1' ⊢
      have hm := fun w => modulo_big ((B : Int) - (A : Int)) P w (by omega) (by omega)
      have hds := ds_mod (P := P) (A := A) (B := B) (by omega) (by omega)
      have hml := modN_lt ((B : Int) - (A : Int)) P (by omega)
      obtain ⟨M, hM⟩ : ∃ M, modN ((B : Int) - (A : Int)) P = M := ⟨_, rfl⟩
      rw [hM] at hm hds hml
      have HE := Lib.hid (show min (M : Int) ((P : Int) - (M : Int)) = (dsN P A B : Int) by rw [hds]; omega)
      have H1 := Lib.hid h1
      have H2 := Lib.hid h2
      have HL := Lib.hid hl
      have HM := Lib.hid hm
      clear h1 h2 ha hb hl hm hM hP hds hp
      go_enter Try.func10, Try.ntmps10
      go_wp2_with fail
      refine (H1.out _).mono ?_
      rintro e w1 ⟨rfl, n1⟩
      have b1 := below_then b0 (Nat.le_refl _) n1
      have u1 := u0.below n1 (by simp)
      clear n1 b0 u0
      obtain ⟨x0, x1, x2⟩ := id u1
      go_wp2_with fail
      clear x0 x1 x2
      refine (H2.out _).mono ?_
      rintro e w2 ⟨rfl, n2⟩
      have b2 := below_then b1 (Nat.le_refl _) n2
      have u2 := u1.below n2 u1.2.2
      clear n2 b1 u1
      obtain ⟨x0, x1, x2⟩ := id u2
      go_wp2_with fail
      clear x0 x1 x2
      refine (HL.out _).mono ?_
      rintro e w3 ⟨rfl, n3⟩
      have b3 := below_then b2 (Nat.le_refl _) n3
      have u3 := u2.below n3 u2.2.2
      clear n3 b2 u2
      go_wp2_with fail
      refine (HM.out _).mono ?_
      rintro e w' ⟨rfl, rfl⟩
      obtain ⟨x0, x1, x2⟩ := id u3
      go_wp2_with fail
      clear x0 x1 x2
      refine (HL.out _).mono ?_
      rintro e w4 ⟨rfl, n4⟩
      have b4 := below_then b3 (Nat.le_refl _) n4
      clear n4 b3 u3
      go_wp2
      all_goals
        go_ret
        exact ⟨ret_int (by have := HE.out; omega), b4⟩
end Go.Proofs.Ytagdfohjhokgiaa
