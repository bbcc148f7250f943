/- The program's loop: discriminate, step. -/
import Derived.Test.YtagdfohjhokgiaaPil7
namespace Go.Proofs.Ytagdfohjhokgiaa
open Go.RowKit
set_option linter.unusedVariables false
set_option maxRecDepth 100000
set_option maxHeartbeats 1600000 in
theorem iDisc_any (bl bs : Nat) (v : Value) (n : Nat) (f : Nat → Int) (vt : Value) (c : ByteArray) (G P K : Nat) (w : World) (h : LoopOK w bl bs v n f vt c G P K) (hG : G ≤ 8) (hK : K < P) :
    Calls Try.prog 90 #[.pointer (some ⟨bl, 0, none⟩)] w fun e w' => e = .returned (.int .i64 (elD n f c G P K)) ∧ ∃ m, w.drewN m = w' := by
  obtain ⟨c0, c1, c2, -, hl, hlt, hS⟩ := h
  have HS := Lib.hid hS
  obtain ⟨-, -, hA, h3, q4, q7, q8, q9⟩ := hS
  have hE : elD n f c G P K = scr n f c G P ((K : Int) + (hfN G : Int)) - scr n f c G P ((K : Int) - (hfN G : Int)) := rfl
  have s1 := scr_bd (n := n) (f := f) q4 q7 q8 hA h3 ((K : Int) + (hfN G : Int))
  have s2 := scr_bd (n := n) (f := f) q4 q7 q8 hA h3 ((K : Int) - (hfN G : Int))
  have hhf : hfN G ≤ 8 := by unfold hfN; omega
  have hC1 := fun m => iScore_any bs v n f vt c G P ((K : Int) + (hfN G : Int)) (w.drewN m) (HS.out.below (below_drewN (Below.refl _ _) m)) (by omega) (by omega)
  have hC2 := fun m => iScore_any bs v n f vt c G P ((K : Int) - (hfN G : Int)) (w.drewN m) (HS.out.below (below_drewN (Below.refl _ _) m)) (by omega) (by omega)
  obtain ⟨F, hF⟩ : ∃ F, hfN G = F := ⟨_, rfl⟩
  rw [hF] at c1 hE s1 s2 hhf hC1 hC2
  obtain ⟨S1, hS1⟩ : ∃ S, scr n f c G P ((K : Int) + (F : Int)) = S := ⟨_, rfl⟩
  obtain ⟨S2, hS2⟩ : ∃ S, scr n f c G P ((K : Int) - (F : Int)) = S := ⟨_, rfl⟩
  rw [hS1] at hE s1 hC1
  rw [hS2] at hE s2 hC2
  have w1 : IntKind.i64.wrap ((K : Int) + (F : Int)) = (K : Int) + (F : Int) := IntWalk.i64_in _ (by omega)
  have w2 : IntKind.i64.wrap ((K : Int) - (F : Int)) = (K : Int) - (F : Int) := IntWalk.i64_in _ (by omega)
  obtain ⟨X1, hX1⟩ : ∃ X, (K : Int) + (F : Int) = X := ⟨_, rfl⟩
  obtain ⟨X2, hX2⟩ : ∃ X, (K : Int) - (F : Int) = X := ⟨_, rfl⟩
  rw [hX1] at hC1
  rw [hX2] at hC2
  have v1 : IntKind.i64.wrap ((K : Int) + (F : Int)) = X1 := w1.trans hX1
  have v2 : IntKind.i64.wrap ((K : Int) - (F : Int)) = X2 := w2.trans hX2
  have HE := Lib.hid hE
  have HC1 := Lib.hid hC1
  have HC2 := Lib.hid hC2
  have v3 : IntKind.i64.wrap (S1 - S2) = S1 - S2 := IntWalk.i64_in _ (by omega)
  clear hE hC1 hC2 hF hS1 hS2 s1 s2 hA h3 q4 q7 w1 w2 hX1 hX2
  go_enter Try.func90, Try.ntmps90
  go_wp2_with fail
  go_quiet ((go_at_call 47; first | with_reducible exact quiet_drewP (HC1.out _) | with_reducible exact quiet_drewP (HC2.out _)))
  clear v1 v2 v3 c0 c1 c2
  go_wp2
  go_ret
  exact ⟨ret_int HE.out.symm, _, rfl⟩
theorem cmp_zero (x : Int) (w : World) :
    Calls Try.prog 92 #[.int .i64 x, .int .i64 0] w fun e w' => e = .returned (.int .i64 (sgI x)) ∧ w = w' := by
  by_cases h1 : x < 0
  · have HR := Lib.hid (show sgI x = -1 by unfold sgI; rw [if_neg (by omega), if_pos h1])
    go_enter Try.func92, Try.ntmps92
    go_wp2
    go_ret
    exact ⟨ret_int HR.out.symm, rfl⟩
  · by_cases h2 : 0 < x
    · have HR := Lib.hid (show sgI x = 1 by unfold sgI; rw [if_pos h2])
      go_enter Try.func92, Try.ntmps92
      go_wp2
      go_ret
      exact ⟨ret_int HR.out.symm, rfl⟩
    · have HR := Lib.hid (show sgI x = 0 by unfold sgI; rw [if_neg h2, if_neg h1])
      go_enter Try.func92, Try.ntmps92
      go_wp2
      go_ret
      exact ⟨ret_int HR.out.symm, rfl⟩
end Go.Proofs.Ytagdfohjhokgiaa
