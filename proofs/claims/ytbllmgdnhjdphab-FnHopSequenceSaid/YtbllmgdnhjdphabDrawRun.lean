/- Contracts of the draws of a register and of a count: l1Open, l1Count, DrawRunRegister. -/
import Derived.Test.YtbllmgdnhjdphabDraw4
namespace Go.Proofs.Ytbllmgdnhjdphab
open Go.RowKit
set_option linter.unusedVariables false
set_option maxHeartbeats 1600000 in
set_option maxRecDepth 100000 in
theorem l1Open_any (b p : Nat) (zs : List Int) (w : World) (hr : RdAt w b p zs) (hp : p ≤ 800000) :
    Calls Try.prog 48 #[.pointer (some ⟨b, 0, none⟩)] w fun e w' => ∃ (S T X : Int) (q : Nat), e = .returned (.agg #[.int .i64 S, .int .i64 T, .int .i64 X]) ∧ FitsI S ∧ FitsI T ∧ FitsI X ∧ q ≤ p + 100 ∧ RdAt w' b q zs ∧ w.grownBy w' (some b) := by
  have hbl := hr.1
  go_enter Try.func48, Try.ntmps48
  go_wp2_with fail
  obtain ⟨W, hB, hD, hf, hz, hW⟩ := one_new w 29
  rw [hW]
  have hr' := hr.below hB
  clear hW
  refine (l1Some_any b p zs _ hr' (by omega)).mono ?_
  rintro e w1 ⟨s, t, x, q, rfl, hreg, hq, hr1, hg1⟩
  have hD1 := hD.kept hg1 (by simp; omega)
  have hf1 : Hid (∀ o, w1.frozen? ⟨w.heap.size, o, none⟩ = false) := fun o => frozen_kept' (hf o) hD.2.2.2 hg1 (by simp; omega)
  have hgw := (grow hB (some b)).trans hg1
  go_wp2_with fail
  refine (l1Bad_any b q zs s t x _ hr1 (by omega) hreg).mono ?_
  rintro e w2 ⟨S, T, X, q2, rfl, fS, fT, fX, hq2, hr2, hg2⟩
  have hD2 := hD1.kept hg2 (by simp; omega)
  have g0 := frozen_kept' (hf1.out 0) hD1.2.2.2 hg2 (by simp; omega)
  have g1 := frozen_kept' (hf1.out 1) hD1.2.2.2 hg2 (by simp; omega)
  have g2 := frozen_kept' (hf1.out 2) hD1.2.2.2 hg2 (by simp; omega)
  obtain ⟨d0, d1, d2, dl⟩ := hD2
  have hg3 := hgw.trans hg2
  clear hD hf hD1 hf1 hr1 hg1 hg2 hB hr hr' hgw
  go_wp2
  refine bodyPost_ret (v := .agg #[.int .i64 S, .int .i64 T, .int .i64 X]) (by simp [results, Try.results48, go_sem, d0, d1, d2]) rfl ⟨S, T, X, q2, rfl, fS, fT, fX, by omega, ((hr2.setNew hbl _).setNew hbl _).setNew hbl _, ((grown_setNew hg3 (Nat.le_refl _) _).trans ⟨rfl, rfl, rfl, Nat.le_refl _, fun _ _ _ => rfl⟩ |> fun h => grown_setNew h (Nat.le_refl _) _) |> fun h => grown_setNew h (Nat.le_refl _) _⟩
end Go.Proofs.Ytbllmgdnhjdphab
