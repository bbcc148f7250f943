/- The draw of PeriodOf. -/
import Derived.Test.YtmmonhagceacjaaDrawRun
namespace Go.Proofs.Ytmmonhagceacjaa
open Go.RowKit
set_option linter.unusedVariables false
set_option maxRecDepth 100000
def RegPost (w : World) (e : Ending) (w' : World) : Prop := ∃ S T X : Int, e = .returned (.agg #[.int .i64 S, .int .i64 T, .int .i64 X]) ∧ FitsI S ∧ FitsI T ∧ FitsI X ∧ Below w.heap.size w w'
set_option maxHeartbeats 1600000 in
theorem drawPer_any (a : Option Addr) (len cap : Nat) (zs : List Int) (w : World) (h : IsBytes w a len cap zs) :
    Calls Try.prog 25 #[.slice a len cap] w (RegPost w) := by
  go_enter Try.func25, Try.ntmps25
  go_wp2_with fail
  obtain ⟨W, hB, hD, hf, hz, hW⟩ := one_new w 24
  rw [hW]
  clear hW
  have h' : IsBytes W a len cap zs := h.below hB
  refine (open_any a len cap zs _ h').mono ?_
  rintro e w1 ⟨b, ys, rfl, hr1, hb1, hlb⟩
  have b1 := below_then hB (Nat.le_refl _) hb1
  have hD1 := hD.below hb1 hD.2.2.2
  have HF1 : Hid (∀ o, w1.frozen? ⟨w.heap.size, o, none⟩ = false) := fun o => (hb1.frozen (p := ⟨w.heap.size, o, none⟩) hD.2.2.2).trans (hf o)
  have hlb' : w.heap.size < b := by omega
  clear hB hD hf h h' hb1 hlb hz
  go_wp2_with fail
  refine (l1Open_any b 0 ys _ hr1 (by omega)).mono ?_
  rintro e w2 ⟨S, T, X, q, rfl, fS, fT, fX, hq, hr2, hg2⟩
  have b2 := below_grown b1 (Nat.le_refl _) hg2 (by omega)
  have hD2 := hD1.kept hg2 (by simp; omega)
  have g0 := frozen_kept' (HF1.out 0) hD1.2.2.2 hg2 (by simp; omega)
  have g1 := frozen_kept' (HF1.out 1) hD1.2.2.2 hg2 (by simp; omega)
  have g2 := frozen_kept' (HF1.out 2) hD1.2.2.2 hg2 (by simp; omega)
  obtain ⟨d0, d1, d2, dl⟩ := hD2
  clear b1 hr1 hD1 HF1 hg2
  go_wp2
  refine bodyPost_ret (v := .agg #[.int .i64 S, .int .i64 T, .int .i64 X]) (by simp [results, Try.results25, go_sem, d0, d1, d2]) rfl ⟨S, T, X, rfl, fS, fT, fX, ((b2.setCell (p := ⟨w.heap.size, 0, none⟩) (Nat.le_refl _) _).setCell (p := ⟨w.heap.size, 1, none⟩) (Nat.le_refl _) _).setCell (p := ⟨w.heap.size, 2, none⟩) (Nat.le_refl _) _⟩
end Go.Proofs.Ytmmonhagceacjaa
