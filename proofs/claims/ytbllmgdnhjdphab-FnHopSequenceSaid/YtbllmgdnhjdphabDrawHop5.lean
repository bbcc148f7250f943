/- The contract of the draw of hops of a register. -/
import Derived.Test.YtbllmgdnhjdphabDrawHop4
namespace Go.Proofs.Ytbllmgdnhjdphab
open Go.RowKit
set_option linter.unusedVariables false
set_option maxRecDepth 100000
/-- A register and two numbers were drawn. -/
def DrawRegInt2 (w : World) (e : Ending) (w' : World) : Prop := ∃ (S T X C K : Int), e = .returned (.tuple #[.agg #[.int .i64 S, .int .i64 T, .int .i64 X], .int .i64 C, .int .i64 K]) ∧ FitsI S ∧ FitsI T ∧ FitsI X ∧ (-1 ≤ C ∧ C ≤ 301) ∧ FitsI K ∧ Below w.heap.size w w'
set_option maxHeartbeats 1600000 in
theorem drawHopSeq_any (a : Option Addr) (len cap : Nat) (zs : List Int) (w : World) (h : IsBytes w a len cap zs) :
    Calls Try.prog 17 #[.slice a len cap] w (DrawRegInt2 w) := by
  go_enter Try.func17, Try.ntmps17
  go_wp2_with fail
  obtain ⟨W, hB, hD, hf, hz, hW⟩ := one_new w 29
  rw [hW]
  clear hW
  have h' : IsBytes W a len cap zs := h.below hB
  refine (open_any a len cap zs _ h').mono ?_
  rintro e w1 ⟨b, ys, rfl, hr1, hb1, hlb⟩
  have b1 := below_then hB (Nat.le_refl _) hb1
  have hD1 := hD.below hb1 hD.2.2.2
  have HF1 : Hid (∀ o, w1.frozen? ⟨w.heap.size, o, none⟩ = false) := fun o => (hb1.frozen (p := ⟨w.heap.size, o, none⟩) hD.2.2.2).trans (hf o)
  have hlb' : w.heap.size < b := by omega
  clear hB hD hf h h' hb1 hlb hz
  go_wp2_with fail
  refine (l1Open_any b 0 ys _ hr1 (by omega)).mono ?_
  rintro e w2 ⟨S, T, X, q, rfl, fS, fT, fX, hq, hr2, hg2⟩
  have b2 := below_grown b1 (Nat.le_refl _) hg2 (by omega)
  have hD2 := hD1.kept hg2 (by simp; omega)
  have HF2 : Hid (∀ o, w2.frozen? ⟨w.heap.size, o, none⟩ = false) := fun o => frozen_kept' (HF1.out o) hD1.2.2.2 hg2 (by simp; omega)
  clear b1 hr1 hD1 HF1 hg2
  go_wp2_with fail
  obtain ⟨V, b3, hA3, hD3, HF3, hr3, hlt3, hVs, hV⟩ : ∃ V, Below w.heap.size w V ∧ RegAt V w2.heap.size S T X ∧ RegAt V w.heap.size 0 0 0 ∧ Hid (∀ o, V.frozen? ⟨w.heap.size, o, none⟩ = false) ∧ RdAt V b q ys ∧ b < w2.heap.size ∧ V.heap.size = w2.heap.size + 1 ∧
      w2.alloc (.cells #[.int .i64 S, .int .i64 T, .int .i64 X] 29) = V :=
    ⟨_, b2.alloc b2.size _, RegAt.new w2 _ S T X, hD2.kept (World.grownBy_alloc w2 _ none) (by simp), fun o => frozen_kept' (HF2.out o) hD2.2.2.2 (World.grownBy_alloc w2 _ none) (by simp), hr2.alloc _, hr2.1, World.size_alloc _ _, rfl⟩
  rw [hV]
  clear hV b2 hr2 hD2 HF2
  have hI : IntsAt (V.alloc (.cells #[.int .i64 4, .int .i64 5, .int .i64 7, .int .i64 8, .int .i64 3, .int .i64 16, .int .i64 1, .int .i64 2] 3)) (w2.heap.size + 1) [4, 5, 7, 8, 3, 16, 1, 2] := by rw [← hVs]; exact IntsAt.new V _ [4, 5, 7, 8, 3, 16, 1, 2]
  refine (num_any b q ys _ (w2.heap.size + 1) 8 [4, 5, 7, 8, 3, 16, 1, 2] (hr3.alloc _) hI rfl (by omega) (by omega) (by omega) (by omega)).mono ?_
  rintro e w4 ⟨v, hv, rfl, hr4, hg4⟩
  obtain ⟨c, rfl, hc1, hc2⟩ := chNums_at hv
  have hg4' := (World.grownBy_alloc V (.cells #[.int .i64 4, .int .i64 5, .int .i64 7, .int .i64 8, .int .i64 3, .int .i64 16, .int .i64 1, .int .i64 2] 3) (some b)).trans hg4
  have b4 := below_grown b3 (Nat.le_refl _) hg4' (by omega)
  have hA4 := hA3.kept hg4' (by simp; omega)
  have hD4 := hD3.kept hg4' (by simp; omega)
  have HF4 : Hid (∀ o, w4.frozen? ⟨w.heap.size, o, none⟩ = false) := fun o => frozen_kept' (HF3.out o) hD3.2.2.2 hg4' (by simp; omega)
  clear b3 hr3 hA3 hD3 HF3 hg4 hg4' hv
  go_wp2_with fail
  refine (l7Number_any b (q + 1) ys c _ hr4 (by omega) (by omega)).mono ?_
  rintro e w5 ⟨C, q5, rfl, C1, C2, hq5, hr5, hg5⟩
  have b5 := below_grown b4 (Nat.le_refl _) hg5 (by omega)
  have hA5 := hA4.kept hg5 (by simp; omega)
  have hD5 := hD4.kept hg5 (by simp; omega)
  have HF5 : Hid (∀ o, w5.frozen? ⟨w.heap.size, o, none⟩ = false) := fun o => frozen_kept' (HF4.out o) hD4.2.2.2 hg5 (by simp; omega)
  clear b4 hr4 hA4 hD4 HF4 hg5
  obtain ⟨c0, c1, c2, cl⟩ := id hA5
  go_wp2_with fail
  go_region_with ((go_at_call 51; refine (l7Count_any b q5 ys _ hr5.drew (by omega)).mono ?_; rintro e w6 ⟨K, q6, rfl, fK, hq6, hr6, hg6⟩; obtain ⟨m0, m1, m2, ml⟩ := (hA5.kept (drew_grow w5 none) (by simp)).kept hg6 (by simp; omega); have b6 := below_grown b5.drew (Nat.le_refl _) hg6 (by omega); have hD6 := (hD5.kept (drew_grow w5 none) (by simp)).kept hg6 (by simp; omega); have g0 := frozen_kept' (HF5.out 0) hD5.2.2.2 ((drew_grow w5 (some b)).trans hg6) (by simp; omega); have g1 := frozen_kept' (HF5.out 1) hD5.2.2.2 ((drew_grow w5 (some b)).trans hg6) (by simp; omega); have g2 := frozen_kept' (HF5.out 2) hD5.2.2.2 ((drew_grow w5 (some b)).trans hg6) (by simp; omega); obtain ⟨d0, d1, d2, dl⟩ := hD6))
  all_goals
    clear hA5 hD5 HF5 b5 hr5 hr6 hg6
    go_wp2
    refine bodyPost_ret (v := .tuple #[.agg #[.int .i64 S, .int .i64 T, .int .i64 X], .int .i64 C, .int .i64 K]) (by simp [results, Try.results17, go_sem, d0, d1, d2]) rfl ⟨S, T, X, C, K, rfl, fS, fT, fX, ⟨C1, C2⟩, fK, ?_⟩
    go_grown
end Go.Proofs.Ytbllmgdnhjdphab
