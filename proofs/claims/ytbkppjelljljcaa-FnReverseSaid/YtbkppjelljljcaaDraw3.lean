/- Contracts of the draws for steps back and jumps. -/
import Derived.Test.YtbkppjelljljcaaDraw2
namespace Go.Proofs.Ytbkppjelljljcaa
open Go.RowKit
/-- A register was drawn, of numbers that fit; what was there is as it was. -/
def DrawReg (w : World) (e : Ending) (w' : World) : Prop :=
  ∃ S T X : Int, e = .returned (.agg #[.int .i64 S, .int .i64 T, .int .i64 X]) ∧ FitsI S ∧ FitsI T ∧ FitsI X ∧ Below w.heap.size w w'
theorem drawBack_any (a : Option Addr) (len cap : Nat) (zs : List Int) (w : World) (h : IsBytes w a len cap zs) :
    Calls Try.prog 39 #[.slice a len cap] w (DrawReg w) := by
  go_enter Try.func39, Try.ntmps39
  go_wp2_with fail
  obtain ⟨W, hB, hD, hf, hz, hW⟩ := one_new w 24
  rw [hW]
  clear hW
  have h' : IsBytes W a len cap zs := h.below hB
  refine (open_any a len cap zs _ h').mono ?_
  rintro e w1 ⟨b, ys, rfl, hr1, hb1, hlb⟩
  have b1 := below_then hB (Nat.le_refl _) hb1
  have hD1 := hD.below hb1 hD.2.2.2
  have hf1 : ∀ o, w1.frozen? ⟨w.heap.size, o, none⟩ = false := fun o => (hb1.frozen (p := ⟨w.heap.size, o, none⟩) hD.2.2.2).trans (hf o)
  have HF := Lib.hid hf1
  have hlb : w.heap.size ≤ b := by omega
  have hn1 : w.heap.size < w1.heap.size := hD1.2.2.2
  clear hB hD hf h h' hb1 hf1
  go_wp2_with fail
  refine (l1Some_any b 0 ys _ hr1 (by omega)).mono ?_
  rintro e w2 ⟨s, t, x, q, rfl, hreg, hq, hr2, hg2⟩
  go_wp2_with fail
  obtain ⟨V, b3, hA3, hD3, hf3, hfA3, hr3, hzV, hV⟩ : ∃ V, Below w.heap.size w V ∧ RegAt V w2.heap.size s t x ∧ RegAt V w.heap.size 0 0 0 ∧ Hid (∀ o, V.frozen? ⟨w.heap.size, o, none⟩ = false) ∧ Hid (∀ o, V.frozen? ⟨w2.heap.size, o, none⟩ = false) ∧ RdAt V b q ys ∧ b < w2.heap.size ∧
      w2.alloc (.cells #[.int .i64 s, .int .i64 t, .int .i64 x] 24) = V := by
    have b2 := below_grown b1 (Nat.le_refl _) hg2 hlb
    have hD2 := hD1.kept hg2 (by simp; omega)
    refine ⟨_, b2.alloc b2.size _, RegAt.new w2 _ s t x, hD2.kept (World.grownBy_alloc w2 _ none) (by simp), ?_, ?_, hr2.alloc _, hr2.1, rfl⟩
    · intro o; exact frozen_kept' (frozen_kept' (HF.out o) hD1.2.2.2 hg2 (by simp; omega)) hD2.2.2.2 (World.grownBy_alloc w2 _ none) (by simp)
    · intro o; simp
  rw [hV]
  have hg2n : w.heap.size < w2.heap.size := Nat.lt_of_lt_of_le hn1 hg2.size
  clear hV b1 hD1 HF hr1 hr2 hg2
  refine (pick_any b q 4 ys _ hr3 (by omega) (by omega) (by omega)).mono ?_
  rintro e w4 ⟨k, hk, rfl, hr4, hg4⟩
  have b4 := below_grown b3 (Nat.le_refl _) hg4 hlb
  have hA4 := hA3.kept hg4 (by simp; omega)
  have hD4 := hD3.kept hg4 (by simp; omega)
  have hf4 : ∀ o, w4.frozen? ⟨w.heap.size, o, none⟩ = false := fun o => frozen_kept' (hf3.out o) hD3.2.2.2 hg4 (by simp; omega)
  have f1 := frozen_kept' (hfA3.out 1) hA3.2.2.2 hg4 (by simp; omega)
  have HF4 : Hid (∀ o, w4.frozen? ⟨w.heap.size, o, none⟩ = false) := hf4
  obtain ⟨c0, c1, c2, cl⟩ := hA4
  clear b3 hA3 hD3 hf3 hfA3 hr3 hg4 hf4
  by_cases hk0 : k = 0
  · subst hk0
    go_wp2_with fail
    refine (l1Bad_any b (q + 1) ys s t x _ hr4 (by omega) hreg).mono ?_
    rintro e w5 ⟨S, T, X, q5, rfl, fS, fT, fX, hq5, hr5, hg5⟩
    have b5 := below_grown b4 (Nat.le_refl _) hg5 hlb
    have g0 := frozen_kept' (HF4.out 0) hD4.2.2.2 hg5 (by simp; omega)
    have g1 := frozen_kept' (HF4.out 1) hD4.2.2.2 hg5 (by simp; omega)
    have g2 := frozen_kept' (HF4.out 2) hD4.2.2.2 hg5 (by simp; omega)
    obtain ⟨d0, d1, d2, dl⟩ := hD4.kept hg5 (by simp; omega)
    clear hD4 HF4 hg5 b4 hr4
    go_wp2
    refine bodyPost_ret (v := .agg #[.int .i64 S, .int .i64 T, .int .i64 X]) (by simp [results, Try.results39, go_sem, d0, d1, d2]) rfl ⟨S, T, X, rfl, fS, fT, fX, ?_⟩
    go_grown
  · obtain ⟨t', ht'⟩ : ∃ t', t / 2 * 2 + 1 = t' := ⟨_, rfl⟩
    have hte : (t : Int) / 2 * 2 + 1 = (t' : Int) := by omega
    have hreg' : RegN s t' x := by
      obtain ⟨h1, h2, h3, h4, h5⟩ := hreg
      have := tw_half s (by omega)
      exact ⟨h1, h2, by omega, by omega, h5⟩
    have ht8 : t < 256 := by have := hreg.tapLt; have := tw_le s hreg.hi; omega
    have HT := Lib.hid ht'
    clear ht' hreg
    have hreg := hreg'
    clear hreg'
    have hn2 : w.heap.size ≠ w2.heap.size := by have := hD4.2.2.2; have := hg2n; omega
    go_wp2_with fail
    obtain ⟨V2, b6, hD6, HF6, hr6, hV2⟩ : ∃ V2, Below w.heap.size w V2 ∧ RegAt V2 w.heap.size 0 0 0 ∧ Hid (∀ o, V2.frozen? ⟨w.heap.size, o, none⟩ = false) ∧ RdAt V2 b (q + 1) ys ∧ w4.setCell ⟨w2.heap.size, 1, none⟩ (.int .i64 t') = V2 := by
      refine ⟨_, b4.setCell (p := ⟨w2.heap.size, 1, none⟩) (by show w.heap.size ≤ w2.heap.size; omega) _, hD4.kept (row := some w2.heap.size) ⟨rfl, rfl, rfl, by simp, fun k _ hne => Below.heap_setCell _ _ _ _ (fun e => hne (by rw [e]))⟩ (by simp; exact hn2), ?_, hr4.setNew (by show b < w2.heap.size; omega) _, rfl⟩
      intro o
      simp [World.frozen?_setCell]
      exact HF4.out o
    rw [hV2]
    clear hV2 b4 hD4 HF4 hr4
    have b4 := b6
    have hD4 := hD6
    have HF4 := HF6
    have hr4 := hr6
    clear b6 hD6 HF6 hr6
    refine (l1Bad_any b (q + 1) ys s t' x _ hr4 (by omega) hreg).mono ?_
    rintro e w5 ⟨S, T, X, q5, rfl, fS, fT, fX, hq5, hr5, hg5⟩
    have b5 := below_grown b4 (Nat.le_refl _) hg5 hlb
    have g0 := frozen_kept' (HF4.out 0) hD4.2.2.2 hg5 (by simp; omega)
    have g1 := frozen_kept' (HF4.out 1) hD4.2.2.2 hg5 (by simp; omega)
    have g2 := frozen_kept' (HF4.out 2) hD4.2.2.2 hg5 (by simp; omega)
    obtain ⟨d0, d1, d2, dl⟩ := hD4.kept hg5 (by simp; omega)
    clear hD4 HF4 hg5 b4 hr4
    go_wp2
    refine bodyPost_ret (v := .agg #[.int .i64 S, .int .i64 T, .int .i64 X]) (by simp [results, Try.results39, go_sem, d0, d1, d2]) rfl ⟨S, T, X, rfl, fS, fT, fX, ?_⟩
    go_grown
end Go.Proofs.Ytbkppjelljljcaa
