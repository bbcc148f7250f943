/- The contract of DrawPowerGoal. -/
import Derived.Test.YtjnipbopimpggaaDrawCel2
import Derived.Deep.RegionWith
namespace Go.Proofs.Ytjnipbopimpggaa
open Go.RowKit
set_option linter.unusedVariables false
set_option maxRecDepth 100000
theorem frozen_at (w : World) (cs : Array Value) (T : TypeId) (o : Nat) : (w.alloc (.cells cs T)).frozen? ⟨w.heap.size, o, none⟩ = false := by simp
set_option maxHeartbeats 3200000 in
theorem drawPowerGoal_any (a : Option Addr) (len cap : Nat) (zs : List Int) (w : World) (h : IsBytes w a len cap zs) :
    Calls Try.prog 38 #[.slice a len cap] w (StnInt w) := by
  have b0 := (Below.refl w.heap.size w).alloc (Nat.le_refl _) (.cells #[.string ⟨#[]⟩, .string ⟨#[]⟩, .int .i64 0, .int .i64 0] 33)
  have u0 := UsrAt.new w 33 ⟨#[]⟩ ⟨#[]⟩ 0 0
  have F0 := Lib.hid (fun o => frozen_at w #[.string ⟨#[]⟩, .string ⟨#[]⟩, .int .i64 0, .int .i64 0] 33 o)
  have h0 : IsBytes (w.alloc (.cells #[.string ⟨#[]⟩, .string ⟨#[]⟩, .int .i64 0, .int .i64 0] 33)) a len cap zs := h.below ((Below.refl _ _).alloc (Nat.le_refl _) _)
  have hsA : (w.alloc (.cells #[.string ⟨#[]⟩, .string ⟨#[]⟩, .int .i64 0, .int .i64 0] 33)).heap.size = w.heap.size + 1 := by simp
  clear h
  go_enter Try.func38, Try.ntmps38
  go_wp2_with fail
  refine (open_any a len cap zs _ h0).mono ?_
  rintro e w1 ⟨b, ys, rfl, hr, hb, hlb⟩
  go_wp2_with fail
  refine (l8Open_any b 0 ys _ hr (by omega)).mono ?_
  rintro e w2 ⟨v, n, f, q, rfl, O2, hn, hf, hq, hr2, h2⟩
  have hwb : w.heap.size < b := by rw [hsA] at hlb; omega
  have hbw1 : b < w1.heap.size := hr.1
  have g2 := (grownAny (grown_of_below hb) (some b)).trans h2
  have HF := Lib.hid hf
  clear hr hb h2 hf
  by_cases h0 : n = 0
  · subst h0
    obtain ⟨av, cv, rfl, -⟩ := O2.form
    go_wp2_with fail
    refine (pick_any b q 20 ys _ hr2 (by omega) (by omega) (by omega)).mono ?_
    rintro e w3 ⟨k, hk, rfl, hr3, h3⟩
    have g3 := g2.trans h3
    clear hr2 h3 g2
    go_wp2_with fail
    refine (l8Aim_any b (q + 1) ys _ hr3 (by omega)).mono ?_
    rintro e w4 ⟨t, q4, rfl, ht, hq4, hr4, h4⟩
    have g4 := g3.trans h4
    have u4 := u0.kept g4 (by simp; omega)
    have f0 := frozen_kept' (F0.out 0) u0.2.2.2.2 g4 (by simp; omega)
    have f1 := frozen_kept' (F0.out 1) u0.2.2.2.2 g4 (by simp; omega)
    have f2 := frozen_kept' (F0.out 2) u0.2.2.2.2 g4 (by simp; omega)
    have f3 := frozen_kept' (F0.out 3) u0.2.2.2.2 g4 (by simp; omega)
    have b4 := b0.grown g4 (by rw [hsA]; omega) (fun k hk => by cases hk; omega)
    obtain ⟨d0, d1, d2, d3, d4⟩ := u4
    have hws : w.heap.size ≤ w4.heap.size := by omega
    clear g3 h4 g4 u0 F0 hr3 hr4 b0 hsA hlb O2
    go_wp2
    refine bodyPost_ret (v := .tuple #[.agg #[.string ⟨#[97]⟩, .string ⟨#[]⟩, .int .i64 0, .int .i64 (1 + (k : Int))], .int .i64 t]) (by simp [results, Try.results38, go_sem, d0, d1, d2, d3]) rfl ?_
    have q3 := grown4 (w := w4) (g := w.heap.size) 0 1 2 3 (.string ⟨#[97]⟩) (.string ⟨#[]⟩) (.int .i64 0) (.int .i64 (1 + (k : Int)))
    exact ⟨⟨⟨#[97]⟩, ⟨#[]⟩, 0, 1 + (k : Int)⟩, t, rfl, ⟨by show (⟨#[97]⟩ : ByteArray).size ≤ 1000; decide, by show (⟨#[]⟩ : ByteArray).size ≤ 1000; decide, by show FitsI 0; unfold FitsI; omega, by show FitsI (1 + (k : Int)); unfold FitsI; omega⟩, ht, b4.grown q3 hws (fun k hk => by cases hk; exact Nat.le_refl _)⟩
  · obtain ⟨av, cv, rfl, hg⟩ := O2.form
    obtain ⟨g, rfl, hgB, hgl⟩ := hg (by omega)
    clear hg
    have e0 : ((n : Int) == 0) = false := by simp; omega
    have j1 : (0 : Int) < (n : Int) := by omega
    have hb0 := HF.out 0 (by omega)
    obtain ⟨c0, c1, c2, c3⟩ := O2.cells 0 (by omega)
    obtain ⟨⟨C, E, X, Y⟩, hF0⟩ : ∃ v, f 0 = v := ⟨_, rfl⟩
    rw [hF0] at c0 c1 c2 c3 hb0
    dsimp only at c0 c1 c2 c3
    have hgb : b < w1.heap.size := hbw1
    have HAIM := Lib.hid (fun W h => l8Aim_any b q ys W h (by omega))
    have hneg : (some g : Option Nat) ≠ some b := fun e => by injection e with e; omega
    go_wp2_with fail
    go_region_with ((go_at_call 70; refine (HAIM.out _ (hr2.below (below_drew (Below.refl w2.heap.size w2)))).mono ?_; rintro e w4 ⟨t, q4, rfl, ht, hq4, hr4, h4⟩; have h4' := (show w2.grownBy w2.drew (some b) from ⟨rfl, rfl, rfl, Nat.le_refl _, fun _ _ _ => rfl⟩).trans h4; have k0 := h4'.cell c0 hneg; have k1 := h4'.cell c1 hneg; have k2 := h4'.cell c2 hneg; have k3 := h4'.cell c3 hneg; have g4 := g2.trans h4'; have u4 := u0.kept g4 (by simp; omega); have f0 := frozen_kept' (F0.out 0) u0.2.2.2.2 g4 (by simp; omega); have f1 := frozen_kept' (F0.out 1) u0.2.2.2.2 g4 (by simp; omega); have f2 := frozen_kept' (F0.out 2) u0.2.2.2.2 g4 (by simp; omega); have f3 := frozen_kept' (F0.out 3) u0.2.2.2.2 g4 (by simp; omega); obtain ⟨d0, d1, d2, d3, d4⟩ := u4))
    all_goals
      have b4 := b0.grown g4 (by rw [hsA]; omega) (fun k hk => by cases hk; omega)
      have hws : w.heap.size ≤ w4.heap.size := by omega
      have q3 := grown4 (w := w4) (g := w.heap.size) 0 1 2 3 (.string C) (.string E) (.int .i64 X) (.int .i64 Y)
      have fin := b4.grown q3 hws (fun k hk => by cases hk; exact Nat.le_refl _)
      have FIN := Lib.hid fin
      clear fin q3 b4 g4 h4 h4' hr4 hr2 O2 g2 u0 F0 b0 hsA hlb
      go_wp2
      refine bodyPost_ret (v := .tuple #[.agg #[.string C, .string E, .int .i64 X, .int .i64 Y], .int .i64 t]) (by simp [results, Try.results38, go_sem, d0, d1, d2, d3]) rfl ?_
      exact ⟨⟨C, E, X, Y⟩, t, rfl, hb0, ht, FIN.out⟩
end Go.Proofs.Ytjnipbopimpggaa
