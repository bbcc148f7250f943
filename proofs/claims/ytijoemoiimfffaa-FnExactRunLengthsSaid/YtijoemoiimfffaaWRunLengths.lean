/- The walk of the law FnExactRunLengths. -/
import Derived.Test.YtijoemoiimfffaaSeqRuns3
import Derived.Test.YtijoemoiimfffaaInts
namespace Go.Proofs.Ytijoemoiimfffaa
open Go.RowKit
set_option linter.unusedVariables false
set_option maxRecDepth 100000 in
theorem fnExactRunLengths_walk (z0 : ByteArray) (w : World) (hz0 : z0.size ≤ maxLen) :
    Calls Try.prog 14 #[.string z0] w fun e w' => e = .returned (.bool true) ∧ Below w.heap.size w w' := by
  unfold maxLen at hz0
  by_cases hlz0 : 1048576 < z0.size
  · go_enter Try.func14, Try.ntmps14
    go_wp2
    go_ret
    exact ⟨rfl, Below.refl _ _⟩
  · skip
    have hs := fun w => sRuns_any z0 w (by omega)
    have hi := fun w => iRuns_any z0 w (by omega)
    have hn := rlN_le6 z0
    obtain ⟨n, hN⟩ : ∃ n, rlN z0 = n := ⟨_, rfl⟩
    obtain ⟨f, hF⟩ : ∃ f, rlF z0 = f := ⟨_, rfl⟩
    rw [hN] at hs hi hn
    rw [hF] at hs hi
    clear hN hF
    have HS := Lib.hid hs
    have HI := Lib.hid hi
    clear hs hi
    go_enter Try.func14, Try.ntmps14
    go_wp2_with fail
    refine (HS.out _).mono ?_
    rintro e w1 ⟨v0, rfl, O0, b1⟩
    go_wp2_with fail
    refine (HI.out _).mono ?_
    rintro e w2 ⟨v1, rfl, O1, hb2⟩
    have q0 := O0.below hb2
    have b2 := below_then b1 (Nat.le_refl _) hb2
    have hd : ∀ k, v1.ownBlock = some k → w1.heap.size ≤ k := fun k hk => (O1.lt k hk).1
    have hd0 : ∀ k, v0.ownBlock = some k → k < w1.heap.size := fun k hk => (O0.lt k hk).2
    have hw1 := b1.size
    clear O0 hb2 b1
    go_wp2_with fail
    refine (eqIntS_same v1 v0 _ _ n f _ O1 q0 hn).mono ?_
    rintro e w3 ⟨rfl, m, rfl⟩
    have r0 := q0.drewN m
    have r1 := O1.drewN m
    have b3 := below_drewN b2 m
    obtain ⟨W, hW⟩ : ∃ W, w2.drewN m = W := ⟨_, rfl⟩
    rw [hW] at r0 r1 b3 ⊢
    clear hW q0 O1 b2
    go_wp2_with fail
    refine (markIntS_any v1 _ n f _ r1 hn).mono ?_
    rintro e w4 ⟨rfl, t1, g4⟩
    have hne : v0.ownBlock = none ∨ v0.ownBlock ≠ v1.ownBlock := by
      cases h0 : v0.ownBlock with
      | none => exact .inl rfl
      | some k0 =>
        right
        intro h1
        have := hd0 k0 h0
        have := hd k0 h1.symm
        omega
    have t0 := r0.kept g4 hne
    have b4 : Below w.heap.size w w4 := b3.grown g4 b3.size (fun k hk => by have := hd k hk; omega)
    clear r0 r1 g4 b3 hne hd hd0
    go_wp2_with fail
    refine (heldIntS_any v1 _ n _ t1 hn).mono ?_
    rintro e w' ⟨rfl, rfl⟩
    go_wp2_with fail
    refine (HI.out _).mono ?_
    rintro e w5 ⟨v2, rfl, O2, hb5⟩
    have u0 := t0.below hb5
    have u1 := t1.below hb5
    have b5 := below_then b4 (Nat.le_refl _) hb5
    clear t0 t1 b4 hb5
    go_wp2_with fail
    refine (eqIntS_same v2 v0 _ _ n f _ O2 u0 hn).mono ?_
    rintro e w6 ⟨rfl, m2, rfl⟩
    have s1 := u1.drewN m2
    have b6 := below_drewN b5 m2
    obtain ⟨W2, hW2⟩ : ∃ W2, w5.drewN m2 = W2 := ⟨_, rfl⟩
    rw [hW2] at s1 b6 ⊢
    clear hW2 u0 u1 O2 b5
    go_wp2_with fail
    refine (heldIntS_any v1 _ n _ s1 hn).mono ?_
    rintro e w' ⟨rfl, rfl⟩
    go_wp2
    go_ret
    exact ⟨rfl, b6⟩
end Go.Proofs.Ytijoemoiimfffaa

