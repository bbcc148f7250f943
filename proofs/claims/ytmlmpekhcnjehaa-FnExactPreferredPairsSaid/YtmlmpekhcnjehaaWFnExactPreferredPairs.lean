/- The walk of the exact law on PreferredPairs. -/
import Derived.Test.YtmlmpekhcnjehaaPrsE
namespace Go.Proofs.Ytmlmpekhcnjehaa
open Go.RowKit
set_option linter.unusedVariables false
set_option maxHeartbeats 1600000 in
set_option maxRecDepth 100000 in
theorem fnExactPreferredPairs_walk (S : Int) (w : World) (_ : (Lit.int .i64 S).wf = true) :
    Calls Try.prog 3 #[.int .i64 S] w fun e w' => e = .returned (.bool true) ∧ Below w.heap.size w w' := by
  obtain ⟨l, hl, hs, hi⟩ := bothPairs S
  obtain ⟨n, hN⟩ : ∃ n, l.length = n := ⟨_, rfl⟩
  obtain ⟨f, hF⟩ : ∃ f, LP l = f := ⟨_, rfl⟩
  rw [hN] at hs hi hl
  rw [hF] at hs hi
  clear hN hF
  have HS := Lib.hid hs
  have HI := Lib.hid hi
  have hn : n ≤ 1048576 := by omega
  clear hs hi
  go_enter Try.func3, Try.ntmps3
  go_wp2_with fail
  refine (HS.out _).mono ?_
  rintro e w1 ⟨v0, rfl, O0, b1⟩
  go_wp2_with fail
  refine (HI.out _).mono ?_
  rintro e w2 ⟨v1, rfl, O1, hb2⟩
  have q0 := O0.below hb2
  have b2 := below_then b1 (Nat.le_refl _) hb2
  have hne : v0.ownBlock = none ∨ v0.ownBlock ≠ v1.ownBlock := by
    cases h0 : v0.ownBlock with
    | none => exact .inl rfl
    | some q =>
      right
      intro e
      have h1 := (O0.lt q h0).2
      have h2 := (O1.lt q e.symm).1
      omega
  have hw1 := b1.size
  obtain ⟨C, hC⟩ : ∃ C, w1.heap.size = C := ⟨_, rfl⟩
  rw [hC] at O1 hw1
  have HNE := Lib.hid hne
  clear O0 hb2 b1 hC hne
  go_wp2_with fail
  refine (eqPairS_same v1 v0 C _ n f _ O1 q0 hn).mono ?_
  rintro e w3 ⟨rfl, hb3⟩
  have r0 := q0.below hb3
  have r1 := O1.below hb3
  have b3 := below_then b2 (Nat.le_refl _) hb3
  clear q0 O1 b2 hb3
  go_wp2_with fail
  refine (markPairS_any v1 C n f _ r1 hn).mono ?_
  rintro e w4 ⟨rfl, t1, g4⟩
  have t0 := r0.kept g4 HNE.out
  have b4 : Below w.heap.size w w4 := b3.grown g4 b3.size (fun q hq => Nat.le_trans hw1 (r1.lt q hq).1)
  clear r0 r1 g4 b3
  go_wp2_with fail
  refine (heldPairS_any v1 C n _ t1 hn).mono ?_
  rintro e w5 ⟨rfl, hb5⟩
  have u0 := t0.below hb5
  have u1 := t1.below hb5
  have b5 := below_then b4 (Nat.le_refl _) hb5
  clear t0 t1 b4 hb5
  go_wp2_with fail
  refine (HI.out _).mono ?_
  rintro e w6 ⟨v2, rfl, O2, hb6⟩
  have s0 := u0.below hb6
  have s1 := u1.below hb6
  have b6 := below_then b5 (Nat.le_refl _) hb6
  clear u0 u1 b5 hb6
  go_wp2_with fail
  refine (eqPairS_same v2 v0 _ _ n f _ O2 s0 hn).mono ?_
  rintro e w7 ⟨rfl, hb7⟩
  have p1 := s1.below hb7
  have b7 := below_then b6 (Nat.le_refl _) hb7
  clear s0 s1 O2 b6 hb7
  go_wp2_with fail
  refine (heldPairS_any v1 C n _ p1 hn).mono ?_
  rintro e w8 ⟨rfl, hb8⟩
  have b8 := below_then b7 (Nat.le_refl _) hb8
  go_wp2
  go_ret
  exact ⟨rfl, b8⟩
end Go.Proofs.Ytmlmpekhcnjehaa
