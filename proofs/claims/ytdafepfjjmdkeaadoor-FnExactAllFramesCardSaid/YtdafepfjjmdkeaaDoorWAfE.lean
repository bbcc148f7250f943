/- The walk of the law FnExactAllFrames. -/
import Derived.Test.YtdafepfjjmdkeaaDoorAllI
namespace Go.Proofs.YtdafepfjjmdkeaaDoor
open Go.RowKit
set_option linter.unusedVariables false
set_option maxRecDepth 100000 in
theorem fnExactAllFrames_walk (z0 : ByteArray) (w : World) (hz0 : z0.size ≤ maxLen) (hd : DoorAt w) :
    Calls Tryd.prog 4 #[.string z0] w fun e w' => e = .returned (.bool true) ∧ Below w.heap.size w w' := by
  unfold maxLen at hz0
  by_cases hlz0 : 1048576 < z0.size
  · go_enter Tryd.func4, Tryd.ntmps4
    go_wp2
    go_ret
    exact ⟨rfl, Below.refl _ _⟩
  obtain ⟨n, hN⟩ := allN_ex z0
  have hn : n ≤ 1000000 := by
    cases hb : bitsB z0 with
    | true => have := (hN.1 hb).1; have := (bits_of2 hb).2; omega
    | false => have := hN.2 hb; omega
  have hs := fun w => sAll_any z0 n w (by omega) hN
  have hi := fun w1 (b1 : Below w.heap.size w w1) => iAll_any z0 n w1 (by omega) hN (hd.below b1 hd.lt)
  obtain ⟨f, hF⟩ : ∃ f, alF z0 = f := ⟨_, rfl⟩
  rw [hF] at hs
  simp only [hF] at hi
  clear hN hF hd
  have HS := Lib.hid hs
  have HI := Lib.hid hi
  clear hs hi
  go_enter Tryd.func4, Tryd.ntmps4
  go_wp2_with fail
  refine (HS.out _).mono ?_
  rintro e w1 ⟨v0, rfl, O0, b1⟩
  go_wp2_with fail
  refine (HI.out _ b1).mono ?_
  rintro e w2 ⟨v1, rfl, O1, hb2⟩
  have q0 := O0.below hb2
  have b2 := below_then b1 (Nat.le_refl _) hb2
  have hd0 : ∀ k, v0.ownBlock = some k → k < w1.heap.size := fun k hk => (O0.lt k hk).2
  have hw1 := b1.size
  have hw2 := hb2.size
  obtain ⟨C, hC⟩ : ∃ C, w1.heap.size = C := ⟨_, rfl⟩
  rw [hC] at O1 hd0 hw1 hw2
  clear O0 hb2 b1 hC
  go_wp2_with fail
  refine (eqStringS_same v1 v0 n f _ O1.strs q0.strs (by omega)).mono ?_
  rintro e w3 ⟨rfl, m, rfl⟩
  have r0 := q0.drewN m
  have r1 := O1.drewN m
  have b3 := below_drewN b2 m
  have hw3 : C ≤ (w2.drewN m).heap.size := hw2
  obtain ⟨W, hW⟩ : ∃ W, w2.drewN m = W := ⟨_, rfl⟩
  rw [hW] at r0 r1 b3 hw3 ⊢
  clear hW q0 O1 b2 hw2
  go_wp2_with fail
  refine (markStringS_any v1 C n f _ r1 hn hw3).mono ?_
  rintro e w4 ⟨rfl, t1, hb4⟩
  have t0 := r0.underA hd0 hb4
  have b4 : Below w.heap.size w w4 := b3.trans (hb4.mono hw1)
  clear r0 r1 hb4 b3 hd0
  go_wp2_with fail
  refine (heldStringS_any v1 C n _ t1 hn).mono ?_
  rintro e w5 ⟨rfl, hb5⟩
  have u0 := t0.below hb5
  have u1 := t1.below hb5
  have b5 := below_then b4 (Nat.le_refl _) hb5
  clear t0 t1 b4 hb5
  go_wp2_with fail
  refine (HI.out _ b5).mono ?_
  rintro e w6 ⟨v2, rfl, O2, hb6⟩
  have s0 := u0.below hb6
  have s1 := u1.below hb6
  have b6 := below_then b5 (Nat.le_refl _) hb6
  clear u0 u1 b5 hb6
  go_wp2_with fail
  refine (eqStringS_same v2 v0 n f _ O2.strs s0.strs (by omega)).mono ?_
  rintro e w7 ⟨rfl, m2, rfl⟩
  have p1 := s1.drewN m2
  have b7 := below_drewN b6 m2
  obtain ⟨W2, hW2⟩ : ∃ W2, w6.drewN m2 = W2 := ⟨_, rfl⟩
  rw [hW2] at p1 b7 ⊢
  clear hW2 s0 s1 O2 b6
  go_wp2_with fail
  refine (heldStringS_any v1 C n _ p1 hn).mono ?_
  rintro e w8 ⟨rfl, hb8⟩
  have b8 := below_then b7 (Nat.le_refl _) hb8
  go_wp2
  go_ret
  exact ⟨rfl, b8⟩
end Go.Proofs.YtdafepfjjmdkeaaDoor
