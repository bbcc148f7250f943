/- The walk of the law FnExactSpreadBits. -/
import Derived.Test.YtkikhgmglacflaaSig11
namespace Go.Proofs.Ytkikhgmglacflaa
open Go.RowKit
set_option linter.unusedVariables false
set_option maxHeartbeats 3200000 in
set_option maxRecDepth 100000 in
theorem fnExactSpreadBits_walk (z0 : ByteArray) (z1 : ByteArray) (w : World) (h0 : z0.size ≤ maxLen) (h1 : z1.size ≤ maxLen) :
    Calls Try.prog 6 #[.string z0, .string z1] w fun e w' => e = .returned (.bool true) ∧ Below w.heap.size w w' := by
  unfold maxLen at h0
  unfold maxLen at h1
  by_cases hg0 : 1048576 < z0.size
  · skip
    go_enter Try.func6, Try.ntmps6
    go_wp2
    go_ret
    exact ⟨rfl, Below.refl _ _⟩
  · skip
    by_cases hg1 : 1048576 < z1.size
    · skip
      go_enter Try.func6, Try.ntmps6
      go_wp2
      go_ret
      exact ⟨rfl, Below.refl _ _⟩
    · skip
      have hp := (fun  w  => sSpread_any z0 z1 w (by omega) (by omega))
      have hq := (fun  w  => iSpread_any z0 z1 w (by omega) (by omega))
      have hn := spN_le6 z0 z1
      obtain ⟨n, hN⟩ : ∃ n, spN z0 z1 = n := ⟨_, rfl⟩
      obtain ⟨f, hF⟩ : ∃ f, spF z0 z1 z1.size = f := ⟨_, rfl⟩
      rw [hN] at hp hq hn
      rw [hF] at hp hq
      clear hN hF
      obtain ⟨ok, hO⟩ : ∃ ok, spOK z0 z1 = ok := ⟨_, rfl⟩
      rw [hO] at hp hq
      clear hO
      have HP := Lib.hid hp
      have HQ := Lib.hid hq
      clear hp hq
      have bc : Below w.heap.size w w := Below.refl _ _
      cases ok
      all_goals
        go_enter Try.func6, Try.ntmps6
        have bc0 : Hid (w.heap.size ≤ w.heap.size) := Lib.hid (Nat.le_refl _)
        go_wp2_with fail
        refine (HP.out  _ ).mono ?_
        rintro e w1 ⟨v3, rfl, O4, hb2⟩
        have b5 := below_then bc (Nat.le_refl _) hb2
        clear bc
        have bc := b5
        clear b5
        have hlv3 : Hid (∀ k, Value.ownBlock v3 = some k → w.heap.size ≤ k) := Lib.hid (fun k hk => (O4.lt k hk).1)
        have huv3 : Hid (∀ k, Value.ownBlock v3 = some k → k < w1.heap.size) := Lib.hid (fun k hk => (O4.lt k hk).2)
        have hcv3 : Hid (w.heap.size ≤ w.heap.size) := Lib.hid (by have h1 := bc.size; have h2 := hb2.size; have := bc0.out; omega)
        have hov3' : Hid (w.heap.size ≤ w1.heap.size) := Lib.hid hb2.size
        obtain ⟨Dv3, hD⟩ : ∃ D, w1.heap.size = D := ⟨_, rfl⟩
        have hz : Hid (Dv3 ≤ w1.heap.size) := Lib.hid (by omega)
        rw [hD] at huv3 hov3'
        clear hD
        obtain ⟨Cv3, hC⟩ : ∃ C, w.heap.size = C := ⟨_, rfl⟩
        rw [hC] at O4 hlv3 hcv3 hov3'
        clear hC
        have bc1 : Hid (w.heap.size ≤ _) := Lib.hid bc.size
        clear bc0
        have bc0 := bc1
        clear bc1
        clear hb2
        go_wp2_with fail
        refine (HQ.out  _ ).mono ?_
        rintro e w6 ⟨v8, rfl, O9, hb7⟩
        have O10 := O4.below hb7
        clear O4
        have b11 := below_then bc (Nat.le_refl _) hb7
        clear bc
        have bc := b11
        clear b11
        have hy := Nat.le_trans hz.out hb7.size
        have hlv8 : Hid (∀ k, Value.ownBlock v8 = some k → w1.heap.size ≤ k) := Lib.hid (fun k hk => (O9.lt k hk).1)
        have huv8 : Hid (∀ k, Value.ownBlock v8 = some k → k < w6.heap.size) := Lib.hid (fun k hk => (O9.lt k hk).2)
        have hcv8 : Hid (w.heap.size ≤ w1.heap.size) := Lib.hid (by have h1 := bc.size; have h2 := hb7.size; have := bc0.out; omega)
        have hov8 : Hid (Dv3 ≤ w1.heap.size) := hz
        have hov8' : Hid (w1.heap.size ≤ w6.heap.size) := Lib.hid hb7.size
        clear hz hy
        obtain ⟨Dv8, hD⟩ : ∃ D, w6.heap.size = D := ⟨_, rfl⟩
        have hz : Hid (Dv8 ≤ w6.heap.size) := Lib.hid (by omega)
        rw [hD] at huv8 hov8'
        clear hD
        obtain ⟨Cv8, hC⟩ : ∃ C, w1.heap.size = C := ⟨_, rfl⟩
        rw [hC] at O9 hlv8 hcv8 hov8' hov8
        clear hC
        have bc1 : Hid (w.heap.size ≤ _) := Lib.hid bc.size
        clear bc0
        have bc0 := bc1
        clear bc1
        clear hb7
        go_wp2_with fail
        refine (eqIntS_big v8 v3 _ _ n f _ O9 O10 (by omega)).mono ?_
        rintro e w' ⟨rfl, m12, rfl⟩
        have O14 := O10.drewN m12
        clear O10
        have O15 := O9.drewN m12
        clear O9
        have bd := below_drewN bc m12
        clear bc
        have bc := bd
        clear bd
        have hz' : Hid (Dv8 ≤ (w6.drewN m12).heap.size) := hz
        clear hz
        have hz := hz'
        clear hz'
        have bc1 : Hid (w.heap.size ≤ (w6.drewN m12).heap.size) := Lib.hid bc.size
        clear bc0
        have bc0 := bc1
        clear bc1
        obtain ⟨w13, hW⟩ : ∃ W, w6.drewN m12 = W := ⟨_, rfl⟩
        rw [hW] at O14 O15 bc bc0 hz ⊢
        clear hW
        go_wp2_with fail
        refine (markIntS_big v8 _ n f _ O15 (by omega)).mono ?_
        rintro e w16 ⟨rfl, O18, g17⟩
        have O19 := O14.kept g17 (apart_lo (C := Cv8) (fun k hk => by have y0 := hov3'.out; have y1 := hov8.out; have y2 := hov8'.out; have := huv3.out k hk; omega) hlv8.out)
        clear O14
        have bd : Below w.heap.size w w16 := bc.grown g17 bc0.out (fun k hk => by have := hlv8.out k hk; have := hcv8.out; omega)
        have hz' : Hid (Dv8 ≤ w16.heap.size) := Lib.hid (Nat.le_trans hz.out g17.size)
        clear hz
        have hz := hz'
        clear hz'
        have bc1 : Hid (w.heap.size ≤ w16.heap.size) := Lib.hid bd.size
        clear bc0
        have bc0 := bc1
        clear bc1
        clear O15 bc g17
        have bc := bd
        clear bd
        go_wp2_with fail
        refine (heldIntS_any v8 _ n _ O18 (by omega)).mono ?_
        rintro e w' ⟨rfl, rfl⟩
        go_wp2_with fail
        refine (HQ.out  _ ).mono ?_
        rintro e w20 ⟨v22, rfl, O23, hb21⟩
        have O24 := O19.below hb21
        clear O19
        have O25 := O18.below hb21
        clear O18
        have b26 := below_then bc (Nat.le_refl _) hb21
        clear bc
        have bc := b26
        clear b26
        have hy := Nat.le_trans hz.out hb21.size
        have hlv22 : Hid (∀ k, Value.ownBlock v22 = some k → w16.heap.size ≤ k) := Lib.hid (fun k hk => (O23.lt k hk).1)
        have huv22 : Hid (∀ k, Value.ownBlock v22 = some k → k < w20.heap.size) := Lib.hid (fun k hk => (O23.lt k hk).2)
        have hcv22 : Hid (w.heap.size ≤ w16.heap.size) := Lib.hid (by have h1 := bc.size; have h2 := hb21.size; have := bc0.out; omega)
        have hov22 : Hid (Dv8 ≤ w16.heap.size) := hz
        have hov22' : Hid (w16.heap.size ≤ w20.heap.size) := Lib.hid hb21.size
        clear hz hy
        obtain ⟨Dv22, hD⟩ : ∃ D, w20.heap.size = D := ⟨_, rfl⟩
        have hz : Hid (Dv22 ≤ w20.heap.size) := Lib.hid (by omega)
        rw [hD] at huv22 hov22'
        clear hD
        obtain ⟨Cv22, hC⟩ : ∃ C, w16.heap.size = C := ⟨_, rfl⟩
        rw [hC] at O23 hlv22 hcv22 hov22' hov22
        clear hC
        have bc1 : Hid (w.heap.size ≤ _) := Lib.hid bc.size
        clear bc0
        have bc0 := bc1
        clear bc1
        clear hb21
        go_wp2_with fail
        refine (eqIntS_big v22 v3 _ _ n f _ O23 O24 (by omega)).mono ?_
        rintro e w' ⟨rfl, m27, rfl⟩
        have O29 := O24.drewN m27
        clear O24
        have O30 := O25.drewN m27
        clear O25
        have O31 := O23.drewN m27
        clear O23
        have bd := below_drewN bc m27
        clear bc
        have bc := bd
        clear bd
        have hz' : Hid (Dv22 ≤ (w20.drewN m27).heap.size) := hz
        clear hz
        have hz := hz'
        clear hz'
        have bc1 : Hid (w.heap.size ≤ (w20.drewN m27).heap.size) := Lib.hid bc.size
        clear bc0
        have bc0 := bc1
        clear bc1
        obtain ⟨w28, hW⟩ : ∃ W, w20.drewN m27 = W := ⟨_, rfl⟩
        rw [hW] at O29 O30 O31 bc bc0 hz ⊢
        clear hW
        clear O31
        go_wp2_with fail
        refine (heldIntS_any v8 _ n _ O30 (by omega)).mono ?_
        rintro e w' ⟨rfl, rfl⟩
        go_wp2
        go_ret
        exact ⟨rfl, bc⟩
end Go.Proofs.Ytkikhgmglacflaa

