/- The walk of the law FnExactRakeReceive. -/
import Derived.Test.YtlcnlhephhbhcaaRake2
import Derived.Test.YtlcnlhephhbhcaaStrFrame
namespace Go.Proofs.Ytlcnlhephhbhcaa
open Go.RowKit
set_option linter.unusedVariables false
set_option maxHeartbeats 3200000 in
set_option maxRecDepth 100000 in
theorem fnExactRakeReceive_walk (a0 : Option Addr) (len0 cap0 : Nat) (z0 : Nat → Int) (z1 : ByteArray) (a2 : Option Addr) (len2 cap2 : Nat) (z2 : Nat → Int) (k3 : Int) (w : World) (h0 : IntsIn w a0 len0 cap0 z0) (h1 : z1.size ≤ maxLen) (h2 : IntsIn w a2 len2 cap2 z2) (_ : (Lit.int .i64 k3).wf = true) :
    Calls Try.prog 5 #[.slice a0 len0 cap0, .string z1, .slice a2 len2 cap2, .int .i64 k3] w fun e w' => e = .returned (.bool true) ∧ Below w.heap.size w w' := by
  obtain ⟨hl0, hz0⟩ := h0
  unfold maxLen at hl0
  unfold maxLen at h1
  obtain ⟨hl2, hz2⟩ := h2
  unfold maxLen at hl2
  by_cases hg0 : 1048576 < len0
  · skip
    clear hz0
    clear hz2
    go_enter Try.func5, Try.ntmps5
    go_wp2
    go_ret
    exact ⟨rfl, Below.refl _ _⟩
  · skip
    by_cases hg1 : 1048576 < z1.size
    · skip
      clear hz0
      clear hz2
      go_enter Try.func5, Try.ntmps5
      go_wp2
      go_ret
      exact ⟨rfl, Below.refl _ _⟩
    · skip
      by_cases hg2 : 1048576 < len2
      · skip
        clear hz0
        clear hz2
        go_enter Try.func5, Try.ntmps5
        go_wp2
        go_ret
        exact ⟨rfl, Below.refl _ _⟩
      · skip
        have HS0 : Hid (IntsR w (.slice a0 len0 cap0) len0 z0) := Lib.hid ⟨a0, cap0, rfl, fun i hi => (hz0 i hi).2⟩
        have HS2 : Hid (IntsR w (.slice a2 len2 cap2) len2 z2) := Lib.hid ⟨a2, cap2, rfl, fun i hi => (hz2 i hi).2⟩
        have HT0 := Lib.hid (fun v w hS => toIntS_any v len0 z0 w hS (by omega))
        have HT2 := Lib.hid (fun v w hS => toIntS_any v len2 z2 w hS (by omega))
        have hp := (fun v0 v2 w r0 r2 => sRakeG v0 len0 z0 z1 v2 len2 z2 k3 w r0 (by omega) (by omega) r2 (by omega) )
        have hq := (fun v0 v2 w r0 r2 => iRakeG v0 len0 z0 z1 v2 len2 z2 k3 w r0 (by omega) (by omega) r2 (by omega) )
        have hn0 : len0 ≤ 1048576 := by omega
        have lg0 : ¬ ((1048576 : Int) < (len0 : Int)) := by omega
        have hn2 : len2 ≤ 1048576 := by omega
        have lg2 : ¬ ((1048576 : Int) < (len2 : Int)) := by omega
        clear hz0
        clear hz2
        obtain ⟨X0, hX0⟩ : ∃ X, (rkAns len0 z0 z1 len2 z2 k3).1 = X := ⟨_, rfl⟩
        rw [hX0] at hp hq
        clear hX0
        obtain ⟨X1, hX1⟩ : ∃ X, (rkAns len0 z0 z1 len2 z2 k3).2 = X := ⟨_, rfl⟩
        rw [hX1] at hp hq
        clear hX1
        have HP := Lib.hid hp
        have HQ := Lib.hid hq
        clear hp hq
        have bc : Below w.heap.size w w := Below.refl _ _
        cases X1
        all_goals
          go_enter Try.func5, Try.ntmps5
          have bc0 : Hid (w.heap.size ≤ w.heap.size) := Lib.hid (Nat.le_refl _)
          go_wp2_with fail
          refine (HT0.out _ _ (HS0.out.below bc)).mono ?_
          rintro e w1 ⟨v3, rfl, O4, hb2⟩
          have b5 := below_then bc (Nat.le_refl _) hb2
          clear bc
          have bc := b5
          clear b5
          have hlv3 : Hid (∀ k, Value.ownBlock v3 = some k → w.heap.size ≤ k) := Lib.hid (fun k hk => (O4.lt k hk).1)
          have huv3 : Hid (∀ k, Value.ownBlock v3 = some k → k < w1.heap.size) := Lib.hid (fun k hk => (O4.lt k hk).2)
          have hcv3 : Hid (w.heap.size ≤ w.heap.size) := Lib.hid (by have h1 := bc.size; have h2 := hb2.size; have := bc0.out; omega)
          have hov3' : Hid (w.heap.size ≤ w1.heap.size) := Lib.hid hb2.size
          obtain ⟨Dv3, hD⟩ : ∃ D, w1.heap.size = D := ⟨_, rfl⟩
          have hz : Hid (Dv3 ≤ w1.heap.size) := Lib.hid (by omega)
          rw [hD] at huv3 hov3'
          clear hD
          obtain ⟨Cv3, hC⟩ : ∃ C, w.heap.size = C := ⟨_, rfl⟩
          rw [hC] at O4 hlv3 hcv3 hov3'
          clear hC
          have bc1 : Hid (w.heap.size ≤ _) := Lib.hid bc.size
          clear bc0
          have bc0 := bc1
          clear bc1
          clear hb2
          go_wp2_with fail
          refine (HT2.out _ _ (HS2.out.below bc)).mono ?_
          rintro e w6 ⟨v8, rfl, O9, hb7⟩
          have O10 := O4.below hb7
          clear O4
          have b11 := below_then bc (Nat.le_refl _) hb7
          clear bc
          have bc := b11
          clear b11
          have hy := Nat.le_trans hz.out hb7.size
          have hlv8 : Hid (∀ k, Value.ownBlock v8 = some k → w1.heap.size ≤ k) := Lib.hid (fun k hk => (O9.lt k hk).1)
          have huv8 : Hid (∀ k, Value.ownBlock v8 = some k → k < w6.heap.size) := Lib.hid (fun k hk => (O9.lt k hk).2)
          have hcv8 : Hid (w.heap.size ≤ w1.heap.size) := Lib.hid (by have h1 := bc.size; have h2 := hb7.size; have := bc0.out; omega)
          have hov8 : Hid (Dv3 ≤ w1.heap.size) := hz
          have hov8' : Hid (w1.heap.size ≤ w6.heap.size) := Lib.hid hb7.size
          clear hz hy
          obtain ⟨Dv8, hD⟩ : ∃ D, w6.heap.size = D := ⟨_, rfl⟩
          have hz : Hid (Dv8 ≤ w6.heap.size) := Lib.hid (by omega)
          rw [hD] at huv8 hov8'
          clear hD
          obtain ⟨Cv8, hC⟩ : ∃ C, w1.heap.size = C := ⟨_, rfl⟩
          rw [hC] at O9 hlv8 hcv8 hov8' hov8
          clear hC
          have bc1 : Hid (w.heap.size ≤ _) := Lib.hid bc.size
          clear bc0
          have bc0 := bc1
          clear bc1
          clear hb7
          go_wp2_with fail
          refine (HP.out _ _ _ O10.ints O9.ints).mono ?_
          rintro e w12 ⟨rfl, hb13⟩
          have O14 := O10.below hb13
          clear O10
          have O15 := O9.below hb13
          clear O9
          have b16 := below_then bc (Nat.le_refl _) hb13
          clear bc
          have bc := b16
          clear b16
          have hy := Nat.le_trans hz.out hb13.size
          have hz' := Lib.hid hy
          clear hz hy
          have hz := hz'
          clear hz'
          have bc1 : Hid (w.heap.size ≤ _) := Lib.hid bc.size
          clear bc0
          have bc0 := bc1
          clear bc1
          clear hb13
          clear O14
          clear O15
          go_wp2_with fail
          refine (HT0.out _ _ (HS0.out.below bc)).mono ?_
          rintro e w17 ⟨v19, rfl, O20, hb18⟩
          have b21 := below_then bc (Nat.le_refl _) hb18
          clear bc
          have bc := b21
          clear b21
          have hy := Nat.le_trans hz.out hb18.size
          have hlv19 : Hid (∀ k, Value.ownBlock v19 = some k → w12.heap.size ≤ k) := Lib.hid (fun k hk => (O20.lt k hk).1)
          have huv19 : Hid (∀ k, Value.ownBlock v19 = some k → k < w17.heap.size) := Lib.hid (fun k hk => (O20.lt k hk).2)
          have hcv19 : Hid (w.heap.size ≤ w12.heap.size) := Lib.hid (by have h1 := bc.size; have h2 := hb18.size; have := bc0.out; omega)
          have hov19 : Hid (Dv8 ≤ w12.heap.size) := hz
          have hov19' : Hid (w12.heap.size ≤ w17.heap.size) := Lib.hid hb18.size
          clear hz hy
          obtain ⟨Dv19, hD⟩ : ∃ D, w17.heap.size = D := ⟨_, rfl⟩
          have hz : Hid (Dv19 ≤ w17.heap.size) := Lib.hid (by omega)
          rw [hD] at huv19 hov19'
          clear hD
          obtain ⟨Cv19, hC⟩ : ∃ C, w12.heap.size = C := ⟨_, rfl⟩
          rw [hC] at O20 hlv19 hcv19 hov19' hov19
          clear hC
          have bc1 : Hid (w.heap.size ≤ _) := Lib.hid bc.size
          clear bc0
          have bc0 := bc1
          clear bc1
          clear hb18
          go_wp2_with fail
          refine (HT2.out _ _ (HS2.out.below bc)).mono ?_
          rintro e w22 ⟨v24, rfl, O25, hb23⟩
          have O26 := O20.below hb23
          clear O20
          have b27 := below_then bc (Nat.le_refl _) hb23
          clear bc
          have bc := b27
          clear b27
          have hy := Nat.le_trans hz.out hb23.size
          have hlv24 : Hid (∀ k, Value.ownBlock v24 = some k → w17.heap.size ≤ k) := Lib.hid (fun k hk => (O25.lt k hk).1)
          have huv24 : Hid (∀ k, Value.ownBlock v24 = some k → k < w22.heap.size) := Lib.hid (fun k hk => (O25.lt k hk).2)
          have hcv24 : Hid (w.heap.size ≤ w17.heap.size) := Lib.hid (by have h1 := bc.size; have h2 := hb23.size; have := bc0.out; omega)
          have hov24 : Hid (Dv19 ≤ w17.heap.size) := hz
          have hov24' : Hid (w17.heap.size ≤ w22.heap.size) := Lib.hid hb23.size
          clear hz hy
          obtain ⟨Dv24, hD⟩ : ∃ D, w22.heap.size = D := ⟨_, rfl⟩
          have hz : Hid (Dv24 ≤ w22.heap.size) := Lib.hid (by omega)
          rw [hD] at huv24 hov24'
          clear hD
          obtain ⟨Cv24, hC⟩ : ∃ C, w17.heap.size = C := ⟨_, rfl⟩
          rw [hC] at O25 hlv24 hcv24 hov24' hov24
          clear hC
          have bc1 : Hid (w.heap.size ≤ _) := Lib.hid bc.size
          clear bc0
          have bc0 := bc1
          clear bc1
          clear hb23
          go_wp2_with fail
          refine (HQ.out _ _ _ O26.intsC O25.intsC).mono ?_
          rintro e w28 ⟨rfl, hb29⟩
          have O30 := O26.below hb29
          clear O26
          have O31 := O25.below hb29
          clear O25
          have b32 := below_then bc (Nat.le_refl _) hb29
          clear bc
          have bc := b32
          clear b32
          have hy := Nat.le_trans hz.out hb29.size
          have hz' := Lib.hid hy
          clear hz hy
          have hz := hz'
          clear hz'
          have bc1 : Hid (w.heap.size ≤ _) := Lib.hid bc.size
          clear bc0
          have bc0 := bc1
          clear bc1
          clear hb29
          go_wp2_with fail
          refine (HT0.out _ _ (HS0.out.below bc)).mono ?_
          rintro e w33 ⟨v35, rfl, O36, hb34⟩
          have O37 := O30.below hb34
          clear O30
          have O38 := O31.below hb34
          clear O31
          have b39 := below_then bc (Nat.le_refl _) hb34
          clear bc
          have bc := b39
          clear b39
          have hy := Nat.le_trans hz.out hb34.size
          have hlv35 : Hid (∀ k, Value.ownBlock v35 = some k → w28.heap.size ≤ k) := Lib.hid (fun k hk => (O36.lt k hk).1)
          have huv35 : Hid (∀ k, Value.ownBlock v35 = some k → k < w33.heap.size) := Lib.hid (fun k hk => (O36.lt k hk).2)
          have hcv35 : Hid (w.heap.size ≤ w28.heap.size) := Lib.hid (by have h1 := bc.size; have h2 := hb34.size; have := bc0.out; omega)
          have hov35 : Hid (Dv24 ≤ w28.heap.size) := hz
          have hov35' : Hid (w28.heap.size ≤ w33.heap.size) := Lib.hid hb34.size
          clear hz hy
          obtain ⟨Dv35, hD⟩ : ∃ D, w33.heap.size = D := ⟨_, rfl⟩
          have hz : Hid (Dv35 ≤ w33.heap.size) := Lib.hid (by omega)
          rw [hD] at huv35 hov35'
          clear hD
          obtain ⟨Cv35, hC⟩ : ∃ C, w28.heap.size = C := ⟨_, rfl⟩
          rw [hC] at O36 hlv35 hcv35 hov35' hov35
          clear hC
          have bc1 : Hid (w.heap.size ≤ _) := Lib.hid bc.size
          clear bc0
          have bc0 := bc1
          clear bc1
          clear hb34
          go_wp2_with fail
          refine (eqIntS_big v19 v35 _ _ len0 z0 _ O37 O36 (by omega)).mono ?_
          rintro e w' ⟨rfl, m40, rfl⟩
          have O42 := O37.drewN m40
          clear O37
          have O43 := O38.drewN m40
          clear O38
          have O44 := O36.drewN m40
          clear O36
          have bd := below_drewN bc m40
          clear bc
          have bc := bd
          clear bd
          have hz' : Hid (Dv35 ≤ (w33.drewN m40).heap.size) := hz
          clear hz
          have hz := hz'
          clear hz'
          have bc1 : Hid (w.heap.size ≤ (w33.drewN m40).heap.size) := Lib.hid bc.size
          clear bc0
          have bc0 := bc1
          clear bc1
          obtain ⟨w41, hW⟩ : ∃ W, w33.drewN m40 = W := ⟨_, rfl⟩
          rw [hW] at O42 O43 O44 bc bc0 hz ⊢
          clear hW
          clear O44
          go_wp2_with fail
          refine (HT2.out _ _ (HS2.out.below bc)).mono ?_
          rintro e w45 ⟨v47, rfl, O48, hb46⟩
          have O49 := O42.below hb46
          clear O42
          have O50 := O43.below hb46
          clear O43
          have b51 := below_then bc (Nat.le_refl _) hb46
          clear bc
          have bc := b51
          clear b51
          have hy := Nat.le_trans hz.out hb46.size
          have hlv47 : Hid (∀ k, Value.ownBlock v47 = some k → w41.heap.size ≤ k) := Lib.hid (fun k hk => (O48.lt k hk).1)
          have huv47 : Hid (∀ k, Value.ownBlock v47 = some k → k < w45.heap.size) := Lib.hid (fun k hk => (O48.lt k hk).2)
          have hcv47 : Hid (w.heap.size ≤ w41.heap.size) := Lib.hid (by have h1 := bc.size; have h2 := hb46.size; have := bc0.out; omega)
          have hov47 : Hid (Dv35 ≤ w41.heap.size) := hz
          have hov47' : Hid (w41.heap.size ≤ w45.heap.size) := Lib.hid hb46.size
          clear hz hy
          obtain ⟨Dv47, hD⟩ : ∃ D, w45.heap.size = D := ⟨_, rfl⟩
          have hz : Hid (Dv47 ≤ w45.heap.size) := Lib.hid (by omega)
          rw [hD] at huv47 hov47'
          clear hD
          obtain ⟨Cv47, hC⟩ : ∃ C, w41.heap.size = C := ⟨_, rfl⟩
          rw [hC] at O48 hlv47 hcv47 hov47' hov47
          clear hC
          have bc1 : Hid (w.heap.size ≤ _) := Lib.hid bc.size
          clear bc0
          have bc0 := bc1
          clear bc1
          clear hb46
          go_wp2_with fail
          refine (eqIntS_big v24 v47 _ _ len2 z2 _ O50 O48 (by omega)).mono ?_
          rintro e w' ⟨rfl, m52, rfl⟩
          have O54 := O49.drewN m52
          clear O49
          have O55 := O50.drewN m52
          clear O50
          have O56 := O48.drewN m52
          clear O48
          have bd := below_drewN bc m52
          clear bc
          have bc := bd
          clear bd
          have hz' : Hid (Dv47 ≤ (w45.drewN m52).heap.size) := hz
          clear hz
          have hz := hz'
          clear hz'
          have bc1 : Hid (w.heap.size ≤ (w45.drewN m52).heap.size) := Lib.hid bc.size
          clear bc0
          have bc0 := bc1
          clear bc1
          obtain ⟨w53, hW⟩ : ∃ W, w45.drewN m52 = W := ⟨_, rfl⟩
          rw [hW] at O54 O55 O56 bc bc0 hz ⊢
          clear hW
          clear O56
          go_wp2
          go_ret
          exact ⟨rfl, bc⟩
end Go.Proofs.Ytlcnlhephhbhcaa

