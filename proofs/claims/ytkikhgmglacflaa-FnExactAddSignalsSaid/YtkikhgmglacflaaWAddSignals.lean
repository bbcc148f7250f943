/- The walk of the law FnExactAddSignals. -/
import Derived.Test.YtkikhgmglacflaaSig14
import Derived.Test.YtkikhgmglacflaaStrFrame
namespace Go.Proofs.Ytkikhgmglacflaa
open Go.RowKit
set_option linter.unusedVariables false
set_option maxHeartbeats 3200000 in
set_option maxRecDepth 100000 in
theorem fnExactAddSignals_walk (a0 : Option Addr) (len0 cap0 : Nat) (z0 : Nat → Int) (a1 : Option Addr) (len1 cap1 : Nat) (z1 : Nat → Int) (w : World) (h0 : IntsIn w a0 len0 cap0 z0) (h1 : IntsIn w a1 len1 cap1 z1) :
    Calls Try.prog 8 #[.slice a0 len0 cap0, .slice a1 len1 cap1] w fun e w' => e = .returned (.bool true) ∧ Below w.heap.size w w' := by
  obtain ⟨hl0, hz0⟩ := h0
  unfold maxLen at hl0
  obtain ⟨hl1, hz1⟩ := h1
  unfold maxLen at hl1
  by_cases hg0 : 1048576 < len0
  · skip
    clear hz0
    clear hz1
    go_enter Try.func8, Try.ntmps8
    go_wp2
    go_ret
    exact ⟨rfl, Below.refl _ _⟩
  · skip
    by_cases hg1 : 1048576 < len1
    · skip
      clear hz0
      clear hz1
      go_enter Try.func8, Try.ntmps8
      go_wp2
      go_ret
      exact ⟨rfl, Below.refl _ _⟩
    · skip
      have HS0 : Hid (IntsR w (.slice a0 len0 cap0) len0 z0) := Lib.hid ⟨a0, cap0, rfl, fun i hi => (hz0 i hi).2⟩
      have HS1 : Hid (IntsR w (.slice a1 len1 cap1) len1 z1) := Lib.hid ⟨a1, cap1, rfl, fun i hi => (hz1 i hi).2⟩
      have HT0 := Lib.hid (fun v w hS => toIntS_any v len0 z0 w hS (by omega))
      have HT1 := Lib.hid (fun v w hS => toIntS_any v len1 z1 w hS (by omega))
      have hp := (fun v0 v1 w r0 r1 => sAddSig_any v0 len0 z0 v1 len1 z1 w r0 (by omega) r1 (by omega))
      have hq := (fun v0 v1 w r0 r1 => iAddSig_any v0 len0 z0 v1 len1 z1 w r0 (by omega) r1 (by omega))
      have hn0 : len0 ≤ 1048576 := by omega
      have lg0 : ¬ ((1048576 : Int) < (len0 : Int)) := by omega
      have hn1 : len1 ≤ 1048576 := by omega
      have lg1 : ¬ ((1048576 : Int) < (len1 : Int)) := by omega
      clear hz0
      clear hz1
      have hn := adN_le6 len0 z0 len1 z1
      obtain ⟨n, hN⟩ : ∃ n, adN len0 z0 len1 z1 = n := ⟨_, rfl⟩
      obtain ⟨f, hF⟩ : ∃ f, agF len0 z0 len1 z1 = f := ⟨_, rfl⟩
      rw [hN] at hp hq hn
      rw [hF] at hp hq
      clear hN hF
      obtain ⟨ok, hO⟩ : ∃ ok, adOK len0 z0 len1 z1 = ok := ⟨_, rfl⟩
      rw [hO] at hp hq
      clear hO
      have HP := Lib.hid hp
      have HQ := Lib.hid hq
      clear hp hq
      have bc : Below w.heap.size w w := Below.refl _ _
      cases ok
      all_goals
        go_enter Try.func8, Try.ntmps8
        have bc0 : Hid (w.heap.size ≤ w.heap.size) := Lib.hid (Nat.le_refl _)
        go_wp2_with fail
        refine (HT0.out _ _ (HS0.out.below bc)).mono ?_
        rintro e w1 ⟨v3, rfl, O4, hb2⟩
        have b5 := below_then bc (Nat.le_refl _) hb2
        clear bc
        have bc := b5
        clear b5
        have hlv3 : Hid (∀ k, Value.ownBlock v3 = some k → w.heap.size ≤ k) := Lib.hid (fun k hk => (O4.lt k hk).1)
        have huv3 : Hid (∀ k, Value.ownBlock v3 = some k → k < w1.heap.size) := Lib.hid (fun k hk => (O4.lt k hk).2)
        have hcv3 : Hid (w.heap.size ≤ w.heap.size) := Lib.hid (by have h1 := bc.size; have h2 := hb2.size; have := bc0.out; omega)
        have hov3' : Hid (w.heap.size ≤ w1.heap.size) := Lib.hid hb2.size
        obtain ⟨Dv3, hD⟩ : ∃ D, w1.heap.size = D := ⟨_, rfl⟩
        have hz : Hid (Dv3 ≤ w1.heap.size) := Lib.hid (by omega)
        rw [hD] at huv3 hov3'
        clear hD
        obtain ⟨Cv3, hC⟩ : ∃ C, w.heap.size = C := ⟨_, rfl⟩
        rw [hC] at O4 hlv3 hcv3 hov3'
        clear hC
        have bc1 : Hid (w.heap.size ≤ _) := Lib.hid bc.size
        clear bc0
        have bc0 := bc1
        clear bc1
        clear hb2
        go_wp2_with fail
        refine (HT1.out _ _ (HS1.out.below bc)).mono ?_
        rintro e w6 ⟨v8, rfl, O9, hb7⟩
        have O10 := O4.below hb7
        clear O4
        have b11 := below_then bc (Nat.le_refl _) hb7
        clear bc
        have bc := b11
        clear b11
        have hy := Nat.le_trans hz.out hb7.size
        have hlv8 : Hid (∀ k, Value.ownBlock v8 = some k → w1.heap.size ≤ k) := Lib.hid (fun k hk => (O9.lt k hk).1)
        have huv8 : Hid (∀ k, Value.ownBlock v8 = some k → k < w6.heap.size) := Lib.hid (fun k hk => (O9.lt k hk).2)
        have hcv8 : Hid (w.heap.size ≤ w1.heap.size) := Lib.hid (by have h1 := bc.size; have h2 := hb7.size; have := bc0.out; omega)
        have hov8 : Hid (Dv3 ≤ w1.heap.size) := hz
        have hov8' : Hid (w1.heap.size ≤ w6.heap.size) := Lib.hid hb7.size
        clear hz hy
        obtain ⟨Dv8, hD⟩ : ∃ D, w6.heap.size = D := ⟨_, rfl⟩
        have hz : Hid (Dv8 ≤ w6.heap.size) := Lib.hid (by omega)
        rw [hD] at huv8 hov8'
        clear hD
        obtain ⟨Cv8, hC⟩ : ∃ C, w1.heap.size = C := ⟨_, rfl⟩
        rw [hC] at O9 hlv8 hcv8 hov8' hov8
        clear hC
        have bc1 : Hid (w.heap.size ≤ _) := Lib.hid bc.size
        clear bc0
        have bc0 := bc1
        clear bc1
        clear hb7
        go_wp2_with fail
        refine (HP.out _ _ _ O10.ints O9.ints).mono ?_
        rintro e w12 ⟨v14, rfl, O15, hb13⟩
        have O16 := O10.below hb13
        clear O10
        have O17 := O9.below hb13
        clear O9
        have b18 := below_then bc (Nat.le_refl _) hb13
        clear bc
        have bc := b18
        clear b18
        have hy := Nat.le_trans hz.out hb13.size
        have hlv14 : Hid (∀ k, Value.ownBlock v14 = some k → w6.heap.size ≤ k) := Lib.hid (fun k hk => (O15.lt k hk).1)
        have huv14 : Hid (∀ k, Value.ownBlock v14 = some k → k < w12.heap.size) := Lib.hid (fun k hk => (O15.lt k hk).2)
        have hcv14 : Hid (w.heap.size ≤ w6.heap.size) := Lib.hid (by have h1 := bc.size; have h2 := hb13.size; have := bc0.out; omega)
        have hov14 : Hid (Dv8 ≤ w6.heap.size) := hz
        have hov14' : Hid (w6.heap.size ≤ w12.heap.size) := Lib.hid hb13.size
        clear hz hy
        obtain ⟨Dv14, hD⟩ : ∃ D, w12.heap.size = D := ⟨_, rfl⟩
        have hz : Hid (Dv14 ≤ w12.heap.size) := Lib.hid (by omega)
        rw [hD] at huv14 hov14'
        clear hD
        obtain ⟨Cv14, hC⟩ : ∃ C, w6.heap.size = C := ⟨_, rfl⟩
        rw [hC] at O15 hlv14 hcv14 hov14' hov14
        clear hC
        have bc1 : Hid (w.heap.size ≤ _) := Lib.hid bc.size
        clear bc0
        have bc0 := bc1
        clear bc1
        clear hb13
        clear O16
        clear O17
        go_wp2_with fail
        refine (HT0.out _ _ (HS0.out.below bc)).mono ?_
        rintro e w19 ⟨v21, rfl, O22, hb20⟩
        have O23 := O15.below hb20
        clear O15
        have b24 := below_then bc (Nat.le_refl _) hb20
        clear bc
        have bc := b24
        clear b24
        have hy := Nat.le_trans hz.out hb20.size
        have hlv21 : Hid (∀ k, Value.ownBlock v21 = some k → w12.heap.size ≤ k) := Lib.hid (fun k hk => (O22.lt k hk).1)
        have huv21 : Hid (∀ k, Value.ownBlock v21 = some k → k < w19.heap.size) := Lib.hid (fun k hk => (O22.lt k hk).2)
        have hcv21 : Hid (w.heap.size ≤ w12.heap.size) := Lib.hid (by have h1 := bc.size; have h2 := hb20.size; have := bc0.out; omega)
        have hov21 : Hid (Dv14 ≤ w12.heap.size) := hz
        have hov21' : Hid (w12.heap.size ≤ w19.heap.size) := Lib.hid hb20.size
        clear hz hy
        obtain ⟨Dv21, hD⟩ : ∃ D, w19.heap.size = D := ⟨_, rfl⟩
        have hz : Hid (Dv21 ≤ w19.heap.size) := Lib.hid (by omega)
        rw [hD] at huv21 hov21'
        clear hD
        obtain ⟨Cv21, hC⟩ : ∃ C, w12.heap.size = C := ⟨_, rfl⟩
        rw [hC] at O22 hlv21 hcv21 hov21' hov21
        clear hC
        have bc1 : Hid (w.heap.size ≤ _) := Lib.hid bc.size
        clear bc0
        have bc0 := bc1
        clear bc1
        clear hb20
        go_wp2_with fail
        refine (HT1.out _ _ (HS1.out.below bc)).mono ?_
        rintro e w25 ⟨v27, rfl, O28, hb26⟩
        have O29 := O23.below hb26
        clear O23
        have O30 := O22.below hb26
        clear O22
        have b31 := below_then bc (Nat.le_refl _) hb26
        clear bc
        have bc := b31
        clear b31
        have hy := Nat.le_trans hz.out hb26.size
        have hlv27 : Hid (∀ k, Value.ownBlock v27 = some k → w19.heap.size ≤ k) := Lib.hid (fun k hk => (O28.lt k hk).1)
        have huv27 : Hid (∀ k, Value.ownBlock v27 = some k → k < w25.heap.size) := Lib.hid (fun k hk => (O28.lt k hk).2)
        have hcv27 : Hid (w.heap.size ≤ w19.heap.size) := Lib.hid (by have h1 := bc.size; have h2 := hb26.size; have := bc0.out; omega)
        have hov27 : Hid (Dv21 ≤ w19.heap.size) := hz
        have hov27' : Hid (w19.heap.size ≤ w25.heap.size) := Lib.hid hb26.size
        clear hz hy
        obtain ⟨Dv27, hD⟩ : ∃ D, w25.heap.size = D := ⟨_, rfl⟩
        have hz : Hid (Dv27 ≤ w25.heap.size) := Lib.hid (by omega)
        rw [hD] at huv27 hov27'
        clear hD
        obtain ⟨Cv27, hC⟩ : ∃ C, w19.heap.size = C := ⟨_, rfl⟩
        rw [hC] at O28 hlv27 hcv27 hov27' hov27
        clear hC
        have bc1 : Hid (w.heap.size ≤ _) := Lib.hid bc.size
        clear bc0
        have bc0 := bc1
        clear bc1
        clear hb26
        go_wp2_with fail
        refine (HQ.out _ _ _ O30.ints O28.ints).mono ?_
        rintro e w32 ⟨v34, rfl, O35, hb33⟩
        have O36 := O29.below hb33
        clear O29
        have O37 := O30.below hb33
        clear O30
        have O38 := O28.below hb33
        clear O28
        have b39 := below_then bc (Nat.le_refl _) hb33
        clear bc
        have bc := b39
        clear b39
        have hy := Nat.le_trans hz.out hb33.size
        have hlv34 : Hid (∀ k, Value.ownBlock v34 = some k → w25.heap.size ≤ k) := Lib.hid (fun k hk => (O35.lt k hk).1)
        have huv34 : Hid (∀ k, Value.ownBlock v34 = some k → k < w32.heap.size) := Lib.hid (fun k hk => (O35.lt k hk).2)
        have hcv34 : Hid (w.heap.size ≤ w25.heap.size) := Lib.hid (by have h1 := bc.size; have h2 := hb33.size; have := bc0.out; omega)
        have hov34 : Hid (Dv27 ≤ w25.heap.size) := hz
        have hov34' : Hid (w25.heap.size ≤ w32.heap.size) := Lib.hid hb33.size
        clear hz hy
        obtain ⟨Dv34, hD⟩ : ∃ D, w32.heap.size = D := ⟨_, rfl⟩
        have hz : Hid (Dv34 ≤ w32.heap.size) := Lib.hid (by omega)
        rw [hD] at huv34 hov34'
        clear hD
        obtain ⟨Cv34, hC⟩ : ∃ C, w25.heap.size = C := ⟨_, rfl⟩
        rw [hC] at O35 hlv34 hcv34 hov34' hov34
        clear hC
        have bc1 : Hid (w.heap.size ≤ _) := Lib.hid bc.size
        clear bc0
        have bc0 := bc1
        clear bc1
        clear hb33
        go_wp2_with fail
        refine (eqIntS_big v34 v14 _ _ n f _ O35 O36 (by omega)).mono ?_
        rintro e w' ⟨rfl, m40, rfl⟩
        have O42 := O36.drewN m40
        clear O36
        have O43 := O37.drewN m40
        clear O37
        have O44 := O38.drewN m40
        clear O38
        have O45 := O35.drewN m40
        clear O35
        have bd := below_drewN bc m40
        clear bc
        have bc := bd
        clear bd
        have hz' : Hid (Dv34 ≤ (w32.drewN m40).heap.size) := hz
        clear hz
        have hz := hz'
        clear hz'
        have bc1 : Hid (w.heap.size ≤ (w32.drewN m40).heap.size) := Lib.hid bc.size
        clear bc0
        have bc0 := bc1
        clear bc1
        obtain ⟨w41, hW⟩ : ∃ W, w32.drewN m40 = W := ⟨_, rfl⟩
        rw [hW] at O42 O43 O44 O45 bc bc0 hz ⊢
        clear hW
        go_wp2_with fail
        refine (HT0.out _ _ (HS0.out.below bc)).mono ?_
        rintro e w46 ⟨v48, rfl, O49, hb47⟩
        have O50 := O42.below hb47
        clear O42
        have O51 := O43.below hb47
        clear O43
        have O52 := O44.below hb47
        clear O44
        have O53 := O45.below hb47
        clear O45
        have b54 := below_then bc (Nat.le_refl _) hb47
        clear bc
        have bc := b54
        clear b54
        have hy := Nat.le_trans hz.out hb47.size
        have hlv48 : Hid (∀ k, Value.ownBlock v48 = some k → w41.heap.size ≤ k) := Lib.hid (fun k hk => (O49.lt k hk).1)
        have huv48 : Hid (∀ k, Value.ownBlock v48 = some k → k < w46.heap.size) := Lib.hid (fun k hk => (O49.lt k hk).2)
        have hcv48 : Hid (w.heap.size ≤ w41.heap.size) := Lib.hid (by have h1 := bc.size; have h2 := hb47.size; have := bc0.out; omega)
        have hov48 : Hid (Dv34 ≤ w41.heap.size) := hz
        have hov48' : Hid (w41.heap.size ≤ w46.heap.size) := Lib.hid hb47.size
        clear hz hy
        obtain ⟨Dv48, hD⟩ : ∃ D, w46.heap.size = D := ⟨_, rfl⟩
        have hz : Hid (Dv48 ≤ w46.heap.size) := Lib.hid (by omega)
        rw [hD] at huv48 hov48'
        clear hD
        obtain ⟨Cv48, hC⟩ : ∃ C, w41.heap.size = C := ⟨_, rfl⟩
        rw [hC] at O49 hlv48 hcv48 hov48' hov48
        clear hC
        have bc1 : Hid (w.heap.size ≤ _) := Lib.hid bc.size
        clear bc0
        have bc0 := bc1
        clear bc1
        clear hb47
        go_wp2_with fail
        refine (eqIntS_big v21 v48 _ _ len0 z0 _ O51 O49 (by omega)).mono ?_
        rintro e w' ⟨rfl, m55, rfl⟩
        have O57 := O50.drewN m55
        clear O50
        have O58 := O51.drewN m55
        clear O51
        have O59 := O52.drewN m55
        clear O52
        have O60 := O53.drewN m55
        clear O53
        have O61 := O49.drewN m55
        clear O49
        have bd := below_drewN bc m55
        clear bc
        have bc := bd
        clear bd
        have hz' : Hid (Dv48 ≤ (w46.drewN m55).heap.size) := hz
        clear hz
        have hz := hz'
        clear hz'
        have bc1 : Hid (w.heap.size ≤ (w46.drewN m55).heap.size) := Lib.hid bc.size
        clear bc0
        have bc0 := bc1
        clear bc1
        obtain ⟨w56, hW⟩ : ∃ W, w46.drewN m55 = W := ⟨_, rfl⟩
        rw [hW] at O57 O58 O59 O60 O61 bc bc0 hz ⊢
        clear hW
        clear O61
        go_wp2_with fail
        refine (HT1.out _ _ (HS1.out.below bc)).mono ?_
        rintro e w62 ⟨v64, rfl, O65, hb63⟩
        have O66 := O57.below hb63
        clear O57
        have O67 := O58.below hb63
        clear O58
        have O68 := O59.below hb63
        clear O59
        have O69 := O60.below hb63
        clear O60
        have b70 := below_then bc (Nat.le_refl _) hb63
        clear bc
        have bc := b70
        clear b70
        have hy := Nat.le_trans hz.out hb63.size
        have hlv64 : Hid (∀ k, Value.ownBlock v64 = some k → w56.heap.size ≤ k) := Lib.hid (fun k hk => (O65.lt k hk).1)
        have huv64 : Hid (∀ k, Value.ownBlock v64 = some k → k < w62.heap.size) := Lib.hid (fun k hk => (O65.lt k hk).2)
        have hcv64 : Hid (w.heap.size ≤ w56.heap.size) := Lib.hid (by have h1 := bc.size; have h2 := hb63.size; have := bc0.out; omega)
        have hov64 : Hid (Dv48 ≤ w56.heap.size) := hz
        have hov64' : Hid (w56.heap.size ≤ w62.heap.size) := Lib.hid hb63.size
        clear hz hy
        obtain ⟨Dv64, hD⟩ : ∃ D, w62.heap.size = D := ⟨_, rfl⟩
        have hz : Hid (Dv64 ≤ w62.heap.size) := Lib.hid (by omega)
        rw [hD] at huv64 hov64'
        clear hD
        obtain ⟨Cv64, hC⟩ : ∃ C, w56.heap.size = C := ⟨_, rfl⟩
        rw [hC] at O65 hlv64 hcv64 hov64' hov64
        clear hC
        have bc1 : Hid (w.heap.size ≤ _) := Lib.hid bc.size
        clear bc0
        have bc0 := bc1
        clear bc1
        clear hb63
        go_wp2_with fail
        refine (eqIntS_big v27 v64 _ _ len1 z1 _ O68 O65 (by omega)).mono ?_
        rintro e w' ⟨rfl, m71, rfl⟩
        have O73 := O66.drewN m71
        clear O66
        have O74 := O67.drewN m71
        clear O67
        have O75 := O68.drewN m71
        clear O68
        have O76 := O69.drewN m71
        clear O69
        have O77 := O65.drewN m71
        clear O65
        have bd := below_drewN bc m71
        clear bc
        have bc := bd
        clear bd
        have hz' : Hid (Dv64 ≤ (w62.drewN m71).heap.size) := hz
        clear hz
        have hz := hz'
        clear hz'
        have bc1 : Hid (w.heap.size ≤ (w62.drewN m71).heap.size) := Lib.hid bc.size
        clear bc0
        have bc0 := bc1
        clear bc1
        obtain ⟨w72, hW⟩ : ∃ W, w62.drewN m71 = W := ⟨_, rfl⟩
        rw [hW] at O73 O74 O75 O76 O77 bc bc0 hz ⊢
        clear hW
        clear O77
        go_wp2_with fail
        refine (markIntS_big v21 _ len0 z0 _ O74 (by omega)).mono ?_
        rintro e w78 ⟨rfl, O80, g79⟩
        have O81 := O73.kept g79 (apart_lo (C := Cv21) (fun k hk => by have y0 := hov3'.out; have y1 := hov8.out; have y2 := hov8'.out; have y3 := hov14.out; have y4 := hov14'.out; have y5 := hov21.out; have y6 := hov21'.out; have y7 := hov27.out; have y8 := hov27'.out; have y9 := hov34.out; have y10 := hov34'.out; have y11 := hov48.out; have y12 := hov48'.out; have y13 := hov64.out; have y14 := hov64'.out; have := huv14.out k hk; omega) hlv21.out)
        clear O73
        have O82 := O75.kept g79 (apart_hi (C := Dv21) (fun k hk => by have y0 := hov3'.out; have y1 := hov8.out; have y2 := hov8'.out; have y3 := hov14.out; have y4 := hov14'.out; have y5 := hov21.out; have y6 := hov21'.out; have y7 := hov27.out; have y8 := hov27'.out; have y9 := hov34.out; have y10 := hov34'.out; have y11 := hov48.out; have y12 := hov48'.out; have y13 := hov64.out; have y14 := hov64'.out; have := hlv27.out k hk; omega) huv21.out)
        clear O75
        have O83 := O76.kept g79 (apart_hi (C := Dv21) (fun k hk => by have y0 := hov3'.out; have y1 := hov8.out; have y2 := hov8'.out; have y3 := hov14.out; have y4 := hov14'.out; have y5 := hov21.out; have y6 := hov21'.out; have y7 := hov27.out; have y8 := hov27'.out; have y9 := hov34.out; have y10 := hov34'.out; have y11 := hov48.out; have y12 := hov48'.out; have y13 := hov64.out; have y14 := hov64'.out; have := hlv34.out k hk; omega) huv21.out)
        clear O76
        have bd : Below w.heap.size w w78 := bc.grown g79 bc0.out (fun k hk => by have := hlv21.out k hk; have := hcv21.out; omega)
        have hz' : Hid (Dv64 ≤ w78.heap.size) := Lib.hid (Nat.le_trans hz.out g79.size)
        clear hz
        have hz := hz'
        clear hz'
        have bc1 : Hid (w.heap.size ≤ w78.heap.size) := Lib.hid bd.size
        clear bc0
        have bc0 := bc1
        clear bc1
        clear O74 bc g79
        have bc := bd
        clear bd
        go_wp2_with fail
        refine (markIntS_gen v27 _ len1 (1 + len0) z1 _ O82 (by omega) (by omega)).mono ?_
        rintro e w84 ⟨rfl, O86, g85⟩
        have O87 := O81.kept g85 (apart_lo (C := Cv27) (fun k hk => by have y0 := hov3'.out; have y1 := hov8.out; have y2 := hov8'.out; have y3 := hov14.out; have y4 := hov14'.out; have y5 := hov21.out; have y6 := hov21'.out; have y7 := hov27.out; have y8 := hov27'.out; have y9 := hov34.out; have y10 := hov34'.out; have y11 := hov48.out; have y12 := hov48'.out; have y13 := hov64.out; have y14 := hov64'.out; have := huv14.out k hk; omega) hlv27.out)
        clear O81
        have O88 := O83.kept g85 (apart_hi (C := Dv27) (fun k hk => by have y0 := hov3'.out; have y1 := hov8.out; have y2 := hov8'.out; have y3 := hov14.out; have y4 := hov14'.out; have y5 := hov21.out; have y6 := hov21'.out; have y7 := hov27.out; have y8 := hov27'.out; have y9 := hov34.out; have y10 := hov34'.out; have y11 := hov48.out; have y12 := hov48'.out; have y13 := hov64.out; have y14 := hov64'.out; have := hlv34.out k hk; omega) huv27.out)
        clear O83
        have O89 := O80.kept g85 (apart_lo (C := Cv27) (fun k hk => by have y0 := hov3'.out; have y1 := hov8.out; have y2 := hov8'.out; have y3 := hov14.out; have y4 := hov14'.out; have y5 := hov21.out; have y6 := hov21'.out; have y7 := hov27.out; have y8 := hov27'.out; have y9 := hov34.out; have y10 := hov34'.out; have y11 := hov48.out; have y12 := hov48'.out; have y13 := hov64.out; have y14 := hov64'.out; have := huv21.out k hk; omega) hlv27.out)
        clear O80
        have bd : Below w.heap.size w w84 := bc.grown g85 bc0.out (fun k hk => by have := hlv27.out k hk; have := hcv27.out; omega)
        have hz' : Hid (Dv64 ≤ w84.heap.size) := Lib.hid (Nat.le_trans hz.out g85.size)
        clear hz
        have hz := hz'
        clear hz'
        have bc1 : Hid (w.heap.size ≤ w84.heap.size) := Lib.hid bd.size
        clear bc0
        have bc0 := bc1
        clear bc1
        clear O82 bc g85
        have bc := bd
        clear bd
        clear O89
        clear O86
        go_wp2_with fail
        refine (eqIntS_big v34 v14 _ _ n f _ O88 O87 (by omega)).mono ?_
        rintro e w' ⟨rfl, m90, rfl⟩
        have O92 := O87.drewN m90
        clear O87
        have O93 := O88.drewN m90
        clear O88
        have bd := below_drewN bc m90
        clear bc
        have bc := bd
        clear bd
        have hz' : Hid (Dv64 ≤ (w84.drewN m90).heap.size) := hz
        clear hz
        have hz := hz'
        clear hz'
        have bc1 : Hid (w.heap.size ≤ (w84.drewN m90).heap.size) := Lib.hid bc.size
        clear bc0
        have bc0 := bc1
        clear bc1
        obtain ⟨w91, hW⟩ : ∃ W, w84.drewN m90 = W := ⟨_, rfl⟩
        rw [hW] at O92 O93 bc bc0 hz ⊢
        clear hW
        go_wp2_with fail
        refine (markIntS_big v34 _ n f _ O93 (by omega)).mono ?_
        rintro e w94 ⟨rfl, O96, g95⟩
        have O97 := O92.kept g95 (apart_lo (C := Cv34) (fun k hk => by have y0 := hov3'.out; have y1 := hov8.out; have y2 := hov8'.out; have y3 := hov14.out; have y4 := hov14'.out; have y5 := hov21.out; have y6 := hov21'.out; have y7 := hov27.out; have y8 := hov27'.out; have y9 := hov34.out; have y10 := hov34'.out; have y11 := hov48.out; have y12 := hov48'.out; have y13 := hov64.out; have y14 := hov64'.out; have := huv14.out k hk; omega) hlv34.out)
        clear O92
        have bd : Below w.heap.size w w94 := bc.grown g95 bc0.out (fun k hk => by have := hlv34.out k hk; have := hcv34.out; omega)
        have hz' : Hid (Dv64 ≤ w94.heap.size) := Lib.hid (Nat.le_trans hz.out g95.size)
        clear hz
        have hz := hz'
        clear hz'
        have bc1 : Hid (w.heap.size ≤ w94.heap.size) := Lib.hid bd.size
        clear bc0
        have bc0 := bc1
        clear bc1
        clear O93 bc g95
        have bc := bd
        clear bd
        go_wp2_with fail
        refine (heldIntS_any v34 _ n _ O96 (by omega)).mono ?_
        rintro e w' ⟨rfl, rfl⟩
        go_wp2_with fail
        refine (HT0.out _ _ (HS0.out.below bc)).mono ?_
        rintro e w98 ⟨v100, rfl, O101, hb99⟩
        have O102 := O97.below hb99
        clear O97
        have O103 := O96.below hb99
        clear O96
        have b104 := below_then bc (Nat.le_refl _) hb99
        clear bc
        have bc := b104
        clear b104
        have hy := Nat.le_trans hz.out hb99.size
        have hlv100 : Hid (∀ k, Value.ownBlock v100 = some k → w94.heap.size ≤ k) := Lib.hid (fun k hk => (O101.lt k hk).1)
        have huv100 : Hid (∀ k, Value.ownBlock v100 = some k → k < w98.heap.size) := Lib.hid (fun k hk => (O101.lt k hk).2)
        have hcv100 : Hid (w.heap.size ≤ w94.heap.size) := Lib.hid (by have h1 := bc.size; have h2 := hb99.size; have := bc0.out; omega)
        have hov100 : Hid (Dv64 ≤ w94.heap.size) := hz
        have hov100' : Hid (w94.heap.size ≤ w98.heap.size) := Lib.hid hb99.size
        clear hz hy
        obtain ⟨Dv100, hD⟩ : ∃ D, w98.heap.size = D := ⟨_, rfl⟩
        have hz : Hid (Dv100 ≤ w98.heap.size) := Lib.hid (by omega)
        rw [hD] at huv100 hov100'
        clear hD
        obtain ⟨Cv100, hC⟩ : ∃ C, w94.heap.size = C := ⟨_, rfl⟩
        rw [hC] at O101 hlv100 hcv100 hov100' hov100
        clear hC
        have bc1 : Hid (w.heap.size ≤ _) := Lib.hid bc.size
        clear bc0
        have bc0 := bc1
        clear bc1
        clear hb99
        go_wp2_with fail
        refine (HT1.out _ _ (HS1.out.below bc)).mono ?_
        rintro e w105 ⟨v107, rfl, O108, hb106⟩
        have O109 := O102.below hb106
        clear O102
        have O110 := O103.below hb106
        clear O103
        have O111 := O101.below hb106
        clear O101
        have b112 := below_then bc (Nat.le_refl _) hb106
        clear bc
        have bc := b112
        clear b112
        have hy := Nat.le_trans hz.out hb106.size
        have hlv107 : Hid (∀ k, Value.ownBlock v107 = some k → w98.heap.size ≤ k) := Lib.hid (fun k hk => (O108.lt k hk).1)
        have huv107 : Hid (∀ k, Value.ownBlock v107 = some k → k < w105.heap.size) := Lib.hid (fun k hk => (O108.lt k hk).2)
        have hcv107 : Hid (w.heap.size ≤ w98.heap.size) := Lib.hid (by have h1 := bc.size; have h2 := hb106.size; have := bc0.out; omega)
        have hov107 : Hid (Dv100 ≤ w98.heap.size) := hz
        have hov107' : Hid (w98.heap.size ≤ w105.heap.size) := Lib.hid hb106.size
        clear hz hy
        obtain ⟨Dv107, hD⟩ : ∃ D, w105.heap.size = D := ⟨_, rfl⟩
        have hz : Hid (Dv107 ≤ w105.heap.size) := Lib.hid (by omega)
        rw [hD] at huv107 hov107'
        clear hD
        obtain ⟨Cv107, hC⟩ : ∃ C, w98.heap.size = C := ⟨_, rfl⟩
        rw [hC] at O108 hlv107 hcv107 hov107' hov107
        clear hC
        have bc1 : Hid (w.heap.size ≤ _) := Lib.hid bc.size
        clear bc0
        have bc0 := bc1
        clear bc1
        clear hb106
        go_wp2_with fail
        refine (HQ.out _ _ _ O111.ints O108.ints).mono ?_
        rintro e w113 ⟨v115, rfl, O116, hb114⟩
        have O117 := O109.below hb114
        clear O109
        have O118 := O110.below hb114
        clear O110
        have O119 := O111.below hb114
        clear O111
        have O120 := O108.below hb114
        clear O108
        have b121 := below_then bc (Nat.le_refl _) hb114
        clear bc
        have bc := b121
        clear b121
        have hy := Nat.le_trans hz.out hb114.size
        have hlv115 : Hid (∀ k, Value.ownBlock v115 = some k → w105.heap.size ≤ k) := Lib.hid (fun k hk => (O116.lt k hk).1)
        have huv115 : Hid (∀ k, Value.ownBlock v115 = some k → k < w113.heap.size) := Lib.hid (fun k hk => (O116.lt k hk).2)
        have hcv115 : Hid (w.heap.size ≤ w105.heap.size) := Lib.hid (by have h1 := bc.size; have h2 := hb114.size; have := bc0.out; omega)
        have hov115 : Hid (Dv107 ≤ w105.heap.size) := hz
        have hov115' : Hid (w105.heap.size ≤ w113.heap.size) := Lib.hid hb114.size
        clear hz hy
        obtain ⟨Dv115, hD⟩ : ∃ D, w113.heap.size = D := ⟨_, rfl⟩
        have hz : Hid (Dv115 ≤ w113.heap.size) := Lib.hid (by omega)
        rw [hD] at huv115 hov115'
        clear hD
        obtain ⟨Cv115, hC⟩ : ∃ C, w105.heap.size = C := ⟨_, rfl⟩
        rw [hC] at O116 hlv115 hcv115 hov115' hov115
        clear hC
        have bc1 : Hid (w.heap.size ≤ _) := Lib.hid bc.size
        clear bc0
        have bc0 := bc1
        clear bc1
        clear hb114
        clear O119
        clear O120
        go_wp2_with fail
        refine (eqIntS_big v115 v14 _ _ n f _ O116 O117 (by omega)).mono ?_
        rintro e w' ⟨rfl, m122, rfl⟩
        have O124 := O117.drewN m122
        clear O117
        have O125 := O118.drewN m122
        clear O118
        have O126 := O116.drewN m122
        clear O116
        have bd := below_drewN bc m122
        clear bc
        have bc := bd
        clear bd
        have hz' : Hid (Dv115 ≤ (w113.drewN m122).heap.size) := hz
        clear hz
        have hz := hz'
        clear hz'
        have bc1 : Hid (w.heap.size ≤ (w113.drewN m122).heap.size) := Lib.hid bc.size
        clear bc0
        have bc0 := bc1
        clear bc1
        obtain ⟨w123, hW⟩ : ∃ W, w113.drewN m122 = W := ⟨_, rfl⟩
        rw [hW] at O124 O125 O126 bc bc0 hz ⊢
        clear hW
        clear O126
        go_wp2_with fail
        refine (heldIntS_any v34 _ n _ O125 (by omega)).mono ?_
        rintro e w' ⟨rfl, rfl⟩
        go_wp2
        go_ret
        exact ⟨rfl, bc⟩
end Go.Proofs.Ytkikhgmglacflaa

