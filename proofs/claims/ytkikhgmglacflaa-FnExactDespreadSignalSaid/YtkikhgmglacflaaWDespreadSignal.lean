/- The walk of the law FnExactDespreadSignal. -/
import Derived.Test.YtkikhgmglacflaaSig9
import Derived.Test.YtkikhgmglacflaaStrFrame
namespace Go.Proofs.Ytkikhgmglacflaa
open Go.RowKit
set_option linter.unusedVariables false
set_option maxHeartbeats 3200000 in
set_option maxRecDepth 100000 in
theorem fnExactDespreadSignal_walk (a0 : Option Addr) (len0 cap0 : Nat) (z0 : Nat → Int) (z1 : ByteArray) (k2 : Int) (w : World) (h0 : IntsIn w a0 len0 cap0 z0) (h1 : z1.size ≤ maxLen) (_ : (Lit.int .i64 k2).wf = true) :
    Calls Try.prog 7 #[.slice a0 len0 cap0, .string z1, .int .i64 k2] w fun e w' => e = .returned (.bool true) ∧ Below w.heap.size w w' := by
  obtain ⟨hl0, hz0⟩ := h0
  unfold maxLen at hl0
  unfold maxLen at h1
  by_cases hg0 : 1048576 < len0
  · skip
    clear hz0
    go_enter Try.func7, Try.ntmps7
    go_wp2
    go_ret
    exact ⟨rfl, Below.refl _ _⟩
  · skip
    by_cases hg1 : 1048576 < z1.size
    · skip
      clear hz0
      go_enter Try.func7, Try.ntmps7
      go_wp2
      go_ret
      exact ⟨rfl, Below.refl _ _⟩
    · skip
      have HS0 : Hid (IntsR w (.slice a0 len0 cap0) len0 z0) := Lib.hid ⟨a0, cap0, rfl, fun i hi => (hz0 i hi).2⟩
      have HT0 := Lib.hid (fun v w hS => toIntS_any v len0 z0 w hS (by omega))
      have hp := (fun v0 w r0 => sDesp_any v0 len0 z0 z1 k2 w r0 (by omega) (by omega) )
      have hq := (fun v0 w r0 => iDesp_any v0 len0 z0 z1 k2 w r0 (by omega) (by omega) )
      have hn0 : len0 ≤ 1048576 := by omega
      have lg0 : ¬ ((1048576 : Int) < (len0 : Int)) := by omega
      clear hz0
      have hn := dsN_le6 len0 z0 z1 k2
      obtain ⟨n, hN⟩ : ∃ n, dsN len0 z0 z1 k2 = n := ⟨_, rfl⟩
      obtain ⟨f, hF⟩ : ∃ f, coL len0 z0 z1 0 = f := ⟨_, rfl⟩
      rw [hN] at hp hq hn
      rw [hF] at hp hq
      clear hN hF
      obtain ⟨ok, hO⟩ : ∃ ok, rcB len0 z0 z1 0 k2 = ok := ⟨_, rfl⟩
      rw [hO] at hp hq
      clear hO
      have HP := Lib.hid hp
      have HQ := Lib.hid hq
      clear hp hq
      have bc : Below w.heap.size w w := Below.refl _ _
      cases ok
      all_goals
        go_enter Try.func7, Try.ntmps7
        have bc0 : Hid (w.heap.size ≤ w.heap.size) := Lib.hid (Nat.le_refl _)
        go_wp2_with fail
        refine (HT0.out _ _ (HS0.out.below bc)).mono ?_
        rintro e w1 ⟨v3, rfl, O4, hb2⟩
        have b5 := below_then bc (Nat.le_refl _) hb2
        clear bc
        have bc := b5
        clear b5
        have hlv3 : Hid (∀ k, Value.ownBlock v3 = some k → w.heap.size ≤ k) := Lib.hid (fun k hk => (O4.lt k hk).1)
        have huv3 : Hid (∀ k, Value.ownBlock v3 = some k → k < w1.heap.size) := Lib.hid (fun k hk => (O4.lt k hk).2)
        have hcv3 : Hid (w.heap.size ≤ w.heap.size) := Lib.hid (by have h1 := bc.size; have h2 := hb2.size; have := bc0.out; omega)
        have hov3' : Hid (w.heap.size ≤ w1.heap.size) := Lib.hid hb2.size
        obtain ⟨Dv3, hD⟩ : ∃ D, w1.heap.size = D := ⟨_, rfl⟩
        have hz : Hid (Dv3 ≤ w1.heap.size) := Lib.hid (by omega)
        rw [hD] at huv3 hov3'
        clear hD
        obtain ⟨Cv3, hC⟩ : ∃ C, w.heap.size = C := ⟨_, rfl⟩
        rw [hC] at O4 hlv3 hcv3 hov3'
        clear hC
        have bc1 : Hid (w.heap.size ≤ _) := Lib.hid bc.size
        clear bc0
        have bc0 := bc1
        clear bc1
        clear hb2
        go_wp2_with fail
        refine (HP.out _ _ O4.ints).mono ?_
        rintro e w6 ⟨v8, rfl, O9, hb7⟩
        have O10 := O4.below hb7
        clear O4
        have b11 := below_then bc (Nat.le_refl _) hb7
        clear bc
        have bc := b11
        clear b11
        have hy := Nat.le_trans hz.out hb7.size
        have hlv8 : Hid (∀ k, Value.ownBlock v8 = some k → w1.heap.size ≤ k) := Lib.hid (fun k hk => (O9.lt k hk).1)
        have huv8 : Hid (∀ k, Value.ownBlock v8 = some k → k < w6.heap.size) := Lib.hid (fun k hk => (O9.lt k hk).2)
        have hcv8 : Hid (w.heap.size ≤ w1.heap.size) := Lib.hid (by have h1 := bc.size; have h2 := hb7.size; have := bc0.out; omega)
        have hov8 : Hid (Dv3 ≤ w1.heap.size) := hz
        have hov8' : Hid (w1.heap.size ≤ w6.heap.size) := Lib.hid hb7.size
        clear hz hy
        obtain ⟨Dv8, hD⟩ : ∃ D, w6.heap.size = D := ⟨_, rfl⟩
        have hz : Hid (Dv8 ≤ w6.heap.size) := Lib.hid (by omega)
        rw [hD] at huv8 hov8'
        clear hD
        obtain ⟨Cv8, hC⟩ : ∃ C, w1.heap.size = C := ⟨_, rfl⟩
        rw [hC] at O9 hlv8 hcv8 hov8' hov8
        clear hC
        have bc1 : Hid (w.heap.size ≤ _) := Lib.hid bc.size
        clear bc0
        have bc0 := bc1
        clear bc1
        clear hb7
        clear O10
        go_wp2_with fail
        refine (HT0.out _ _ (HS0.out.below bc)).mono ?_
        rintro e w12 ⟨v14, rfl, O15, hb13⟩
        have O16 := O9.below hb13
        clear O9
        have b17 := below_then bc (Nat.le_refl _) hb13
        clear bc
        have bc := b17
        clear b17
        have hy := Nat.le_trans hz.out hb13.size
        have hlv14 : Hid (∀ k, Value.ownBlock v14 = some k → w6.heap.size ≤ k) := Lib.hid (fun k hk => (O15.lt k hk).1)
        have huv14 : Hid (∀ k, Value.ownBlock v14 = some k → k < w12.heap.size) := Lib.hid (fun k hk => (O15.lt k hk).2)
        have hcv14 : Hid (w.heap.size ≤ w6.heap.size) := Lib.hid (by have h1 := bc.size; have h2 := hb13.size; have := bc0.out; omega)
        have hov14 : Hid (Dv8 ≤ w6.heap.size) := hz
        have hov14' : Hid (w6.heap.size ≤ w12.heap.size) := Lib.hid hb13.size
        clear hz hy
        obtain ⟨Dv14, hD⟩ : ∃ D, w12.heap.size = D := ⟨_, rfl⟩
        have hz : Hid (Dv14 ≤ w12.heap.size) := Lib.hid (by omega)
        rw [hD] at huv14 hov14'
        clear hD
        obtain ⟨Cv14, hC⟩ : ∃ C, w6.heap.size = C := ⟨_, rfl⟩
        rw [hC] at O15 hlv14 hcv14 hov14' hov14
        clear hC
        have bc1 : Hid (w.heap.size ≤ _) := Lib.hid bc.size
        clear bc0
        have bc0 := bc1
        clear bc1
        clear hb13
        go_wp2_with fail
        refine (HQ.out _ _ O15.intsC).mono ?_
        rintro e w18 ⟨v20, rfl, O21, hb19⟩
        have O22 := O16.below hb19
        clear O16
        have O23 := O15.below hb19
        clear O15
        have b24 := below_then bc (Nat.le_refl _) hb19
        clear bc
        have bc := b24
        clear b24
        have hy := Nat.le_trans hz.out hb19.size
        have hlv20 : Hid (∀ k, Value.ownBlock v20 = some k → w12.heap.size ≤ k) := Lib.hid (fun k hk => (O21.lt k hk).1)
        have huv20 : Hid (∀ k, Value.ownBlock v20 = some k → k < w18.heap.size) := Lib.hid (fun k hk => (O21.lt k hk).2)
        have hcv20 : Hid (w.heap.size ≤ w12.heap.size) := Lib.hid (by have h1 := bc.size; have h2 := hb19.size; have := bc0.out; omega)
        have hov20 : Hid (Dv14 ≤ w12.heap.size) := hz
        have hov20' : Hid (w12.heap.size ≤ w18.heap.size) := Lib.hid hb19.size
        clear hz hy
        obtain ⟨Dv20, hD⟩ : ∃ D, w18.heap.size = D := ⟨_, rfl⟩
        have hz : Hid (Dv20 ≤ w18.heap.size) := Lib.hid (by omega)
        rw [hD] at huv20 hov20'
        clear hD
        obtain ⟨Cv20, hC⟩ : ∃ C, w12.heap.size = C := ⟨_, rfl⟩
        rw [hC] at O21 hlv20 hcv20 hov20' hov20
        clear hC
        have bc1 : Hid (w.heap.size ≤ _) := Lib.hid bc.size
        clear bc0
        have bc0 := bc1
        clear bc1
        clear hb19
        go_wp2_with fail
        refine (eqIntS_big v20 v8 _ _ n f _ O21 O22 (by omega)).mono ?_
        rintro e w' ⟨rfl, m25, rfl⟩
        have O27 := O22.drewN m25
        clear O22
        have O28 := O23.drewN m25
        clear O23
        have O29 := O21.drewN m25
        clear O21
        have bd := below_drewN bc m25
        clear bc
        have bc := bd
        clear bd
        have hz' : Hid (Dv20 ≤ (w18.drewN m25).heap.size) := hz
        clear hz
        have hz := hz'
        clear hz'
        have bc1 : Hid (w.heap.size ≤ (w18.drewN m25).heap.size) := Lib.hid bc.size
        clear bc0
        have bc0 := bc1
        clear bc1
        obtain ⟨w26, hW⟩ : ∃ W, w18.drewN m25 = W := ⟨_, rfl⟩
        rw [hW] at O27 O28 O29 bc bc0 hz ⊢
        clear hW
        go_wp2_with fail
        refine (HT0.out _ _ (HS0.out.below bc)).mono ?_
        rintro e w30 ⟨v32, rfl, O33, hb31⟩
        have O34 := O27.below hb31
        clear O27
        have O35 := O28.below hb31
        clear O28
        have O36 := O29.below hb31
        clear O29
        have b37 := below_then bc (Nat.le_refl _) hb31
        clear bc
        have bc := b37
        clear b37
        have hy := Nat.le_trans hz.out hb31.size
        have hlv32 : Hid (∀ k, Value.ownBlock v32 = some k → w26.heap.size ≤ k) := Lib.hid (fun k hk => (O33.lt k hk).1)
        have huv32 : Hid (∀ k, Value.ownBlock v32 = some k → k < w30.heap.size) := Lib.hid (fun k hk => (O33.lt k hk).2)
        have hcv32 : Hid (w.heap.size ≤ w26.heap.size) := Lib.hid (by have h1 := bc.size; have h2 := hb31.size; have := bc0.out; omega)
        have hov32 : Hid (Dv20 ≤ w26.heap.size) := hz
        have hov32' : Hid (w26.heap.size ≤ w30.heap.size) := Lib.hid hb31.size
        clear hz hy
        obtain ⟨Dv32, hD⟩ : ∃ D, w30.heap.size = D := ⟨_, rfl⟩
        have hz : Hid (Dv32 ≤ w30.heap.size) := Lib.hid (by omega)
        rw [hD] at huv32 hov32'
        clear hD
        obtain ⟨Cv32, hC⟩ : ∃ C, w26.heap.size = C := ⟨_, rfl⟩
        rw [hC] at O33 hlv32 hcv32 hov32' hov32
        clear hC
        have bc1 : Hid (w.heap.size ≤ _) := Lib.hid bc.size
        clear bc0
        have bc0 := bc1
        clear bc1
        clear hb31
        go_wp2_with fail
        refine (eqIntS_big v14 v32 _ _ len0 z0 _ O35 O33 (by omega)).mono ?_
        rintro e w' ⟨rfl, m38, rfl⟩
        have O40 := O34.drewN m38
        clear O34
        have O41 := O35.drewN m38
        clear O35
        have O42 := O36.drewN m38
        clear O36
        have O43 := O33.drewN m38
        clear O33
        have bd := below_drewN bc m38
        clear bc
        have bc := bd
        clear bd
        have hz' : Hid (Dv32 ≤ (w30.drewN m38).heap.size) := hz
        clear hz
        have hz := hz'
        clear hz'
        have bc1 : Hid (w.heap.size ≤ (w30.drewN m38).heap.size) := Lib.hid bc.size
        clear bc0
        have bc0 := bc1
        clear bc1
        obtain ⟨w39, hW⟩ : ∃ W, w30.drewN m38 = W := ⟨_, rfl⟩
        rw [hW] at O40 O41 O42 O43 bc bc0 hz ⊢
        clear hW
        clear O43
        go_wp2_with fail
        refine (markIntS_big v14 _ len0 z0 _ O41 (by omega)).mono ?_
        rintro e w44 ⟨rfl, O46, g45⟩
        have O47 := O40.kept g45 (apart_lo (C := Cv14) (fun k hk => by have y0 := hov3'.out; have y1 := hov8.out; have y2 := hov8'.out; have y3 := hov14.out; have y4 := hov14'.out; have y5 := hov20.out; have y6 := hov20'.out; have y7 := hov32.out; have y8 := hov32'.out; have := huv8.out k hk; omega) hlv14.out)
        clear O40
        have O48 := O42.kept g45 (apart_hi (C := Dv14) (fun k hk => by have y0 := hov3'.out; have y1 := hov8.out; have y2 := hov8'.out; have y3 := hov14.out; have y4 := hov14'.out; have y5 := hov20.out; have y6 := hov20'.out; have y7 := hov32.out; have y8 := hov32'.out; have := hlv20.out k hk; omega) huv14.out)
        clear O42
        have bd : Below w.heap.size w w44 := bc.grown g45 bc0.out (fun k hk => by have := hlv14.out k hk; have := hcv14.out; omega)
        have hz' : Hid (Dv32 ≤ w44.heap.size) := Lib.hid (Nat.le_trans hz.out g45.size)
        clear hz
        have hz := hz'
        clear hz'
        have bc1 : Hid (w.heap.size ≤ w44.heap.size) := Lib.hid bd.size
        clear bc0
        have bc0 := bc1
        clear bc1
        clear O41 bc g45
        have bc := bd
        clear bd
        clear O46
        go_wp2_with fail
        refine (eqIntS_big v20 v8 _ _ n f _ O48 O47 (by omega)).mono ?_
        rintro e w' ⟨rfl, m49, rfl⟩
        have O51 := O47.drewN m49
        clear O47
        have O52 := O48.drewN m49
        clear O48
        have bd := below_drewN bc m49
        clear bc
        have bc := bd
        clear bd
        have hz' : Hid (Dv32 ≤ (w44.drewN m49).heap.size) := hz
        clear hz
        have hz := hz'
        clear hz'
        have bc1 : Hid (w.heap.size ≤ (w44.drewN m49).heap.size) := Lib.hid bc.size
        clear bc0
        have bc0 := bc1
        clear bc1
        obtain ⟨w50, hW⟩ : ∃ W, w44.drewN m49 = W := ⟨_, rfl⟩
        rw [hW] at O51 O52 bc bc0 hz ⊢
        clear hW
        go_wp2_with fail
        refine (markIntS_big v20 _ n f _ O52 (by omega)).mono ?_
        rintro e w53 ⟨rfl, O55, g54⟩
        have O56 := O51.kept g54 (apart_lo (C := Cv20) (fun k hk => by have y0 := hov3'.out; have y1 := hov8.out; have y2 := hov8'.out; have y3 := hov14.out; have y4 := hov14'.out; have y5 := hov20.out; have y6 := hov20'.out; have y7 := hov32.out; have y8 := hov32'.out; have := huv8.out k hk; omega) hlv20.out)
        clear O51
        have bd : Below w.heap.size w w53 := bc.grown g54 bc0.out (fun k hk => by have := hlv20.out k hk; have := hcv20.out; omega)
        have hz' : Hid (Dv32 ≤ w53.heap.size) := Lib.hid (Nat.le_trans hz.out g54.size)
        clear hz
        have hz := hz'
        clear hz'
        have bc1 : Hid (w.heap.size ≤ w53.heap.size) := Lib.hid bd.size
        clear bc0
        have bc0 := bc1
        clear bc1
        clear O52 bc g54
        have bc := bd
        clear bd
        go_wp2_with fail
        refine (heldIntS_any v20 _ n _ O55 (by omega)).mono ?_
        rintro e w' ⟨rfl, rfl⟩
        go_wp2_with fail
        refine (HT0.out _ _ (HS0.out.below bc)).mono ?_
        rintro e w57 ⟨v59, rfl, O60, hb58⟩
        have O61 := O56.below hb58
        clear O56
        have O62 := O55.below hb58
        clear O55
        have b63 := below_then bc (Nat.le_refl _) hb58
        clear bc
        have bc := b63
        clear b63
        have hy := Nat.le_trans hz.out hb58.size
        have hlv59 : Hid (∀ k, Value.ownBlock v59 = some k → w53.heap.size ≤ k) := Lib.hid (fun k hk => (O60.lt k hk).1)
        have huv59 : Hid (∀ k, Value.ownBlock v59 = some k → k < w57.heap.size) := Lib.hid (fun k hk => (O60.lt k hk).2)
        have hcv59 : Hid (w.heap.size ≤ w53.heap.size) := Lib.hid (by have h1 := bc.size; have h2 := hb58.size; have := bc0.out; omega)
        have hov59 : Hid (Dv32 ≤ w53.heap.size) := hz
        have hov59' : Hid (w53.heap.size ≤ w57.heap.size) := Lib.hid hb58.size
        clear hz hy
        obtain ⟨Dv59, hD⟩ : ∃ D, w57.heap.size = D := ⟨_, rfl⟩
        have hz : Hid (Dv59 ≤ w57.heap.size) := Lib.hid (by omega)
        rw [hD] at huv59 hov59'
        clear hD
        obtain ⟨Cv59, hC⟩ : ∃ C, w53.heap.size = C := ⟨_, rfl⟩
        rw [hC] at O60 hlv59 hcv59 hov59' hov59
        clear hC
        have bc1 : Hid (w.heap.size ≤ _) := Lib.hid bc.size
        clear bc0
        have bc0 := bc1
        clear bc1
        clear hb58
        go_wp2_with fail
        refine (HQ.out _ _ O60.intsC).mono ?_
        rintro e w64 ⟨v66, rfl, O67, hb65⟩
        have O68 := O61.below hb65
        clear O61
        have O69 := O62.below hb65
        clear O62
        have O70 := O60.below hb65
        clear O60
        have b71 := below_then bc (Nat.le_refl _) hb65
        clear bc
        have bc := b71
        clear b71
        have hy := Nat.le_trans hz.out hb65.size
        have hlv66 : Hid (∀ k, Value.ownBlock v66 = some k → w57.heap.size ≤ k) := Lib.hid (fun k hk => (O67.lt k hk).1)
        have huv66 : Hid (∀ k, Value.ownBlock v66 = some k → k < w64.heap.size) := Lib.hid (fun k hk => (O67.lt k hk).2)
        have hcv66 : Hid (w.heap.size ≤ w57.heap.size) := Lib.hid (by have h1 := bc.size; have h2 := hb65.size; have := bc0.out; omega)
        have hov66 : Hid (Dv59 ≤ w57.heap.size) := hz
        have hov66' : Hid (w57.heap.size ≤ w64.heap.size) := Lib.hid hb65.size
        clear hz hy
        obtain ⟨Dv66, hD⟩ : ∃ D, w64.heap.size = D := ⟨_, rfl⟩
        have hz : Hid (Dv66 ≤ w64.heap.size) := Lib.hid (by omega)
        rw [hD] at huv66 hov66'
        clear hD
        obtain ⟨Cv66, hC⟩ : ∃ C, w57.heap.size = C := ⟨_, rfl⟩
        rw [hC] at O67 hlv66 hcv66 hov66' hov66
        clear hC
        have bc1 : Hid (w.heap.size ≤ _) := Lib.hid bc.size
        clear bc0
        have bc0 := bc1
        clear bc1
        clear hb65
        clear O70
        go_wp2_with fail
        refine (eqIntS_big v66 v8 _ _ n f _ O67 O68 (by omega)).mono ?_
        rintro e w' ⟨rfl, m72, rfl⟩
        have O74 := O68.drewN m72
        clear O68
        have O75 := O69.drewN m72
        clear O69
        have O76 := O67.drewN m72
        clear O67
        have bd := below_drewN bc m72
        clear bc
        have bc := bd
        clear bd
        have hz' : Hid (Dv66 ≤ (w64.drewN m72).heap.size) := hz
        clear hz
        have hz := hz'
        clear hz'
        have bc1 : Hid (w.heap.size ≤ (w64.drewN m72).heap.size) := Lib.hid bc.size
        clear bc0
        have bc0 := bc1
        clear bc1
        obtain ⟨w73, hW⟩ : ∃ W, w64.drewN m72 = W := ⟨_, rfl⟩
        rw [hW] at O74 O75 O76 bc bc0 hz ⊢
        clear hW
        clear O76
        go_wp2_with fail
        refine (heldIntS_any v20 _ n _ O75 (by omega)).mono ?_
        rintro e w' ⟨rfl, rfl⟩
        go_wp2
        go_ret
        exact ⟨rfl, bc⟩
end Go.Proofs.Ytkikhgmglacflaa

