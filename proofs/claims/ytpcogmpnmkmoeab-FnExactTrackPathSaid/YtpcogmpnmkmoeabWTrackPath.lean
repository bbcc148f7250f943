/- The walk of the law FnExactTrackPath. -/
import Derived.Test.YtpcogmpnmkmoeabPilP
import Derived.Test.YtpcogmpnmkmoeabStrFrame
import Derived.Deep.RegionHeld3
namespace Go.Proofs.Ytpcogmpnmkmoeab
open Go.RowKit
set_option linter.unusedVariables false
set_option maxHeartbeats 3200000 in
set_option maxRecDepth 100000 in
theorem fnExactTrackPath_walk (a0 : Option Addr) (len0 cap0 : Nat) (z0 : Nat → Int) (c : ByteArray) (g : Int) (k0 : Int) (k1 : Int) (w : World) (h0 : IntsIn w a0 len0 cap0 z0) (hc : c.size ≤ maxLen) (_ : (Lit.int .i64 k0).wf = true) (_ : (Lit.int .i64 k1).wf = true) :
    Calls Try.prog 6 #[.slice a0 len0 cap0, .agg #[.string c, .int .i64 g], .int .i64 k0, .int .i64 k1] w fun e w' => e = .returned (.bool true) ∧ Below w.heap.size w w' := by
  unfold maxLen at hc
  obtain ⟨hl0, hz0⟩ := h0
  unfold maxLen at hl0
  have HS := Lib.hid (fun w => szPilot_any c g 1048576 w (by omega) (by omega) (by omega))
  have HT := Lib.hid (fun w => toPilot_any c g w)
  have hbd := szP_bd c
  obtain ⟨Z, hZ⟩ : ∃ Z, szP c 1048576 = Z := ⟨_, rfl⟩
  rw [hZ] at HS hbd
  clear hZ
  have b0 := (Below.refl w.heap.size w).alloc (Nat.le_refl _) (.cells #[.string c, .int .i64 g] 24)
  have u0 := PilAt.new w 24 c g
  by_cases hg0 : 1048576 < len0
  · skip
    clear hz0 hbd u0
    go_enter Try.func6, Try.ntmps6
    go_wp2
    go_ret
    exact ⟨rfl, b0⟩
  have HS0 : Hid (IntsR w (.slice a0 len0 cap0) len0 z0) := Lib.hid ⟨a0, cap0, rfl, fun i hi => (hz0 i hi).2⟩
  have HT0 := Lib.hid (fun v w hS => toIntS_any v len0 z0 w hS (by omega))
  have hn0 : len0 ≤ 1048576 := by omega
  have lg0 : ¬ ((1048576 : Int) < (len0 : Int)) := by omega
  clear hz0
  by_cases hz : Z < 0
  · skip
    clear hbd u0
    go_enter Try.func6, Try.ntmps6
    go_wp2_with fail
    refine (HS.out _).mono ?_
    rintro e w1 ⟨rfl, n1⟩
    have c1 := below_then b0 (Nat.le_refl _) n1
    clear n1 b0
    go_wp2
    go_ret
    exact ⟨rfl, c1⟩
  have h1 := hbd hz
  have hp := (fun v w r => sPath_any v len0 z0 c g k0 k1 w r hn0 h1)
  have hq := (fun v w r => iPath_any v len0 z0 c g k0 k1 w r hn0 h1)
  have hn := tpN_le6 len0 z0 c g k0 k1
  obtain ⟨n, hN⟩ : ∃ n, tpN len0 z0 c g k0 k1 = n := ⟨_, rfl⟩
  obtain ⟨f, hF⟩ : ∃ f, tpF len0 z0 c g k0 = f := ⟨_, rfl⟩
  rw [hN] at hp hq hn
  rw [hF] at hp hq
  clear hN hF
  have HP := Lib.hid hp
  have HQ := Lib.hid hq
  clear hp hq hbd
  go_enter Try.func6, Try.ntmps6
  go_wp2_with fail
  refine (HS.out _).mono ?_
  rintro e w1 ⟨rfl, n1⟩
  have bc := below_then b0 (Nat.le_refl _) n1
  have u := u0.below n1 (by simp)
  clear n1 b0 u0
  obtain ⟨x0, x1, x2⟩ := id u
  go_wp2_with fail
  have r0 := Below.refl w1.heap.size w1
  go_region_held3 (fun wx => Below w1.heap.size w1 wx ∧ wx.cell? ⟨w.heap.size, 0, none⟩ = some (.string c) ∧ wx.cell? ⟨w.heap.size, 1, none⟩ = some (.int .i64 g)) (first | exact ⟨k3, y3.1, y3.2.1⟩ | exact ⟨k2, y2.1, y2.2.1⟩ | exact ⟨k1, y1.1, y1.2.1⟩ | exact ⟨r0.drew, x0, x1⟩) (first
    | (go_at_call 15; refine (HT0.out _ _ (HS0.out.below bc.drew)).mono ?_; rintro e w91 ⟨v0, rfl, O0, hB⟩; have k1 := below_then r0.drew (Nat.le_refl _) hB; have y1 := u.below k1 x2; clear hB)
    | (go_at_call 16; refine (HT.out _).mono ?_; rintro e w92 ⟨rfl, hB⟩; have k2 := below_then k1 (Nat.le_refl _) hB; have y2 := u.below k2 x2; have O01 := O0.below hB; clear hB)
    | (go_at_call 23; refine (HP.out _ _ O01.ints).mono ?_; rintro e w2 ⟨v3, rfl, OO, hB⟩; have k3 := below_then k2 (Nat.le_refl _) hB; have y3 := u.below k3 x2; clear hB))
  have O4 := OO.mono k2.size
  clear x0 x1 x2 r0 k1 k2 y1 y2 y3 O0 O01 OO
  have hxx := u.2.2
  have hyy := k3.size
  have bd := below_then bc (Nat.le_refl _) k3
  clear bc
  have bc := bd
  clear bd
  have ud := u.below k3 u.2.2
  clear u
  have u := ud
  clear ud
  have hlv3 : Hid (∀ k, Value.ownBlock v3 = some k → w1.heap.size ≤ k) := Lib.hid (fun k hk => (O4.lt k hk).1)
  have huv3 : Hid (∀ k, Value.ownBlock v3 = some k → k < w2.heap.size) := Lib.hid (fun k hk => (O4.lt k hk).2)
  have hxv3 : Hid (w.heap.size < w1.heap.size) := Lib.hid hxx
  have hov3' : Hid (w1.heap.size ≤ w2.heap.size) := Lib.hid hyy
  clear hxx hyy
  obtain ⟨Dv3, hD⟩ : ∃ D, w2.heap.size = D := ⟨_, rfl⟩
  have hzz : Hid (Dv3 ≤ w2.heap.size) := Lib.hid (Nat.le_of_eq hD.symm)
  rw [hD] at huv3 hov3'
  clear hD
  obtain ⟨Cv3, hC⟩ : ∃ C, w1.heap.size = C := ⟨_, rfl⟩
  rw [hC] at O4 hlv3 hxv3 hov3'
  clear hC
  clear k3
  obtain ⟨x0, x1, x2⟩ := id u
  go_wp2_with fail
  clear x0 x1 x2
  refine (HT0.out _ _ (HS0.out.below bc)).mono ?_
  rintro e w5 ⟨v7, rfl, O8, nb6⟩
  have O9 := O4.below nb6
  clear O4
  have hxx := u.2.2
  have hyy := nb6.size
  have bd := below_then bc (Nat.le_refl _) nb6
  clear bc
  have bc := bd
  clear bd
  have ud := u.below nb6 u.2.2
  clear u
  have u := ud
  clear ud
  have hlv7 : Hid (∀ k, Value.ownBlock v7 = some k → w2.heap.size ≤ k) := Lib.hid (fun k hk => (O8.lt k hk).1)
  have huv7 : Hid (∀ k, Value.ownBlock v7 = some k → k < w5.heap.size) := Lib.hid (fun k hk => (O8.lt k hk).2)
  have hxv7 : Hid (w.heap.size < w2.heap.size) := Lib.hid hxx
  have hov7 : Hid (Dv3 ≤ w2.heap.size) := hzz
  have hov7' : Hid (w2.heap.size ≤ w5.heap.size) := Lib.hid hyy
  clear hxx hyy hzz
  obtain ⟨Dv7, hD⟩ : ∃ D, w5.heap.size = D := ⟨_, rfl⟩
  have hzz : Hid (Dv7 ≤ w5.heap.size) := Lib.hid (Nat.le_of_eq hD.symm)
  rw [hD] at huv7 hov7'
  clear hD
  obtain ⟨Cv7, hC⟩ : ∃ C, w2.heap.size = C := ⟨_, rfl⟩
  rw [hC] at O8 hlv7 hxv7 hov7' hov7
  clear hC
  clear nb6
  obtain ⟨x0, x1, x2⟩ := id u
  go_wp2_with fail
  clear x0 x1 x2
  refine (HT.out _).mono ?_
  rintro e w10 ⟨rfl, nb11⟩
  have O12 := O9.below nb11
  clear O9
  have O13 := O8.below nb11
  clear O8
  have bd := below_then bc (Nat.le_refl _) nb11
  clear bc
  have bc := bd
  clear bd
  have ud := u.below nb11 u.2.2
  clear u
  have u := ud
  clear ud
  have hzd := Lib.hid (Nat.le_trans hzz.out nb11.size)
  clear hzz
  have hzz := hzd
  clear hzd
  clear nb11
  obtain ⟨x0, x1, x2⟩ := id u
  go_wp2_with fail
  clear x0 x1 x2
  refine (HQ.out _ _ O13.intsC).mono ?_
  rintro e w14 ⟨v16, rfl, O17, nb15⟩
  have O18 := O12.below nb15
  clear O12
  have O19 := O13.below nb15
  clear O13
  have hxx := u.2.2
  have hyy := nb15.size
  have bd := below_then bc (Nat.le_refl _) nb15
  clear bc
  have bc := bd
  clear bd
  have ud := u.below nb15 u.2.2
  clear u
  have u := ud
  clear ud
  have hlv16 : Hid (∀ k, Value.ownBlock v16 = some k → w10.heap.size ≤ k) := Lib.hid (fun k hk => (O17.lt k hk).1)
  have huv16 : Hid (∀ k, Value.ownBlock v16 = some k → k < w14.heap.size) := Lib.hid (fun k hk => (O17.lt k hk).2)
  have hxv16 : Hid (w.heap.size < w10.heap.size) := Lib.hid hxx
  have hov16 : Hid (Dv7 ≤ w10.heap.size) := hzz
  have hov16' : Hid (w10.heap.size ≤ w14.heap.size) := Lib.hid hyy
  clear hxx hyy hzz
  obtain ⟨Dv16, hD⟩ : ∃ D, w14.heap.size = D := ⟨_, rfl⟩
  have hzz : Hid (Dv16 ≤ w14.heap.size) := Lib.hid (Nat.le_of_eq hD.symm)
  rw [hD] at huv16 hov16'
  clear hD
  obtain ⟨Cv16, hC⟩ : ∃ C, w10.heap.size = C := ⟨_, rfl⟩
  rw [hC] at O17 hlv16 hxv16 hov16' hov16
  clear hC
  clear nb15
  go_wp2_with fail
  refine (eqIntS_big v16 v3 _ _ n f _ O17 O18 (by omega)).mono ?_
  rintro e w' ⟨rfl, m20, rfl⟩
  have O22 := O18.drewN m20
  clear O18
  have O23 := O19.drewN m20
  clear O19
  have O24 := O17.drewN m20
  clear O17
  have bd := below_drewN bc m20
  clear bc
  have bc := bd
  clear bd
  have ud : PilAt (w14.drewN m20) w.heap.size c g := u
  clear u
  have u := ud
  clear ud
  have hzd : Hid (Dv16 ≤ (w14.drewN m20).heap.size) := hzz
  clear hzz
  have hzz := hzd
  clear hzd
  obtain ⟨w21, hW⟩ : ∃ W, w14.drewN m20 = W := ⟨_, rfl⟩
  rw [hW] at O22 O23 O24 bc u hzz ⊢
  clear hW
  obtain ⟨x0, x1, x2⟩ := id u
  go_wp2_with fail
  clear x0 x1 x2
  refine (HT0.out _ _ (HS0.out.below bc)).mono ?_
  rintro e w25 ⟨v27, rfl, O28, nb26⟩
  have O29 := O22.below nb26
  clear O22
  have O30 := O23.below nb26
  clear O23
  have O31 := O24.below nb26
  clear O24
  have hxx := u.2.2
  have hyy := nb26.size
  have bd := below_then bc (Nat.le_refl _) nb26
  clear bc
  have bc := bd
  clear bd
  have ud := u.below nb26 u.2.2
  clear u
  have u := ud
  clear ud
  have hlv27 : Hid (∀ k, Value.ownBlock v27 = some k → w21.heap.size ≤ k) := Lib.hid (fun k hk => (O28.lt k hk).1)
  have huv27 : Hid (∀ k, Value.ownBlock v27 = some k → k < w25.heap.size) := Lib.hid (fun k hk => (O28.lt k hk).2)
  have hxv27 : Hid (w.heap.size < w21.heap.size) := Lib.hid hxx
  have hov27 : Hid (Dv16 ≤ w21.heap.size) := hzz
  have hov27' : Hid (w21.heap.size ≤ w25.heap.size) := Lib.hid hyy
  clear hxx hyy hzz
  obtain ⟨Dv27, hD⟩ : ∃ D, w25.heap.size = D := ⟨_, rfl⟩
  have hzz : Hid (Dv27 ≤ w25.heap.size) := Lib.hid (Nat.le_of_eq hD.symm)
  rw [hD] at huv27 hov27'
  clear hD
  obtain ⟨Cv27, hC⟩ : ∃ C, w21.heap.size = C := ⟨_, rfl⟩
  rw [hC] at O28 hlv27 hxv27 hov27' hov27
  clear hC
  clear nb26
  go_wp2_with fail
  refine (eqIntS_big v7 v27 _ _ len0 z0 _ O30 O28 (by omega)).mono ?_
  rintro e w' ⟨rfl, m32, rfl⟩
  have O34 := O29.drewN m32
  clear O29
  have O35 := O30.drewN m32
  clear O30
  have O36 := O31.drewN m32
  clear O31
  have O37 := O28.drewN m32
  clear O28
  have bd := below_drewN bc m32
  clear bc
  have bc := bd
  clear bd
  have ud : PilAt (w25.drewN m32) w.heap.size c g := u
  clear u
  have u := ud
  clear ud
  have hzd : Hid (Dv27 ≤ (w25.drewN m32).heap.size) := hzz
  clear hzz
  have hzz := hzd
  clear hzd
  obtain ⟨w33, hW⟩ : ∃ W, w25.drewN m32 = W := ⟨_, rfl⟩
  rw [hW] at O34 O35 O36 O37 bc u hzz ⊢
  clear hW
  clear O37
  go_wp2_with fail
  refine (markIntS_big v7 _ len0 z0 _ O35 (by omega)).mono ?_
  rintro e w38 ⟨rfl, O40, g39⟩
  have O41 := O34.kept g39 (apart_lo (C := Cv7) (fun k hk => by have y0 := hov3'.out; have y1 := hov7.out; have y2 := hov7'.out; have y3 := hov16.out; have y4 := hov16'.out; have y5 := hov27.out; have y6 := hov27'.out; have := huv3.out k hk; omega) hlv7.out)
  clear O34
  have O42 := O36.kept g39 (apart_hi (C := Dv7) (fun k hk => by have y0 := hov3'.out; have y1 := hov7.out; have y2 := hov7'.out; have y3 := hov16.out; have y4 := hov16'.out; have y5 := hov27.out; have y6 := hov27'.out; have := hlv16.out k hk; omega) huv7.out)
  clear O36
  have bd : Below w.heap.size w w38 := bc.grown g39 bc.size (fun k hk => by have := hlv7.out k hk; have := hxv7.out; omega)
  clear bc
  have bc := bd
  clear bd
  have ud : PilAt w38 w.heap.size c g := u.kept g39 (fun e => by have := hlv7.out _ e.symm; have := hxv7.out; omega)
  clear u
  have u := ud
  clear ud
  have hzd : Hid (Dv27 ≤ w38.heap.size) := Lib.hid (Nat.le_trans hzz.out g39.size)
  clear hzz
  have hzz := hzd
  clear hzd
  clear O35 g39
  clear O40
  go_wp2_with fail
  refine (eqIntS_big v16 v3 _ _ n f _ O42 O41 (by omega)).mono ?_
  rintro e w' ⟨rfl, m43, rfl⟩
  have O45 := O41.drewN m43
  clear O41
  have O46 := O42.drewN m43
  clear O42
  have bd := below_drewN bc m43
  clear bc
  have bc := bd
  clear bd
  have ud : PilAt (w38.drewN m43) w.heap.size c g := u
  clear u
  have u := ud
  clear ud
  have hzd : Hid (Dv27 ≤ (w38.drewN m43).heap.size) := hzz
  clear hzz
  have hzz := hzd
  clear hzd
  obtain ⟨w44, hW⟩ : ∃ W, w38.drewN m43 = W := ⟨_, rfl⟩
  rw [hW] at O45 O46 bc u hzz ⊢
  clear hW
  go_wp2_with fail
  refine (markIntS_big v16 _ n f _ O46 (by omega)).mono ?_
  rintro e w47 ⟨rfl, O49, g48⟩
  have O50 := O45.kept g48 (apart_lo (C := Cv16) (fun k hk => by have y0 := hov3'.out; have y1 := hov7.out; have y2 := hov7'.out; have y3 := hov16.out; have y4 := hov16'.out; have y5 := hov27.out; have y6 := hov27'.out; have := huv3.out k hk; omega) hlv16.out)
  clear O45
  have bd : Below w.heap.size w w47 := bc.grown g48 bc.size (fun k hk => by have := hlv16.out k hk; have := hxv16.out; omega)
  clear bc
  have bc := bd
  clear bd
  have ud : PilAt w47 w.heap.size c g := u.kept g48 (fun e => by have := hlv16.out _ e.symm; have := hxv16.out; omega)
  clear u
  have u := ud
  clear ud
  have hzd : Hid (Dv27 ≤ w47.heap.size) := Lib.hid (Nat.le_trans hzz.out g48.size)
  clear hzz
  have hzz := hzd
  clear hzd
  clear O46 g48
  go_wp2_with fail
  refine (heldIntS_any v16 _ n _ O49 (by omega)).mono ?_
  rintro e w' ⟨rfl, rfl⟩
  obtain ⟨x0, x1, x2⟩ := id u
  go_wp2_with fail
  have r0 := Below.refl w47.heap.size w47
  go_region_held3 (fun wx => Below w47.heap.size w47 wx ∧ wx.cell? ⟨w.heap.size, 0, none⟩ = some (.string c) ∧ wx.cell? ⟨w.heap.size, 1, none⟩ = some (.int .i64 g)) (first | exact ⟨k3, y3.1, y3.2.1⟩ | exact ⟨k2, y2.1, y2.2.1⟩ | exact ⟨k1, y1.1, y1.2.1⟩ | exact ⟨r0.drew, x0, x1⟩) (first
    | (go_at_call 15; refine (HT0.out _ _ (HS0.out.below bc.drew)).mono ?_; rintro e w91 ⟨v0, rfl, O0, hB⟩; have k1 := below_then r0.drew (Nat.le_refl _) hB; have y1 := u.below k1 x2; clear hB)
    | (go_at_call 16; refine (HT.out _).mono ?_; rintro e w92 ⟨rfl, hB⟩; have k2 := below_then k1 (Nat.le_refl _) hB; have y2 := u.below k2 x2; have O01 := O0.below hB; clear hB)
    | (go_at_call 24; refine (HQ.out _ _ O01.intsC).mono ?_; rintro e w51 ⟨v52, rfl, OO, hB⟩; have k3 := below_then k2 (Nat.le_refl _) hB; have y3 := u.below k3 x2; clear hB))
  have O53 := OO.mono k2.size
  clear x0 x1 x2 r0 k1 k2 y1 y2 y3 O0 O01 OO
  have O54 := O50.below k3
  clear O50
  have O55 := O49.below k3
  clear O49
  have hxx := u.2.2
  have hyy := k3.size
  have bd := below_then bc (Nat.le_refl _) k3
  clear bc
  have bc := bd
  clear bd
  have ud := u.below k3 u.2.2
  clear u
  have u := ud
  clear ud
  have hlv52 : Hid (∀ k, Value.ownBlock v52 = some k → w47.heap.size ≤ k) := Lib.hid (fun k hk => (O53.lt k hk).1)
  have huv52 : Hid (∀ k, Value.ownBlock v52 = some k → k < w51.heap.size) := Lib.hid (fun k hk => (O53.lt k hk).2)
  have hxv52 : Hid (w.heap.size < w47.heap.size) := Lib.hid hxx
  have hov52 : Hid (Dv27 ≤ w47.heap.size) := hzz
  have hov52' : Hid (w47.heap.size ≤ w51.heap.size) := Lib.hid hyy
  clear hxx hyy hzz
  obtain ⟨Dv52, hD⟩ : ∃ D, w51.heap.size = D := ⟨_, rfl⟩
  have hzz : Hid (Dv52 ≤ w51.heap.size) := Lib.hid (Nat.le_of_eq hD.symm)
  rw [hD] at huv52 hov52'
  clear hD
  obtain ⟨Cv52, hC⟩ : ∃ C, w47.heap.size = C := ⟨_, rfl⟩
  rw [hC] at O53 hlv52 hxv52 hov52' hov52
  clear hC
  clear k3
  go_wp2_with fail
  refine (eqIntS_big v52 v3 _ _ n f _ O53 O54 (by omega)).mono ?_
  rintro e w' ⟨rfl, m56, rfl⟩
  have O58 := O54.drewN m56
  clear O54
  have O59 := O55.drewN m56
  clear O55
  have O60 := O53.drewN m56
  clear O53
  have bd := below_drewN bc m56
  clear bc
  have bc := bd
  clear bd
  have ud : PilAt (w51.drewN m56) w.heap.size c g := u
  clear u
  have u := ud
  clear ud
  have hzd : Hid (Dv52 ≤ (w51.drewN m56).heap.size) := hzz
  clear hzz
  have hzz := hzd
  clear hzd
  obtain ⟨w57, hW⟩ : ∃ W, w51.drewN m56 = W := ⟨_, rfl⟩
  rw [hW] at O58 O59 O60 bc u hzz ⊢
  clear hW
  clear O60
  go_wp2_with fail
  refine (heldIntS_any v16 _ n _ O59 (by omega)).mono ?_
  rintro e w' ⟨rfl, rfl⟩
  go_wp2
  go_ret
  exact ⟨rfl, bc⟩
end Go.Proofs.Ytpcogmpnmkmoeab
