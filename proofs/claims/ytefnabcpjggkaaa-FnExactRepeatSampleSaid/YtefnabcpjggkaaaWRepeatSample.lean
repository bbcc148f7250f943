/- The walk of the law FnExactRepeatSample. -/
import Derived.Test.YtefnabcpjggkaaaDrop2
import Derived.Test.YtefnabcpjggkaaaStrFrame
namespace Go.Proofs.Ytefnabcpjggkaaa
open Go.RowKit
set_option linter.unusedVariables false
set_option maxHeartbeats 3200000 in
set_option maxRecDepth 100000 in
theorem fnExactRepeatSample_walk (a0 : Option Addr) (len0 cap0 : Nat) (z0 : Nat → Int) (k1 : Int) (w : World) (h0 : IntsIn w a0 len0 cap0 z0) (hk1 : (Lit.int .i64 k1).wf = true) :
    Calls Try.prog 4 #[.slice a0 len0 cap0, .int .i64 k1] w fun e w' => e = .returned (.bool true) ∧ Below w.heap.size w w' := by
  obtain ⟨hl0, hz0⟩ := h0
  unfold maxLen at hl0
  have HS0 : Hid (IntsR w (.slice a0 len0 cap0) len0 z0) := Lib.hid ⟨a0, cap0, rfl, fun i hi => (hz0 i hi).2⟩
  clear hz0
  have bc : Below w.heap.size w w := Below.refl _ _
  by_cases hg0 : 1048576 < len0
  · skip
    clear HS0
    go_enter Try.func4, Try.ntmps4
    go_wp2
    go_ret
    exact ⟨rfl, bc⟩
  have lg0 : ¬ ((1048576 : Int) < (len0 : Int)) := by omega
  have hn0 : len0 ≤ 1048576 := by omega
  clear hg0
  have HT0 := Lib.hid (fun v w hS => toIntS_any v len0 z0 w hS hn0)
  have hp := (fun v0 w r0 => sRep_any v0 len0 z0 k1 w r0 hn0)
  have hq := (fun v0 w r0 => iRep_any v0 len0 z0 k1 w r0 hn0)
  have hn := rpN_le (n := len0) (z := z0) (k := k1)
  obtain ⟨n, hN⟩ : ∃ n, rpN len0 z0 k1 = n := ⟨_, rfl⟩
  obtain ⟨f, hF⟩ : ∃ f, rpF z0 k1 = f := ⟨_, rfl⟩
  rw [hN] at hp hq hn
  rw [hF] at hp hq
  clear hN hF
  obtain ⟨ok, hO⟩ : ∃ ok, rpB len0 z0 k1 = ok := ⟨_, rfl⟩
  rw [hO] at hp hq
  clear hO
  have HP := Lib.hid hp
  have HQ := Lib.hid hq
  clear hp hq
  cases ok
  all_goals
    go_enter Try.func4, Try.ntmps4
    go_wp2_with fail
    refine (HT0.out _ _ (HS0.out.below bc)).mono ?_
    rintro e w1 ⟨v3, rfl, O4, nb2⟩
    have hxx := bc.size
    have hyy := nb2.size
    have bd := nb2
    clear bc
    have bc := bd
    clear bd
    have hlv3 : Hid (∀ k, Value.ownBlock v3 = some k → w.heap.size ≤ k) := Lib.hid (fun k hk => (O4.lt k hk).1)
    have huv3 : Hid (∀ k, Value.ownBlock v3 = some k → k < w1.heap.size) := Lib.hid (fun k hk => (O4.lt k hk).2)
    have hxv3 : Hid (w.heap.size ≤ w.heap.size) := Lib.hid hxx
    have hov3' : Hid (w.heap.size ≤ w1.heap.size) := Lib.hid hyy
    clear hxx hyy
    obtain ⟨Dv3, hD⟩ : ∃ D, w1.heap.size = D := ⟨_, rfl⟩
    have hzz : Hid (Dv3 ≤ w1.heap.size) := Lib.hid (Nat.le_of_eq hD.symm)
    rw [hD] at huv3 hov3'
    clear hD
    obtain ⟨Cv3, hC⟩ : ∃ C, w.heap.size = C := ⟨_, rfl⟩
    have HC0 := Lib.hid hC
    rw [hC] at O4 hlv3 hxv3 hov3'
    clear hC
    skip
    go_wp2_with fail
    refine (HP.out _ _ O4.intsC).mono ?_
    rintro e w5 ⟨v7, rfl, O8, nb6⟩
    have O9 := O4.below nb6
    clear O4
    have hxx := bc.size
    have hyy := nb6.size
    have bd := below_then bc (Nat.le_refl _) nb6
    clear bc
    have bc := bd
    clear bd
    have hlv7 : Hid (∀ k, Value.ownBlock v7 = some k → w1.heap.size ≤ k) := Lib.hid (fun k hk => (O8.lt k hk).1)
    have huv7 : Hid (∀ k, Value.ownBlock v7 = some k → k < w5.heap.size) := Lib.hid (fun k hk => (O8.lt k hk).2)
    have hxv7 : Hid (w.heap.size ≤ w1.heap.size) := Lib.hid hxx
    have hov7 : Hid (Dv3 ≤ w1.heap.size) := hzz
    have hov7' : Hid (w1.heap.size ≤ w5.heap.size) := Lib.hid hyy
    clear hxx hyy hzz
    obtain ⟨Dv7, hD⟩ : ∃ D, w5.heap.size = D := ⟨_, rfl⟩
    have hzz : Hid (Dv7 ≤ w5.heap.size) := Lib.hid (Nat.le_of_eq hD.symm)
    rw [hD] at huv7 hov7'
    clear hD
    obtain ⟨Cv7, hC⟩ : ∃ C, w1.heap.size = C := ⟨_, rfl⟩
    rw [hC] at O8 hlv7 hxv7 hov7' hov7
    clear hC
    clear nb6
    clear O9
    go_wp2_with fail
    refine (HT0.out _ _ (HS0.out.below bc)).mono ?_
    rintro e w10 ⟨v12, rfl, O13, nb11⟩
    have O14 := O8.below nb11
    clear O8
    have hxx := bc.size
    have hyy := nb11.size
    have bd := below_then bc (Nat.le_refl _) nb11
    clear bc
    have bc := bd
    clear bd
    have hlv12 : Hid (∀ k, Value.ownBlock v12 = some k → w5.heap.size ≤ k) := Lib.hid (fun k hk => (O13.lt k hk).1)
    have huv12 : Hid (∀ k, Value.ownBlock v12 = some k → k < w10.heap.size) := Lib.hid (fun k hk => (O13.lt k hk).2)
    have hxv12 : Hid (w.heap.size ≤ w5.heap.size) := Lib.hid hxx
    have hov12 : Hid (Dv7 ≤ w5.heap.size) := hzz
    have hov12' : Hid (w5.heap.size ≤ w10.heap.size) := Lib.hid hyy
    clear hxx hyy hzz
    obtain ⟨Dv12, hD⟩ : ∃ D, w10.heap.size = D := ⟨_, rfl⟩
    have hzz : Hid (Dv12 ≤ w10.heap.size) := Lib.hid (Nat.le_of_eq hD.symm)
    rw [hD] at huv12 hov12'
    clear hD
    obtain ⟨Cv12, hC⟩ : ∃ C, w5.heap.size = C := ⟨_, rfl⟩
    rw [hC] at O13 hlv12 hxv12 hov12' hov12
    clear hC
    clear nb11
    go_wp2_with fail
    refine (HQ.out _ _ O13.intsC).mono ?_
    rintro e w15 ⟨v17, rfl, O18, nb16⟩
    have O19 := O14.below nb16
    clear O14
    have O20 := O13.below nb16
    clear O13
    have hxx := bc.size
    have hyy := nb16.size
    have bd := below_then bc (Nat.le_refl _) nb16
    clear bc
    have bc := bd
    clear bd
    have hlv17 : Hid (∀ k, Value.ownBlock v17 = some k → w10.heap.size ≤ k) := Lib.hid (fun k hk => (O18.lt k hk).1)
    have huv17 : Hid (∀ k, Value.ownBlock v17 = some k → k < w15.heap.size) := Lib.hid (fun k hk => (O18.lt k hk).2)
    have hxv17 : Hid (w.heap.size ≤ w10.heap.size) := Lib.hid hxx
    have hov17 : Hid (Dv12 ≤ w10.heap.size) := hzz
    have hov17' : Hid (w10.heap.size ≤ w15.heap.size) := Lib.hid hyy
    clear hxx hyy hzz
    obtain ⟨Dv17, hD⟩ : ∃ D, w15.heap.size = D := ⟨_, rfl⟩
    have hzz : Hid (Dv17 ≤ w15.heap.size) := Lib.hid (Nat.le_of_eq hD.symm)
    rw [hD] at huv17 hov17'
    clear hD
    obtain ⟨Cv17, hC⟩ : ∃ C, w10.heap.size = C := ⟨_, rfl⟩
    rw [hC] at O18 hlv17 hxv17 hov17' hov17
    clear hC
    clear nb16
    go_wp2_with fail
    refine (eqIntS_big v17 v7 _ _ n f _ O18 O19 (by omega)).mono ?_
    rintro e w' ⟨rfl, m21, rfl⟩
    have O23 := O19.drewN m21
    clear O19
    have O24 := O20.drewN m21
    clear O20
    have O25 := O18.drewN m21
    clear O18
    have bd := below_drewN bc m21
    clear bc
    have bc := bd
    clear bd
    have hzd : Hid (Dv17 ≤ (w15.drewN m21).heap.size) := hzz
    clear hzz
    have hzz := hzd
    clear hzd
    obtain ⟨w22, hW⟩ : ∃ W, w15.drewN m21 = W := ⟨_, rfl⟩
    rw [hW] at O23 O24 O25 bc hzz ⊢
    clear hW
    go_wp2_with fail
    refine (HT0.out _ _ (HS0.out.below bc)).mono ?_
    rintro e w26 ⟨v28, rfl, O29, nb27⟩
    have O30 := O23.below nb27
    clear O23
    have O31 := O24.below nb27
    clear O24
    have O32 := O25.below nb27
    clear O25
    have hxx := bc.size
    have hyy := nb27.size
    have bd := below_then bc (Nat.le_refl _) nb27
    clear bc
    have bc := bd
    clear bd
    have hlv28 : Hid (∀ k, Value.ownBlock v28 = some k → w22.heap.size ≤ k) := Lib.hid (fun k hk => (O29.lt k hk).1)
    have huv28 : Hid (∀ k, Value.ownBlock v28 = some k → k < w26.heap.size) := Lib.hid (fun k hk => (O29.lt k hk).2)
    have hxv28 : Hid (w.heap.size ≤ w22.heap.size) := Lib.hid hxx
    have hov28 : Hid (Dv17 ≤ w22.heap.size) := hzz
    have hov28' : Hid (w22.heap.size ≤ w26.heap.size) := Lib.hid hyy
    clear hxx hyy hzz
    obtain ⟨Dv28, hD⟩ : ∃ D, w26.heap.size = D := ⟨_, rfl⟩
    have hzz : Hid (Dv28 ≤ w26.heap.size) := Lib.hid (Nat.le_of_eq hD.symm)
    rw [hD] at huv28 hov28'
    clear hD
    obtain ⟨Cv28, hC⟩ : ∃ C, w22.heap.size = C := ⟨_, rfl⟩
    rw [hC] at O29 hlv28 hxv28 hov28' hov28
    clear hC
    clear nb27
    go_wp2_with fail
    refine (eqIntS_big v12 v28 _ _ len0 z0 _ O31 O29 (by omega)).mono ?_
    rintro e w' ⟨rfl, m33, rfl⟩
    have O35 := O30.drewN m33
    clear O30
    have O36 := O31.drewN m33
    clear O31
    have O37 := O32.drewN m33
    clear O32
    have O38 := O29.drewN m33
    clear O29
    have bd := below_drewN bc m33
    clear bc
    have bc := bd
    clear bd
    have hzd : Hid (Dv28 ≤ (w26.drewN m33).heap.size) := hzz
    clear hzz
    have hzz := hzd
    clear hzd
    obtain ⟨w34, hW⟩ : ∃ W, w26.drewN m33 = W := ⟨_, rfl⟩
    rw [hW] at O35 O36 O37 O38 bc hzz ⊢
    clear hW
    clear O38
    go_wp2_with fail
    refine (markIntS_big v12 _ len0 z0 _ O36 (by omega)).mono ?_
    rintro e w39 ⟨rfl, O41, g40⟩
    have O42 := O35.kept g40 (apart_lo (C := Cv12) (fun k hk => by have y0 := hov3'.out; have y1 := hov7.out; have y2 := hov7'.out; have y3 := hov12.out; have y4 := hov12'.out; have y5 := hov17.out; have y6 := hov17'.out; have y7 := hov28.out; have y8 := hov28'.out; have := huv7.out k hk; omega) hlv12.out)
    clear O35
    have O43 := O37.kept g40 (apart_hi (C := Dv12) (fun k hk => by have y0 := hov3'.out; have y1 := hov7.out; have y2 := hov7'.out; have y3 := hov12.out; have y4 := hov12'.out; have y5 := hov17.out; have y6 := hov17'.out; have y7 := hov28.out; have y8 := hov28'.out; have := hlv17.out k hk; omega) huv12.out)
    clear O37
    have bd : Below w.heap.size w w39 := bc.grown g40 bc.size (fun k hk => by have := hlv12.out k hk; have := hxv12.out; omega)
    clear bc
    have bc := bd
    clear bd
    have hzd : Hid (Dv28 ≤ w39.heap.size) := Lib.hid (Nat.le_trans hzz.out g40.size)
    clear hzz
    have hzz := hzd
    clear hzd
    clear O36 g40
    clear O41
    go_wp2_with fail
    refine (eqIntS_big v17 v7 _ _ n f _ O43 O42 (by omega)).mono ?_
    rintro e w' ⟨rfl, m44, rfl⟩
    have O46 := O42.drewN m44
    clear O42
    have O47 := O43.drewN m44
    clear O43
    have bd := below_drewN bc m44
    clear bc
    have bc := bd
    clear bd
    have hzd : Hid (Dv28 ≤ (w39.drewN m44).heap.size) := hzz
    clear hzz
    have hzz := hzd
    clear hzd
    obtain ⟨w45, hW⟩ : ∃ W, w39.drewN m44 = W := ⟨_, rfl⟩
    rw [hW] at O46 O47 bc hzz ⊢
    clear hW
    go_wp2_with fail
    refine (markIntS_big v17 _ n f _ O47 (by omega)).mono ?_
    rintro e w48 ⟨rfl, O50, g49⟩
    have O51 := O46.kept g49 (apart_lo (C := Cv17) (fun k hk => by have y0 := hov3'.out; have y1 := hov7.out; have y2 := hov7'.out; have y3 := hov12.out; have y4 := hov12'.out; have y5 := hov17.out; have y6 := hov17'.out; have y7 := hov28.out; have y8 := hov28'.out; have := huv7.out k hk; omega) hlv17.out)
    clear O46
    have bd : Below w.heap.size w w48 := bc.grown g49 bc.size (fun k hk => by have := hlv17.out k hk; have := hxv17.out; omega)
    clear bc
    have bc := bd
    clear bd
    have hzd : Hid (Dv28 ≤ w48.heap.size) := Lib.hid (Nat.le_trans hzz.out g49.size)
    clear hzz
    have hzz := hzd
    clear hzd
    clear O47 g49
    go_wp2_with fail
    refine (heldIntS_any v17 _ n _ O50 (by omega)).mono ?_
    rintro e w' ⟨rfl, rfl⟩
    go_wp2_with fail
    refine (HT0.out _ _ (HS0.out.below bc)).mono ?_
    rintro e w52 ⟨v54, rfl, O55, nb53⟩
    have O56 := O51.below nb53
    clear O51
    have O57 := O50.below nb53
    clear O50
    have hxx := bc.size
    have hyy := nb53.size
    have bd := below_then bc (Nat.le_refl _) nb53
    clear bc
    have bc := bd
    clear bd
    have hlv54 : Hid (∀ k, Value.ownBlock v54 = some k → w48.heap.size ≤ k) := Lib.hid (fun k hk => (O55.lt k hk).1)
    have huv54 : Hid (∀ k, Value.ownBlock v54 = some k → k < w52.heap.size) := Lib.hid (fun k hk => (O55.lt k hk).2)
    have hxv54 : Hid (w.heap.size ≤ w48.heap.size) := Lib.hid hxx
    have hov54 : Hid (Dv28 ≤ w48.heap.size) := hzz
    have hov54' : Hid (w48.heap.size ≤ w52.heap.size) := Lib.hid hyy
    clear hxx hyy hzz
    obtain ⟨Dv54, hD⟩ : ∃ D, w52.heap.size = D := ⟨_, rfl⟩
    have hzz : Hid (Dv54 ≤ w52.heap.size) := Lib.hid (Nat.le_of_eq hD.symm)
    rw [hD] at huv54 hov54'
    clear hD
    obtain ⟨Cv54, hC⟩ : ∃ C, w48.heap.size = C := ⟨_, rfl⟩
    rw [hC] at O55 hlv54 hxv54 hov54' hov54
    clear hC
    clear nb53
    go_wp2_with fail
    refine (HQ.out _ _ O55.intsC).mono ?_
    rintro e w58 ⟨v60, rfl, O61, nb59⟩
    have O62 := O56.below nb59
    clear O56
    have O63 := O57.below nb59
    clear O57
    have O64 := O55.below nb59
    clear O55
    have hxx := bc.size
    have hyy := nb59.size
    have bd := below_then bc (Nat.le_refl _) nb59
    clear bc
    have bc := bd
    clear bd
    have hlv60 : Hid (∀ k, Value.ownBlock v60 = some k → w52.heap.size ≤ k) := Lib.hid (fun k hk => (O61.lt k hk).1)
    have huv60 : Hid (∀ k, Value.ownBlock v60 = some k → k < w58.heap.size) := Lib.hid (fun k hk => (O61.lt k hk).2)
    have hxv60 : Hid (w.heap.size ≤ w52.heap.size) := Lib.hid hxx
    have hov60 : Hid (Dv54 ≤ w52.heap.size) := hzz
    have hov60' : Hid (w52.heap.size ≤ w58.heap.size) := Lib.hid hyy
    clear hxx hyy hzz
    obtain ⟨Dv60, hD⟩ : ∃ D, w58.heap.size = D := ⟨_, rfl⟩
    have hzz : Hid (Dv60 ≤ w58.heap.size) := Lib.hid (Nat.le_of_eq hD.symm)
    rw [hD] at huv60 hov60'
    clear hD
    obtain ⟨Cv60, hC⟩ : ∃ C, w52.heap.size = C := ⟨_, rfl⟩
    rw [hC] at O61 hlv60 hxv60 hov60' hov60
    clear hC
    clear nb59
    clear O64
    go_wp2_with fail
    refine (eqIntS_big v60 v7 _ _ n f _ O61 O62 (by omega)).mono ?_
    rintro e w' ⟨rfl, m65, rfl⟩
    have O67 := O62.drewN m65
    clear O62
    have O68 := O63.drewN m65
    clear O63
    have O69 := O61.drewN m65
    clear O61
    have bd := below_drewN bc m65
    clear bc
    have bc := bd
    clear bd
    have hzd : Hid (Dv60 ≤ (w58.drewN m65).heap.size) := hzz
    clear hzz
    have hzz := hzd
    clear hzd
    obtain ⟨w66, hW⟩ : ∃ W, w58.drewN m65 = W := ⟨_, rfl⟩
    rw [hW] at O67 O68 O69 bc hzz ⊢
    clear hW
    clear O69
    go_wp2_with fail
    refine (heldIntS_any v17 _ n _ O68 (by omega)).mono ?_
    rintro e w' ⟨rfl, rfl⟩
    go_wp2
    go_ret
    exact ⟨rfl, bc⟩
end Go.Proofs.Ytefnabcpjggkaaa
