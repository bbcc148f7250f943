/- The walk of the law FnExactRemapHops. -/
import Derived.Test.YtbllmgdnhjdphaaHop8
import Derived.Test.YtbllmgdnhjdphaaMarkFrom
import Derived.Test.YtbllmgdnhjdphaaStrFrame
namespace Go.Proofs.Ytbllmgdnhjdphaa
open Go.RowKit
set_option linter.unusedVariables false
set_option maxHeartbeats 3200000 in
set_option maxRecDepth 100000 in
theorem fnExactRemapHops_walk (a0 : Option Addr) (len0 cap0 : Nat) (z0 : Nat → Int) (k1 : Int) (a2 : Option Addr) (len2 cap2 : Nat) (z2 : Nat → Int) (w : World) (h0 : IntsIn w a0 len0 cap0 z0) (hk1 : (Lit.int .i64 k1).wf = true) (h2 : IntsIn w a2 len2 cap2 z2) :
    Calls Try.prog 12 #[.slice a0 len0 cap0, .int .i64 k1, .slice a2 len2 cap2] w fun e w' => e = .returned (.bool true) ∧ Below w.heap.size w w' := by
  obtain ⟨hl0, hz0⟩ := h0
  unfold maxLen at hl0
  have HS0 : Hid (IntsR w (.slice a0 len0 cap0) len0 z0) := Lib.hid ⟨a0, cap0, rfl, fun i hi => (hz0 i hi).2⟩
  clear hz0
  obtain ⟨hl2, hz2⟩ := h2
  unfold maxLen at hl2
  have HS2 : Hid (IntsR w (.slice a2 len2 cap2) len2 z2) := Lib.hid ⟨a2, cap2, rfl, fun i hi => (hz2 i hi).2⟩
  clear hz2
  have bc : Below w.heap.size w w := Below.refl _ _
  by_cases hg0 : 1048576 < len0
  · skip
    clear HS0
    clear HS2
    go_enter Try.func12, Try.ntmps12
    go_wp2
    go_ret
    exact ⟨rfl, bc⟩
  have lg0 : ¬ ((1048576 : Int) < (len0 : Int)) := by omega
  have hn0 : len0 ≤ 1048576 := by omega
  clear hg0
  by_cases hg2 : 1048576 < len2
  · skip
    clear HS0
    clear HS2
    go_enter Try.func12, Try.ntmps12
    go_wp2
    go_ret
    exact ⟨rfl, bc⟩
  have lg2 : ¬ ((1048576 : Int) < (len2 : Int)) := by omega
  have hn2 : len2 ≤ 1048576 := by omega
  clear hg2
  have HT0 := Lib.hid (fun v w hS => toIntS_any v len0 z0 w hS hn0)
  have HT2 := Lib.hid (fun v w hS => toIntS_any v len2 z2 w hS hn2)
  have hp := (fun v0 v2 w r0 r2 => sRemap_any v0 len0 z0 k1 v2 len2 z2 w r0 hn0 r2 hn2)
  have hq := (fun v0 v2 w r0 r2 => iRemap_any v0 len0 z0 k1 v2 len2 z2 w r0 hn0 r2 hn2)
  have hn := rmN_le6 len0 z0 k1 len2 z2
  obtain ⟨n, hN⟩ : ∃ n, rmN len0 z0 k1 len2 z2 = n := ⟨_, rfl⟩
  obtain ⟨f, hF⟩ : ∃ f, rmF z0 k1 len2 z2 = f := ⟨_, rfl⟩
  rw [hN] at hp hq hn
  rw [hF] at hp hq
  clear hN hF
  obtain ⟨ok, hO⟩ : ∃ ok, rmB len0 z0 k1 len2 z2 = ok := ⟨_, rfl⟩
  rw [hO] at hp hq
  clear hO
  have HP := Lib.hid hp
  have HQ := Lib.hid hq
  clear hp hq
  cases ok
  all_goals
    go_enter Try.func12, Try.ntmps12
    go_wp2_with fail
    refine (HT0.out _ _ (HS0.out.below bc)).mono ?_
    rintro e w1 ⟨v3, rfl, O4, nb2⟩
    have hxx := bc.size
    have hyy := nb2.size
    have bd := nb2
    clear bc
    have bc := bd
    clear bd
    have hlv3 : Hid (∀ k, Value.ownBlock v3 = some k → w.heap.size ≤ k) := Lib.hid (fun k hk => (O4.lt k hk).1)
    have huv3 : Hid (∀ k, Value.ownBlock v3 = some k → k < w1.heap.size) := Lib.hid (fun k hk => (O4.lt k hk).2)
    have hxv3 : Hid (w.heap.size ≤ w.heap.size) := Lib.hid hxx
    have hov3' : Hid (w.heap.size ≤ w1.heap.size) := Lib.hid hyy
    clear hxx hyy
    obtain ⟨Dv3, hD⟩ : ∃ D, w1.heap.size = D := ⟨_, rfl⟩
    have hzz : Hid (Dv3 ≤ w1.heap.size) := Lib.hid (Nat.le_of_eq hD.symm)
    rw [hD] at huv3 hov3'
    clear hD
    obtain ⟨Cv3, hC⟩ : ∃ C, w.heap.size = C := ⟨_, rfl⟩
    have HC0 := Lib.hid hC
    rw [hC] at O4 hlv3 hxv3 hov3'
    clear hC
    skip
    go_wp2_with fail
    refine (HT2.out _ _ (HS2.out.below bc)).mono ?_
    rintro e w5 ⟨v7, rfl, O8, nb6⟩
    have O9 := O4.below nb6
    clear O4
    have hxx := bc.size
    have hyy := nb6.size
    have bd := below_then bc (Nat.le_refl _) nb6
    clear bc
    have bc := bd
    clear bd
    have hlv7 : Hid (∀ k, Value.ownBlock v7 = some k → w1.heap.size ≤ k) := Lib.hid (fun k hk => (O8.lt k hk).1)
    have huv7 : Hid (∀ k, Value.ownBlock v7 = some k → k < w5.heap.size) := Lib.hid (fun k hk => (O8.lt k hk).2)
    have hxv7 : Hid (w.heap.size ≤ w1.heap.size) := Lib.hid hxx
    have hov7 : Hid (Dv3 ≤ w1.heap.size) := hzz
    have hov7' : Hid (w1.heap.size ≤ w5.heap.size) := Lib.hid hyy
    clear hxx hyy hzz
    obtain ⟨Dv7, hD⟩ : ∃ D, w5.heap.size = D := ⟨_, rfl⟩
    have hzz : Hid (Dv7 ≤ w5.heap.size) := Lib.hid (Nat.le_of_eq hD.symm)
    rw [hD] at huv7 hov7'
    clear hD
    obtain ⟨Cv7, hC⟩ : ∃ C, w1.heap.size = C := ⟨_, rfl⟩
    rw [hC] at O8 hlv7 hxv7 hov7' hov7
    clear hC
    clear nb6
    go_wp2_with fail
    refine (HP.out _ _ _ O9.ints O8.ints).mono ?_
    rintro e w10 ⟨v12, rfl, O13, nb11⟩
    have O14 := O9.below nb11
    clear O9
    have O15 := O8.below nb11
    clear O8
    have hxx := bc.size
    have hyy := nb11.size
    have bd := below_then bc (Nat.le_refl _) nb11
    clear bc
    have bc := bd
    clear bd
    have hlv12 : Hid (∀ k, Value.ownBlock v12 = some k → w5.heap.size ≤ k) := Lib.hid (fun k hk => (O13.lt k hk).1)
    have huv12 : Hid (∀ k, Value.ownBlock v12 = some k → k < w10.heap.size) := Lib.hid (fun k hk => (O13.lt k hk).2)
    have hxv12 : Hid (w.heap.size ≤ w5.heap.size) := Lib.hid hxx
    have hov12 : Hid (Dv7 ≤ w5.heap.size) := hzz
    have hov12' : Hid (w5.heap.size ≤ w10.heap.size) := Lib.hid hyy
    clear hxx hyy hzz
    obtain ⟨Dv12, hD⟩ : ∃ D, w10.heap.size = D := ⟨_, rfl⟩
    have hzz : Hid (Dv12 ≤ w10.heap.size) := Lib.hid (Nat.le_of_eq hD.symm)
    rw [hD] at huv12 hov12'
    clear hD
    obtain ⟨Cv12, hC⟩ : ∃ C, w5.heap.size = C := ⟨_, rfl⟩
    rw [hC] at O13 hlv12 hxv12 hov12' hov12
    clear hC
    clear nb11
    clear O14
    clear O15
    go_wp2_with fail
    refine (HT0.out _ _ (HS0.out.below bc)).mono ?_
    rintro e w16 ⟨v18, rfl, O19, nb17⟩
    have O20 := O13.below nb17
    clear O13
    have hxx := bc.size
    have hyy := nb17.size
    have bd := below_then bc (Nat.le_refl _) nb17
    clear bc
    have bc := bd
    clear bd
    have hlv18 : Hid (∀ k, Value.ownBlock v18 = some k → w10.heap.size ≤ k) := Lib.hid (fun k hk => (O19.lt k hk).1)
    have huv18 : Hid (∀ k, Value.ownBlock v18 = some k → k < w16.heap.size) := Lib.hid (fun k hk => (O19.lt k hk).2)
    have hxv18 : Hid (w.heap.size ≤ w10.heap.size) := Lib.hid hxx
    have hov18 : Hid (Dv12 ≤ w10.heap.size) := hzz
    have hov18' : Hid (w10.heap.size ≤ w16.heap.size) := Lib.hid hyy
    clear hxx hyy hzz
    obtain ⟨Dv18, hD⟩ : ∃ D, w16.heap.size = D := ⟨_, rfl⟩
    have hzz : Hid (Dv18 ≤ w16.heap.size) := Lib.hid (Nat.le_of_eq hD.symm)
    rw [hD] at huv18 hov18'
    clear hD
    obtain ⟨Cv18, hC⟩ : ∃ C, w10.heap.size = C := ⟨_, rfl⟩
    rw [hC] at O19 hlv18 hxv18 hov18' hov18
    clear hC
    clear nb17
    go_wp2_with fail
    refine (HT2.out _ _ (HS2.out.below bc)).mono ?_
    rintro e w21 ⟨v23, rfl, O24, nb22⟩
    have O25 := O20.below nb22
    clear O20
    have O26 := O19.below nb22
    clear O19
    have hxx := bc.size
    have hyy := nb22.size
    have bd := below_then bc (Nat.le_refl _) nb22
    clear bc
    have bc := bd
    clear bd
    have hlv23 : Hid (∀ k, Value.ownBlock v23 = some k → w16.heap.size ≤ k) := Lib.hid (fun k hk => (O24.lt k hk).1)
    have huv23 : Hid (∀ k, Value.ownBlock v23 = some k → k < w21.heap.size) := Lib.hid (fun k hk => (O24.lt k hk).2)
    have hxv23 : Hid (w.heap.size ≤ w16.heap.size) := Lib.hid hxx
    have hov23 : Hid (Dv18 ≤ w16.heap.size) := hzz
    have hov23' : Hid (w16.heap.size ≤ w21.heap.size) := Lib.hid hyy
    clear hxx hyy hzz
    obtain ⟨Dv23, hD⟩ : ∃ D, w21.heap.size = D := ⟨_, rfl⟩
    have hzz : Hid (Dv23 ≤ w21.heap.size) := Lib.hid (Nat.le_of_eq hD.symm)
    rw [hD] at huv23 hov23'
    clear hD
    obtain ⟨Cv23, hC⟩ : ∃ C, w16.heap.size = C := ⟨_, rfl⟩
    rw [hC] at O24 hlv23 hxv23 hov23' hov23
    clear hC
    clear nb22
    go_wp2_with fail
    refine (HQ.out _ _ _ O26.ints O24.ints).mono ?_
    rintro e w27 ⟨v29, rfl, O30, nb28⟩
    have O31 := O25.below nb28
    clear O25
    have O32 := O26.below nb28
    clear O26
    have O33 := O24.below nb28
    clear O24
    have hxx := bc.size
    have hyy := nb28.size
    have bd := below_then bc (Nat.le_refl _) nb28
    clear bc
    have bc := bd
    clear bd
    have hlv29 : Hid (∀ k, Value.ownBlock v29 = some k → w21.heap.size ≤ k) := Lib.hid (fun k hk => (O30.lt k hk).1)
    have huv29 : Hid (∀ k, Value.ownBlock v29 = some k → k < w27.heap.size) := Lib.hid (fun k hk => (O30.lt k hk).2)
    have hxv29 : Hid (w.heap.size ≤ w21.heap.size) := Lib.hid hxx
    have hov29 : Hid (Dv23 ≤ w21.heap.size) := hzz
    have hov29' : Hid (w21.heap.size ≤ w27.heap.size) := Lib.hid hyy
    clear hxx hyy hzz
    obtain ⟨Dv29, hD⟩ : ∃ D, w27.heap.size = D := ⟨_, rfl⟩
    have hzz : Hid (Dv29 ≤ w27.heap.size) := Lib.hid (Nat.le_of_eq hD.symm)
    rw [hD] at huv29 hov29'
    clear hD
    obtain ⟨Cv29, hC⟩ : ∃ C, w21.heap.size = C := ⟨_, rfl⟩
    rw [hC] at O30 hlv29 hxv29 hov29' hov29
    clear hC
    clear nb28
    go_wp2_with fail
    refine (eqIntS_big v29 v12 _ _ n f _ O30 O31 (by omega)).mono ?_
    rintro e w' ⟨rfl, m34, rfl⟩
    have O36 := O31.drewN m34
    clear O31
    have O37 := O32.drewN m34
    clear O32
    have O38 := O33.drewN m34
    clear O33
    have O39 := O30.drewN m34
    clear O30
    have bd := below_drewN bc m34
    clear bc
    have bc := bd
    clear bd
    have hzd : Hid (Dv29 ≤ (w27.drewN m34).heap.size) := hzz
    clear hzz
    have hzz := hzd
    clear hzd
    obtain ⟨w35, hW⟩ : ∃ W, w27.drewN m34 = W := ⟨_, rfl⟩
    rw [hW] at O36 O37 O38 O39 bc hzz ⊢
    clear hW
    go_wp2_with fail
    refine (HT0.out _ _ (HS0.out.below bc)).mono ?_
    rintro e w40 ⟨v42, rfl, O43, nb41⟩
    have O44 := O36.below nb41
    clear O36
    have O45 := O37.below nb41
    clear O37
    have O46 := O38.below nb41
    clear O38
    have O47 := O39.below nb41
    clear O39
    have hxx := bc.size
    have hyy := nb41.size
    have bd := below_then bc (Nat.le_refl _) nb41
    clear bc
    have bc := bd
    clear bd
    have hlv42 : Hid (∀ k, Value.ownBlock v42 = some k → w35.heap.size ≤ k) := Lib.hid (fun k hk => (O43.lt k hk).1)
    have huv42 : Hid (∀ k, Value.ownBlock v42 = some k → k < w40.heap.size) := Lib.hid (fun k hk => (O43.lt k hk).2)
    have hxv42 : Hid (w.heap.size ≤ w35.heap.size) := Lib.hid hxx
    have hov42 : Hid (Dv29 ≤ w35.heap.size) := hzz
    have hov42' : Hid (w35.heap.size ≤ w40.heap.size) := Lib.hid hyy
    clear hxx hyy hzz
    obtain ⟨Dv42, hD⟩ : ∃ D, w40.heap.size = D := ⟨_, rfl⟩
    have hzz : Hid (Dv42 ≤ w40.heap.size) := Lib.hid (Nat.le_of_eq hD.symm)
    rw [hD] at huv42 hov42'
    clear hD
    obtain ⟨Cv42, hC⟩ : ∃ C, w35.heap.size = C := ⟨_, rfl⟩
    rw [hC] at O43 hlv42 hxv42 hov42' hov42
    clear hC
    clear nb41
    go_wp2_with fail
    refine (eqIntS_big v18 v42 _ _ len0 z0 _ O45 O43 (by omega)).mono ?_
    rintro e w' ⟨rfl, m48, rfl⟩
    have O50 := O44.drewN m48
    clear O44
    have O51 := O45.drewN m48
    clear O45
    have O52 := O46.drewN m48
    clear O46
    have O53 := O47.drewN m48
    clear O47
    have O54 := O43.drewN m48
    clear O43
    have bd := below_drewN bc m48
    clear bc
    have bc := bd
    clear bd
    have hzd : Hid (Dv42 ≤ (w40.drewN m48).heap.size) := hzz
    clear hzz
    have hzz := hzd
    clear hzd
    obtain ⟨w49, hW⟩ : ∃ W, w40.drewN m48 = W := ⟨_, rfl⟩
    rw [hW] at O50 O51 O52 O53 O54 bc hzz ⊢
    clear hW
    clear O54
    go_wp2_with fail
    refine (HT2.out _ _ (HS2.out.below bc)).mono ?_
    rintro e w55 ⟨v57, rfl, O58, nb56⟩
    have O59 := O50.below nb56
    clear O50
    have O60 := O51.below nb56
    clear O51
    have O61 := O52.below nb56
    clear O52
    have O62 := O53.below nb56
    clear O53
    have hxx := bc.size
    have hyy := nb56.size
    have bd := below_then bc (Nat.le_refl _) nb56
    clear bc
    have bc := bd
    clear bd
    have hlv57 : Hid (∀ k, Value.ownBlock v57 = some k → w49.heap.size ≤ k) := Lib.hid (fun k hk => (O58.lt k hk).1)
    have huv57 : Hid (∀ k, Value.ownBlock v57 = some k → k < w55.heap.size) := Lib.hid (fun k hk => (O58.lt k hk).2)
    have hxv57 : Hid (w.heap.size ≤ w49.heap.size) := Lib.hid hxx
    have hov57 : Hid (Dv42 ≤ w49.heap.size) := hzz
    have hov57' : Hid (w49.heap.size ≤ w55.heap.size) := Lib.hid hyy
    clear hxx hyy hzz
    obtain ⟨Dv57, hD⟩ : ∃ D, w55.heap.size = D := ⟨_, rfl⟩
    have hzz : Hid (Dv57 ≤ w55.heap.size) := Lib.hid (Nat.le_of_eq hD.symm)
    rw [hD] at huv57 hov57'
    clear hD
    obtain ⟨Cv57, hC⟩ : ∃ C, w49.heap.size = C := ⟨_, rfl⟩
    rw [hC] at O58 hlv57 hxv57 hov57' hov57
    clear hC
    clear nb56
    go_wp2_with fail
    refine (eqIntS_big v23 v57 _ _ len2 z2 _ O61 O58 (by omega)).mono ?_
    rintro e w' ⟨rfl, m63, rfl⟩
    have O65 := O59.drewN m63
    clear O59
    have O66 := O60.drewN m63
    clear O60
    have O67 := O61.drewN m63
    clear O61
    have O68 := O62.drewN m63
    clear O62
    have O69 := O58.drewN m63
    clear O58
    have bd := below_drewN bc m63
    clear bc
    have bc := bd
    clear bd
    have hzd : Hid (Dv57 ≤ (w55.drewN m63).heap.size) := hzz
    clear hzz
    have hzz := hzd
    clear hzd
    obtain ⟨w64, hW⟩ : ∃ W, w55.drewN m63 = W := ⟨_, rfl⟩
    rw [hW] at O65 O66 O67 O68 O69 bc hzz ⊢
    clear hW
    clear O69
    go_wp2_with fail
    refine (markIntS_big v18 _ len0 z0 _ O66 (by omega)).mono ?_
    rintro e w70 ⟨rfl, O72, g71⟩
    have O73 := O65.kept g71 (apart_lo (C := Cv18) (fun k hk => by have y0 := hov3'.out; have y1 := hov7.out; have y2 := hov7'.out; have y3 := hov12.out; have y4 := hov12'.out; have y5 := hov18.out; have y6 := hov18'.out; have y7 := hov23.out; have y8 := hov23'.out; have y9 := hov29.out; have y10 := hov29'.out; have y11 := hov42.out; have y12 := hov42'.out; have y13 := hov57.out; have y14 := hov57'.out; have := huv12.out k hk; omega) hlv18.out)
    clear O65
    have O74 := O67.kept g71 (apart_hi (C := Dv18) (fun k hk => by have y0 := hov3'.out; have y1 := hov7.out; have y2 := hov7'.out; have y3 := hov12.out; have y4 := hov12'.out; have y5 := hov18.out; have y6 := hov18'.out; have y7 := hov23.out; have y8 := hov23'.out; have y9 := hov29.out; have y10 := hov29'.out; have y11 := hov42.out; have y12 := hov42'.out; have y13 := hov57.out; have y14 := hov57'.out; have := hlv23.out k hk; omega) huv18.out)
    clear O67
    have O75 := O68.kept g71 (apart_hi (C := Dv18) (fun k hk => by have y0 := hov3'.out; have y1 := hov7.out; have y2 := hov7'.out; have y3 := hov12.out; have y4 := hov12'.out; have y5 := hov18.out; have y6 := hov18'.out; have y7 := hov23.out; have y8 := hov23'.out; have y9 := hov29.out; have y10 := hov29'.out; have y11 := hov42.out; have y12 := hov42'.out; have y13 := hov57.out; have y14 := hov57'.out; have := hlv29.out k hk; omega) huv18.out)
    clear O68
    have bd : Below w.heap.size w w70 := bc.grown g71 bc.size (fun k hk => by have := hlv18.out k hk; have := hxv18.out; omega)
    clear bc
    have bc := bd
    clear bd
    have hzd : Hid (Dv57 ≤ w70.heap.size) := Lib.hid (Nat.le_trans hzz.out g71.size)
    clear hzz
    have hzz := hzd
    clear hzd
    clear O66 g71
    clear O72
    go_wp2_with fail
    refine (markIntS_from v23 _ len2 (1 + (len0 : Int)) z2 _ O74 (by omega) (by omega) (by omega)).mono ?_
    rintro e w76 ⟨rfl, O78, g77⟩
    have O79 := O73.kept g77 (apart_lo (C := Cv23) (fun k hk => by have y0 := hov3'.out; have y1 := hov7.out; have y2 := hov7'.out; have y3 := hov12.out; have y4 := hov12'.out; have y5 := hov18.out; have y6 := hov18'.out; have y7 := hov23.out; have y8 := hov23'.out; have y9 := hov29.out; have y10 := hov29'.out; have y11 := hov42.out; have y12 := hov42'.out; have y13 := hov57.out; have y14 := hov57'.out; have := huv12.out k hk; omega) hlv23.out)
    clear O73
    have O80 := O75.kept g77 (apart_hi (C := Dv23) (fun k hk => by have y0 := hov3'.out; have y1 := hov7.out; have y2 := hov7'.out; have y3 := hov12.out; have y4 := hov12'.out; have y5 := hov18.out; have y6 := hov18'.out; have y7 := hov23.out; have y8 := hov23'.out; have y9 := hov29.out; have y10 := hov29'.out; have y11 := hov42.out; have y12 := hov42'.out; have y13 := hov57.out; have y14 := hov57'.out; have := hlv29.out k hk; omega) huv23.out)
    clear O75
    have bd : Below w.heap.size w w76 := bc.grown g77 bc.size (fun k hk => by have := hlv23.out k hk; have := hxv23.out; omega)
    clear bc
    have bc := bd
    clear bd
    have hzd : Hid (Dv57 ≤ w76.heap.size) := Lib.hid (Nat.le_trans hzz.out g77.size)
    clear hzz
    have hzz := hzd
    clear hzd
    clear O74 g77
    clear O78
    go_wp2_with fail
    refine (eqIntS_big v29 v12 _ _ n f _ O80 O79 (by omega)).mono ?_
    rintro e w' ⟨rfl, m81, rfl⟩
    have O83 := O79.drewN m81
    clear O79
    have O84 := O80.drewN m81
    clear O80
    have bd := below_drewN bc m81
    clear bc
    have bc := bd
    clear bd
    have hzd : Hid (Dv57 ≤ (w76.drewN m81).heap.size) := hzz
    clear hzz
    have hzz := hzd
    clear hzd
    obtain ⟨w82, hW⟩ : ∃ W, w76.drewN m81 = W := ⟨_, rfl⟩
    rw [hW] at O83 O84 bc hzz ⊢
    clear hW
    go_wp2_with fail
    refine (markIntS_big v29 _ n f _ O84 (by omega)).mono ?_
    rintro e w85 ⟨rfl, O87, g86⟩
    have O88 := O83.kept g86 (apart_lo (C := Cv29) (fun k hk => by have y0 := hov3'.out; have y1 := hov7.out; have y2 := hov7'.out; have y3 := hov12.out; have y4 := hov12'.out; have y5 := hov18.out; have y6 := hov18'.out; have y7 := hov23.out; have y8 := hov23'.out; have y9 := hov29.out; have y10 := hov29'.out; have y11 := hov42.out; have y12 := hov42'.out; have y13 := hov57.out; have y14 := hov57'.out; have := huv12.out k hk; omega) hlv29.out)
    clear O83
    have bd : Below w.heap.size w w85 := bc.grown g86 bc.size (fun k hk => by have := hlv29.out k hk; have := hxv29.out; omega)
    clear bc
    have bc := bd
    clear bd
    have hzd : Hid (Dv57 ≤ w85.heap.size) := Lib.hid (Nat.le_trans hzz.out g86.size)
    clear hzz
    have hzz := hzd
    clear hzd
    clear O84 g86
    go_wp2_with fail
    refine (heldIntS_any v29 _ n _ O87 (by omega)).mono ?_
    rintro e w' ⟨rfl, rfl⟩
    go_wp2_with fail
    refine (HT0.out _ _ (HS0.out.below bc)).mono ?_
    rintro e w89 ⟨v91, rfl, O92, nb90⟩
    have O93 := O88.below nb90
    clear O88
    have O94 := O87.below nb90
    clear O87
    have hxx := bc.size
    have hyy := nb90.size
    have bd := below_then bc (Nat.le_refl _) nb90
    clear bc
    have bc := bd
    clear bd
    have hlv91 : Hid (∀ k, Value.ownBlock v91 = some k → w85.heap.size ≤ k) := Lib.hid (fun k hk => (O92.lt k hk).1)
    have huv91 : Hid (∀ k, Value.ownBlock v91 = some k → k < w89.heap.size) := Lib.hid (fun k hk => (O92.lt k hk).2)
    have hxv91 : Hid (w.heap.size ≤ w85.heap.size) := Lib.hid hxx
    have hov91 : Hid (Dv57 ≤ w85.heap.size) := hzz
    have hov91' : Hid (w85.heap.size ≤ w89.heap.size) := Lib.hid hyy
    clear hxx hyy hzz
    obtain ⟨Dv91, hD⟩ : ∃ D, w89.heap.size = D := ⟨_, rfl⟩
    have hzz : Hid (Dv91 ≤ w89.heap.size) := Lib.hid (Nat.le_of_eq hD.symm)
    rw [hD] at huv91 hov91'
    clear hD
    obtain ⟨Cv91, hC⟩ : ∃ C, w85.heap.size = C := ⟨_, rfl⟩
    rw [hC] at O92 hlv91 hxv91 hov91' hov91
    clear hC
    clear nb90
    go_wp2_with fail
    refine (HT2.out _ _ (HS2.out.below bc)).mono ?_
    rintro e w95 ⟨v97, rfl, O98, nb96⟩
    have O99 := O93.below nb96
    clear O93
    have O100 := O94.below nb96
    clear O94
    have O101 := O92.below nb96
    clear O92
    have hxx := bc.size
    have hyy := nb96.size
    have bd := below_then bc (Nat.le_refl _) nb96
    clear bc
    have bc := bd
    clear bd
    have hlv97 : Hid (∀ k, Value.ownBlock v97 = some k → w89.heap.size ≤ k) := Lib.hid (fun k hk => (O98.lt k hk).1)
    have huv97 : Hid (∀ k, Value.ownBlock v97 = some k → k < w95.heap.size) := Lib.hid (fun k hk => (O98.lt k hk).2)
    have hxv97 : Hid (w.heap.size ≤ w89.heap.size) := Lib.hid hxx
    have hov97 : Hid (Dv91 ≤ w89.heap.size) := hzz
    have hov97' : Hid (w89.heap.size ≤ w95.heap.size) := Lib.hid hyy
    clear hxx hyy hzz
    obtain ⟨Dv97, hD⟩ : ∃ D, w95.heap.size = D := ⟨_, rfl⟩
    have hzz : Hid (Dv97 ≤ w95.heap.size) := Lib.hid (Nat.le_of_eq hD.symm)
    rw [hD] at huv97 hov97'
    clear hD
    obtain ⟨Cv97, hC⟩ : ∃ C, w89.heap.size = C := ⟨_, rfl⟩
    rw [hC] at O98 hlv97 hxv97 hov97' hov97
    clear hC
    clear nb96
    go_wp2_with fail
    refine (HQ.out _ _ _ O101.ints O98.ints).mono ?_
    rintro e w102 ⟨v104, rfl, O105, nb103⟩
    have O106 := O99.below nb103
    clear O99
    have O107 := O100.below nb103
    clear O100
    have O108 := O101.below nb103
    clear O101
    have O109 := O98.below nb103
    clear O98
    have hxx := bc.size
    have hyy := nb103.size
    have bd := below_then bc (Nat.le_refl _) nb103
    clear bc
    have bc := bd
    clear bd
    have hlv104 : Hid (∀ k, Value.ownBlock v104 = some k → w95.heap.size ≤ k) := Lib.hid (fun k hk => (O105.lt k hk).1)
    have huv104 : Hid (∀ k, Value.ownBlock v104 = some k → k < w102.heap.size) := Lib.hid (fun k hk => (O105.lt k hk).2)
    have hxv104 : Hid (w.heap.size ≤ w95.heap.size) := Lib.hid hxx
    have hov104 : Hid (Dv97 ≤ w95.heap.size) := hzz
    have hov104' : Hid (w95.heap.size ≤ w102.heap.size) := Lib.hid hyy
    clear hxx hyy hzz
    obtain ⟨Dv104, hD⟩ : ∃ D, w102.heap.size = D := ⟨_, rfl⟩
    have hzz : Hid (Dv104 ≤ w102.heap.size) := Lib.hid (Nat.le_of_eq hD.symm)
    rw [hD] at huv104 hov104'
    clear hD
    obtain ⟨Cv104, hC⟩ : ∃ C, w95.heap.size = C := ⟨_, rfl⟩
    rw [hC] at O105 hlv104 hxv104 hov104' hov104
    clear hC
    clear nb103
    clear O108
    clear O109
    go_wp2_with fail
    refine (eqIntS_big v104 v12 _ _ n f _ O105 O106 (by omega)).mono ?_
    rintro e w' ⟨rfl, m110, rfl⟩
    have O112 := O106.drewN m110
    clear O106
    have O113 := O107.drewN m110
    clear O107
    have O114 := O105.drewN m110
    clear O105
    have bd := below_drewN bc m110
    clear bc
    have bc := bd
    clear bd
    have hzd : Hid (Dv104 ≤ (w102.drewN m110).heap.size) := hzz
    clear hzz
    have hzz := hzd
    clear hzd
    obtain ⟨w111, hW⟩ : ∃ W, w102.drewN m110 = W := ⟨_, rfl⟩
    rw [hW] at O112 O113 O114 bc hzz ⊢
    clear hW
    clear O114
    go_wp2_with fail
    refine (heldIntS_any v29 _ n _ O113 (by omega)).mono ?_
    rintro e w' ⟨rfl, rfl⟩
    go_wp2
    go_ret
    exact ⟨rfl, bc⟩
end Go.Proofs.Ytbllmgdnhjdphaa
