/- The walk of the law FnExactAdmitStation. -/
import Derived.Test.YtjnipbopimpggaaCelAdm
import Derived.Test.YtjnipbopimpggaaStn2
import Derived.Test.YtjnipbopimpggaaUsrFrame
namespace Go.Proofs.Ytjnipbopimpggaa
open Go.RowKit
set_option linter.unusedVariables false
set_option maxHeartbeats 3200000 in
set_option maxRecDepth 100000 in
theorem fnExactAdmitStation_walk (a0 : Option Addr) (len0 cap0 : Nat) (z0 : Nat → Usr) (s1 : ByteArray) (k2 : Int) (k3 : Int) (w : World) (h0 : UsrsIn w a0 len0 cap0 z0) (h1 : s1.size ≤ maxLen) (hk2 : (Lit.int .i64 k2).wf = true) (hk3 : (Lit.int .i64 k3).wf = true) :
    Calls Try.prog 9 #[.slice a0 len0 cap0, .string s1, .int .i64 k2, .int .i64 k3] w fun e w' => e = .returned (.bool true) ∧ Below w.heap.size w w' := by
  unfold UsrsIn at h0
  obtain ⟨hr0, hl0, hs0⟩ := h0
  unfold maxLen at hl0 hs0
  have HS0 := Lib.hid hr0
  have HW0 := Lib.hid hs0
  clear hr0 hs0
  unfold maxLen at h1
  have bc : Below w.heap.size w w := Below.refl _ _
  by_cases hg1 : 1048576 < s1.size
  · skip
    clear HS0
    go_enter Try.func9, Try.ntmps9
    go_wp2
    go_ret
    exact ⟨rfl, bc⟩
  have lg1 : ¬ ((1048576 : Int) < (s1.size : Int)) := by omega
  have hn1 : s1.size ≤ 1048576 := by omega
  clear hg1
  have hsz := szStationS_any (.slice a0 len0 cap0) len0 z0 w HS0.out (by omega) (fun i hi => by have := HW0.out i hi; omega)
  go_enter Try.func9, Try.ntmps9
  go_wp2_with fail
  refine hsz.mono ?_
  rintro e w0 ⟨Z, rfl, hZ, nb0⟩
  clear hsz HW0
  have bd := nb0
  clear bc
  have bc := bd
  clear bd nb0
  by_cases hZ0 : Z < 0
  · clear hZ
    go_wp2
    go_ret
    exact ⟨rfl, bc⟩
  obtain ⟨hn0, hf0⟩ := hZ (by omega)
  clear hZ
  have HT0 := Lib.hid (fun v w hS => toStationS_any v len0 z0 w hS hn0)
  have hp := (fun v0 w r0 => sAdm_any v0 len0 z0 s1 k2 k3 w r0 hn0 hf0 hn1)
  have hq := (fun v0 w r0 => iAdm_any v0 len0 z0 s1 k2 k3 w r0 hn0 hf0 hn1)
  have hn := adN_le (n := len0) (f := z0) (z := s1) (D := k2) (L := k3)
  obtain ⟨n, hN⟩ : ∃ n, adN len0 z0 s1 k2 k3 = n := ⟨_, rfl⟩
  obtain ⟨f, hF⟩ : ∃ f, adF len0 z0 s1 k2 k3 = f := ⟨_, rfl⟩
  rw [hN] at hp hq hn
  rw [hF] at hp hq
  clear hN hF
  obtain ⟨ok, hO⟩ : ∃ ok, adB len0 z0 s1 k2 k3 = ok := ⟨_, rfl⟩
  rw [hO] at hp hq
  clear hO
  have HP := Lib.hid hp
  have HQ := Lib.hid hq
  clear hp hq hf0
  cases ok
  all_goals
    go_wp2_with fail
    refine (HT0.out _ _ (HS0.out.below bc)).mono ?_
    rintro e w1 ⟨v3, rfl, O4, nb2⟩
    have hxx := bc.size
    have hyy := nb2.size
    have bd := below_then bc (Nat.le_refl _) nb2
    clear bc
    have bc := bd
    clear bd
    have hlv3 : Hid (∀ k, Value.ownBlock v3 = some k → w0.heap.size ≤ k) := Lib.hid (fun k hk => (O4.lt k hk).1)
    have huv3 : Hid (∀ k, Value.ownBlock v3 = some k → k < w1.heap.size) := Lib.hid (fun k hk => (O4.lt k hk).2)
    have hxv3 : Hid (w.heap.size ≤ w0.heap.size) := Lib.hid hxx
    have hov3' : Hid (w0.heap.size ≤ w1.heap.size) := Lib.hid hyy
    clear hxx hyy
    obtain ⟨Dv3, hD⟩ : ∃ D, w1.heap.size = D := ⟨_, rfl⟩
    have hzz : Hid (Dv3 ≤ w1.heap.size) := Lib.hid (Nat.le_of_eq hD.symm)
    rw [hD] at huv3 hov3'
    clear hD
    obtain ⟨Cv3, hC⟩ : ∃ C, w0.heap.size = C := ⟨_, rfl⟩
    rw [hC] at O4 hlv3 hxv3 hov3'
    clear hC
    clear nb2
    go_wp2_with fail
    refine (HP.out _ _ O4.stationsC).mono ?_
    rintro e w5 ⟨v7, rfl, O8, nb6⟩
    have O9 := O4.below nb6
    clear O4
    have hxx := bc.size
    have hyy := nb6.size
    have bd := below_then bc (Nat.le_refl _) nb6
    clear bc
    have bc := bd
    clear bd
    have hlv7 : Hid (∀ k, Value.ownBlock v7 = some k → w1.heap.size ≤ k) := Lib.hid (fun k hk => (O8.lt k hk).1)
    have huv7 : Hid (∀ k, Value.ownBlock v7 = some k → k < w5.heap.size) := Lib.hid (fun k hk => (O8.lt k hk).2)
    have hxv7 : Hid (w.heap.size ≤ w1.heap.size) := Lib.hid hxx
    have hov7 : Hid (Dv3 ≤ w1.heap.size) := hzz
    have hov7' : Hid (w1.heap.size ≤ w5.heap.size) := Lib.hid hyy
    clear hxx hyy hzz
    obtain ⟨Dv7, hD⟩ : ∃ D, w5.heap.size = D := ⟨_, rfl⟩
    have hzz : Hid (Dv7 ≤ w5.heap.size) := Lib.hid (Nat.le_of_eq hD.symm)
    rw [hD] at huv7 hov7'
    clear hD
    obtain ⟨Cv7, hC⟩ : ∃ C, w1.heap.size = C := ⟨_, rfl⟩
    rw [hC] at O8 hlv7 hxv7 hov7' hov7
    clear hC
    clear nb6
    clear O9
    go_wp2_with fail
    refine (HT0.out _ _ (HS0.out.below bc)).mono ?_
    rintro e w10 ⟨v12, rfl, O13, nb11⟩
    have O14 := O8.below nb11
    clear O8
    have hxx := bc.size
    have hyy := nb11.size
    have bd := below_then bc (Nat.le_refl _) nb11
    clear bc
    have bc := bd
    clear bd
    have hlv12 : Hid (∀ k, Value.ownBlock v12 = some k → w5.heap.size ≤ k) := Lib.hid (fun k hk => (O13.lt k hk).1)
    have huv12 : Hid (∀ k, Value.ownBlock v12 = some k → k < w10.heap.size) := Lib.hid (fun k hk => (O13.lt k hk).2)
    have hxv12 : Hid (w.heap.size ≤ w5.heap.size) := Lib.hid hxx
    have hov12 : Hid (Dv7 ≤ w5.heap.size) := hzz
    have hov12' : Hid (w5.heap.size ≤ w10.heap.size) := Lib.hid hyy
    clear hxx hyy hzz
    obtain ⟨Dv12, hD⟩ : ∃ D, w10.heap.size = D := ⟨_, rfl⟩
    have hzz : Hid (Dv12 ≤ w10.heap.size) := Lib.hid (Nat.le_of_eq hD.symm)
    rw [hD] at huv12 hov12'
    clear hD
    obtain ⟨Cv12, hC⟩ : ∃ C, w5.heap.size = C := ⟨_, rfl⟩
    rw [hC] at O13 hlv12 hxv12 hov12' hov12
    clear hC
    clear nb11
    go_wp2_with fail
    refine (HQ.out _ _ O13.stationsC).mono ?_
    rintro e w15 ⟨v17, rfl, O18, nb16⟩
    have O19 := O14.below nb16
    clear O14
    have O20 := O13.below nb16
    clear O13
    have hxx := bc.size
    have hyy := nb16.size
    have bd := below_then bc (Nat.le_refl _) nb16
    clear bc
    have bc := bd
    clear bd
    have hlv17 : Hid (∀ k, Value.ownBlock v17 = some k → w10.heap.size ≤ k) := Lib.hid (fun k hk => (O18.lt k hk).1)
    have huv17 : Hid (∀ k, Value.ownBlock v17 = some k → k < w15.heap.size) := Lib.hid (fun k hk => (O18.lt k hk).2)
    have hxv17 : Hid (w.heap.size ≤ w10.heap.size) := Lib.hid hxx
    have hov17 : Hid (Dv12 ≤ w10.heap.size) := hzz
    have hov17' : Hid (w10.heap.size ≤ w15.heap.size) := Lib.hid hyy
    clear hxx hyy hzz
    obtain ⟨Dv17, hD⟩ : ∃ D, w15.heap.size = D := ⟨_, rfl⟩
    have hzz : Hid (Dv17 ≤ w15.heap.size) := Lib.hid (Nat.le_of_eq hD.symm)
    rw [hD] at huv17 hov17'
    clear hD
    obtain ⟨Cv17, hC⟩ : ∃ C, w10.heap.size = C := ⟨_, rfl⟩
    rw [hC] at O18 hlv17 hxv17 hov17' hov17
    clear hC
    clear nb16
    go_wp2_with fail
    refine (eqStationS_same v17 v7 n f _ O18.stations O19.stations (by omega)).mono ?_
    rintro e w21 ⟨rfl, nb22⟩
    have O23 := O19.below nb22
    clear O19
    have O24 := O20.below nb22
    clear O20
    have O25 := O18.below nb22
    clear O18
    have bd := below_then bc (Nat.le_refl _) nb22
    clear bc
    have bc := bd
    clear bd
    have hzd := Lib.hid (Nat.le_trans hzz.out nb22.size)
    clear hzz
    have hzz := hzd
    clear hzd
    clear nb22
    go_wp2_with fail
    refine (HT0.out _ _ (HS0.out.below bc)).mono ?_
    rintro e w26 ⟨v28, rfl, O29, nb27⟩
    have O30 := O23.below nb27
    clear O23
    have O31 := O24.below nb27
    clear O24
    have O32 := O25.below nb27
    clear O25
    have hxx := bc.size
    have hyy := nb27.size
    have bd := below_then bc (Nat.le_refl _) nb27
    clear bc
    have bc := bd
    clear bd
    have hlv28 : Hid (∀ k, Value.ownBlock v28 = some k → w21.heap.size ≤ k) := Lib.hid (fun k hk => (O29.lt k hk).1)
    have huv28 : Hid (∀ k, Value.ownBlock v28 = some k → k < w26.heap.size) := Lib.hid (fun k hk => (O29.lt k hk).2)
    have hxv28 : Hid (w.heap.size ≤ w21.heap.size) := Lib.hid hxx
    have hov28 : Hid (Dv17 ≤ w21.heap.size) := hzz
    have hov28' : Hid (w21.heap.size ≤ w26.heap.size) := Lib.hid hyy
    clear hxx hyy hzz
    obtain ⟨Dv28, hD⟩ : ∃ D, w26.heap.size = D := ⟨_, rfl⟩
    have hzz : Hid (Dv28 ≤ w26.heap.size) := Lib.hid (Nat.le_of_eq hD.symm)
    rw [hD] at huv28 hov28'
    clear hD
    obtain ⟨Cv28, hC⟩ : ∃ C, w21.heap.size = C := ⟨_, rfl⟩
    rw [hC] at O29 hlv28 hxv28 hov28' hov28
    clear hC
    clear nb27
    go_wp2_with fail
    refine (eqStationS_same v12 v28 len0 z0 _ O31.stations O29.stations (by omega)).mono ?_
    rintro e w33 ⟨rfl, nb34⟩
    have O35 := O30.below nb34
    clear O30
    have O36 := O31.below nb34
    clear O31
    have O37 := O32.below nb34
    clear O32
    have O38 := O29.below nb34
    clear O29
    have bd := below_then bc (Nat.le_refl _) nb34
    clear bc
    have bc := bd
    clear bd
    have hzd := Lib.hid (Nat.le_trans hzz.out nb34.size)
    clear hzz
    have hzz := hzd
    clear hzd
    clear nb34
    clear O38
    go_wp2_with fail
    refine (markStationS_any v12 _ len0 z0 _ O36 (by omega)).mono ?_
    rintro e w39 ⟨rfl, O41, g40⟩
    have O42 := O35.kept g40 (apart_lo (C := Cv12) (fun k hk => by have y0 := hov3'.out; have y1 := hov7.out; have y2 := hov7'.out; have y3 := hov12.out; have y4 := hov12'.out; have y5 := hov17.out; have y6 := hov17'.out; have y7 := hov28.out; have y8 := hov28'.out; have := huv7.out k hk; omega) hlv12.out)
    clear O35
    have O43 := O37.kept g40 (apart_hi (C := Dv12) (fun k hk => by have y0 := hov3'.out; have y1 := hov7.out; have y2 := hov7'.out; have y3 := hov12.out; have y4 := hov12'.out; have y5 := hov17.out; have y6 := hov17'.out; have y7 := hov28.out; have y8 := hov28'.out; have := hlv17.out k hk; omega) huv12.out)
    clear O37
    have bd : Below w.heap.size w w39 := bc.grown g40 bc.size (fun k hk => by have := hlv12.out k hk; have := hxv12.out; omega)
    clear bc
    have bc := bd
    clear bd
    have hzd : Hid (Dv28 ≤ w39.heap.size) := Lib.hid (Nat.le_trans hzz.out g40.size)
    clear hzz
    have hzz := hzd
    clear hzd
    clear O36 g40
    clear O41
    go_wp2_with fail
    refine (eqStationS_same v17 v7 n f _ O43.stations O42.stations (by omega)).mono ?_
    rintro e w44 ⟨rfl, nb45⟩
    have O46 := O42.below nb45
    clear O42
    have O47 := O43.below nb45
    clear O43
    have bd := below_then bc (Nat.le_refl _) nb45
    clear bc
    have bc := bd
    clear bd
    have hzd := Lib.hid (Nat.le_trans hzz.out nb45.size)
    clear hzz
    have hzz := hzd
    clear hzd
    clear nb45
    go_wp2_with fail
    refine (markStationS_any v17 _ n f _ O47 (by omega)).mono ?_
    rintro e w48 ⟨rfl, O50, g49⟩
    have O51 := O46.kept g49 (apart_lo (C := Cv17) (fun k hk => by have y0 := hov3'.out; have y1 := hov7.out; have y2 := hov7'.out; have y3 := hov12.out; have y4 := hov12'.out; have y5 := hov17.out; have y6 := hov17'.out; have y7 := hov28.out; have y8 := hov28'.out; have := huv7.out k hk; omega) hlv17.out)
    clear O46
    have bd : Below w.heap.size w w48 := bc.grown g49 bc.size (fun k hk => by have := hlv17.out k hk; have := hxv17.out; omega)
    clear bc
    have bc := bd
    clear bd
    have hzd : Hid (Dv28 ≤ w48.heap.size) := Lib.hid (Nat.le_trans hzz.out g49.size)
    clear hzz
    have hzz := hzd
    clear hzd
    clear O47 g49
    go_wp2_with fail
    refine (heldStationS_any v17 _ n _ O50 (by omega)).mono ?_
    rintro e w52 ⟨rfl, nb53⟩
    have O54 := O51.below nb53
    clear O51
    have O55 := O50.below nb53
    clear O50
    have bd := below_then bc (Nat.le_refl _) nb53
    clear bc
    have bc := bd
    clear bd
    have hzd := Lib.hid (Nat.le_trans hzz.out nb53.size)
    clear hzz
    have hzz := hzd
    clear hzd
    clear nb53
    go_wp2_with fail
    refine (HT0.out _ _ (HS0.out.below bc)).mono ?_
    rintro e w56 ⟨v58, rfl, O59, nb57⟩
    have O60 := O54.below nb57
    clear O54
    have O61 := O55.below nb57
    clear O55
    have hxx := bc.size
    have hyy := nb57.size
    have bd := below_then bc (Nat.le_refl _) nb57
    clear bc
    have bc := bd
    clear bd
    have hlv58 : Hid (∀ k, Value.ownBlock v58 = some k → w52.heap.size ≤ k) := Lib.hid (fun k hk => (O59.lt k hk).1)
    have huv58 : Hid (∀ k, Value.ownBlock v58 = some k → k < w56.heap.size) := Lib.hid (fun k hk => (O59.lt k hk).2)
    have hxv58 : Hid (w.heap.size ≤ w52.heap.size) := Lib.hid hxx
    have hov58 : Hid (Dv28 ≤ w52.heap.size) := hzz
    have hov58' : Hid (w52.heap.size ≤ w56.heap.size) := Lib.hid hyy
    clear hxx hyy hzz
    obtain ⟨Dv58, hD⟩ : ∃ D, w56.heap.size = D := ⟨_, rfl⟩
    have hzz : Hid (Dv58 ≤ w56.heap.size) := Lib.hid (Nat.le_of_eq hD.symm)
    rw [hD] at huv58 hov58'
    clear hD
    obtain ⟨Cv58, hC⟩ : ∃ C, w52.heap.size = C := ⟨_, rfl⟩
    rw [hC] at O59 hlv58 hxv58 hov58' hov58
    clear hC
    clear nb57
    go_wp2_with fail
    refine (HQ.out _ _ O59.stationsC).mono ?_
    rintro e w62 ⟨v64, rfl, O65, nb63⟩
    have O66 := O60.below nb63
    clear O60
    have O67 := O61.below nb63
    clear O61
    have O68 := O59.below nb63
    clear O59
    have hxx := bc.size
    have hyy := nb63.size
    have bd := below_then bc (Nat.le_refl _) nb63
    clear bc
    have bc := bd
    clear bd
    have hlv64 : Hid (∀ k, Value.ownBlock v64 = some k → w56.heap.size ≤ k) := Lib.hid (fun k hk => (O65.lt k hk).1)
    have huv64 : Hid (∀ k, Value.ownBlock v64 = some k → k < w62.heap.size) := Lib.hid (fun k hk => (O65.lt k hk).2)
    have hxv64 : Hid (w.heap.size ≤ w56.heap.size) := Lib.hid hxx
    have hov64 : Hid (Dv58 ≤ w56.heap.size) := hzz
    have hov64' : Hid (w56.heap.size ≤ w62.heap.size) := Lib.hid hyy
    clear hxx hyy hzz
    obtain ⟨Dv64, hD⟩ : ∃ D, w62.heap.size = D := ⟨_, rfl⟩
    have hzz : Hid (Dv64 ≤ w62.heap.size) := Lib.hid (Nat.le_of_eq hD.symm)
    rw [hD] at huv64 hov64'
    clear hD
    obtain ⟨Cv64, hC⟩ : ∃ C, w56.heap.size = C := ⟨_, rfl⟩
    rw [hC] at O65 hlv64 hxv64 hov64' hov64
    clear hC
    clear nb63
    clear O68
    go_wp2_with fail
    refine (eqStationS_same v64 v7 n f _ O65.stations O66.stations (by omega)).mono ?_
    rintro e w69 ⟨rfl, nb70⟩
    have O71 := O66.below nb70
    clear O66
    have O72 := O67.below nb70
    clear O67
    have O73 := O65.below nb70
    clear O65
    have bd := below_then bc (Nat.le_refl _) nb70
    clear bc
    have bc := bd
    clear bd
    have hzd := Lib.hid (Nat.le_trans hzz.out nb70.size)
    clear hzz
    have hzz := hzd
    clear hzd
    clear nb70
    clear O73
    go_wp2_with fail
    refine (heldStationS_any v17 _ n _ O72 (by omega)).mono ?_
    rintro e w74 ⟨rfl, nb75⟩
    have O76 := O71.below nb75
    clear O71
    have O77 := O72.below nb75
    clear O72
    have bd := below_then bc (Nat.le_refl _) nb75
    clear bc
    have bc := bd
    clear bd
    have hzd := Lib.hid (Nat.le_trans hzz.out nb75.size)
    clear hzz
    have hzz := hzd
    clear hzd
    clear nb75
    go_wp2
    go_ret
    exact ⟨rfl, bc⟩
end Go.Proofs.Ytjnipbopimpggaa
