/- The walk of the law FnExactPilotSignal. -/
import Derived.Test.YtpcogmpnmkmoeaaPil13
import Derived.Test.YtpcogmpnmkmoeaaStrFrame
import Derived.Deep.RegionHeld3
namespace Go.Proofs.Ytpcogmpnmkmoeaa
open Go.RowKit
set_option linter.unusedVariables false
set_option maxHeartbeats 3200000 in
set_option maxRecDepth 100000 in
theorem fnExactPilotSignal_walk (c : ByteArray) (g : Int) (k0 : Int) (k1 : Int) (k2 : Int) (w : World) (hc : c.size ≤ maxLen) (_ : (Lit.int .i64 k0).wf = true) (_ : (Lit.int .i64 k1).wf = true) (_ : (Lit.int .i64 k2).wf = true) :
    Calls Try.prog 6 #[.agg #[.string c, .int .i64 g], .int .i64 k0, .int .i64 k1, .int .i64 k2] w fun e w' => e = .returned (.bool true) ∧ Below w.heap.size w w' := by
  unfold maxLen at hc
  have HS := Lib.hid (fun w => szPilot_any c g 1048576 w (by omega) (by omega) (by omega))
  have HT := Lib.hid (fun w => toPilot_any c g w)
  have hbd := szP_bd c
  obtain ⟨Z, hZ⟩ : ∃ Z, szP c 1048576 = Z := ⟨_, rfl⟩
  rw [hZ] at HS hbd
  clear hZ
  have b0 := (Below.refl w.heap.size w).alloc (Nat.le_refl _) (.cells #[.string c, .int .i64 g] 23)
  have u0 := PilAt.new w 23 c g
  by_cases hz : Z < 0
  · skip
    clear hbd u0
    go_enter Try.func6, Try.ntmps6
    go_wp2_with fail
    refine (HS.out _).mono ?_
    rintro e w1 ⟨rfl, n1⟩
    have c1 := below_then b0 (Nat.le_refl _) n1
    clear n1 b0
    go_wp2
    go_ret
    exact ⟨rfl, c1⟩
  have h1 := hbd hz
  have hp := (fun w => sPSig_any c g k0 k1 k2 w h1)
  have hq := (fun w => iPSig_any c g k0 k1 k2 w h1)
  have hn := psN_le6 c g k0 k1 k2
  obtain ⟨n, hN⟩ : ∃ n, psN c g k0 k1 k2 = n := ⟨_, rfl⟩
  obtain ⟨f, hF⟩ : ∃ f, psF c g k0 k2 = f := ⟨_, rfl⟩
  rw [hN] at hp hq hn
  rw [hF] at hp hq
  clear hN hF
  obtain ⟨ok, hO⟩ : ∃ ok, psOK c g k0 k1 k2 = ok := ⟨_, rfl⟩
  rw [hO] at hp hq
  clear hO
  have HP := Lib.hid hp
  have HQ := Lib.hid hq
  clear hp hq hbd
  cases ok
  all_goals
    go_enter Try.func6, Try.ntmps6
    go_wp2_with fail
    refine (HS.out _).mono ?_
    rintro e w1 ⟨rfl, n1⟩
    have bc := below_then b0 (Nat.le_refl _) n1
    have u := u0.below n1 (by simp)
    clear n1 b0 u0
    obtain ⟨x0, x1, x2⟩ := id u
    go_wp2_with fail
    clear x0 x1 x2
    refine (HT.out _).mono ?_
    rintro e w2 ⟨rfl, nb3⟩
    have bd := below_then bc (Nat.le_refl _) nb3
    clear bc
    have bc := bd
    clear bd
    have ud := u.below nb3 u.2.2
    clear u
    have u := ud
    clear ud
    clear nb3
    obtain ⟨x0, x1, x2⟩ := id u
    go_wp2_with fail
    clear x0 x1 x2
    refine (HP.out _).mono ?_
    rintro e w4 ⟨v6, rfl, O7, nb5⟩
    have hxx := u.2.2
    have hyy := nb5.size
    have bd := below_then bc (Nat.le_refl _) nb5
    clear bc
    have bc := bd
    clear bd
    have ud := u.below nb5 u.2.2
    clear u
    have u := ud
    clear ud
    have hlv6 : Hid (∀ k, Value.ownBlock v6 = some k → w2.heap.size ≤ k) := Lib.hid (fun k hk => (O7.lt k hk).1)
    have huv6 : Hid (∀ k, Value.ownBlock v6 = some k → k < w4.heap.size) := Lib.hid (fun k hk => (O7.lt k hk).2)
    have hxv6 : Hid (w.heap.size < w2.heap.size) := Lib.hid hxx
    have hov6' : Hid (w2.heap.size ≤ w4.heap.size) := Lib.hid hyy
    clear hxx hyy
    obtain ⟨Dv6, hD⟩ : ∃ D, w4.heap.size = D := ⟨_, rfl⟩
    have hzz : Hid (Dv6 ≤ w4.heap.size) := Lib.hid (Nat.le_of_eq hD.symm)
    rw [hD] at huv6 hov6'
    clear hD
    obtain ⟨Cv6, hC⟩ : ∃ C, w2.heap.size = C := ⟨_, rfl⟩
    rw [hC] at O7 hlv6 hxv6 hov6'
    clear hC
    clear nb5
    obtain ⟨x0, x1, x2⟩ := id u
    go_wp2_with fail
    clear x0 x1 x2
    refine (HT.out _).mono ?_
    rintro e w8 ⟨rfl, nb9⟩
    have O10 := O7.below nb9
    clear O7
    have bd := below_then bc (Nat.le_refl _) nb9
    clear bc
    have bc := bd
    clear bd
    have ud := u.below nb9 u.2.2
    clear u
    have u := ud
    clear ud
    have hzd := Lib.hid (Nat.le_trans hzz.out nb9.size)
    clear hzz
    have hzz := hzd
    clear hzd
    clear nb9
    obtain ⟨x0, x1, x2⟩ := id u
    go_wp2_with fail
    clear x0 x1 x2
    refine (HQ.out _).mono ?_
    rintro e w11 ⟨v13, rfl, O14, nb12⟩
    have O15 := O10.below nb12
    clear O10
    have hxx := u.2.2
    have hyy := nb12.size
    have bd := below_then bc (Nat.le_refl _) nb12
    clear bc
    have bc := bd
    clear bd
    have ud := u.below nb12 u.2.2
    clear u
    have u := ud
    clear ud
    have hlv13 : Hid (∀ k, Value.ownBlock v13 = some k → w8.heap.size ≤ k) := Lib.hid (fun k hk => (O14.lt k hk).1)
    have huv13 : Hid (∀ k, Value.ownBlock v13 = some k → k < w11.heap.size) := Lib.hid (fun k hk => (O14.lt k hk).2)
    have hxv13 : Hid (w.heap.size < w8.heap.size) := Lib.hid hxx
    have hov13 : Hid (Dv6 ≤ w8.heap.size) := hzz
    have hov13' : Hid (w8.heap.size ≤ w11.heap.size) := Lib.hid hyy
    clear hxx hyy hzz
    obtain ⟨Dv13, hD⟩ : ∃ D, w11.heap.size = D := ⟨_, rfl⟩
    have hzz : Hid (Dv13 ≤ w11.heap.size) := Lib.hid (Nat.le_of_eq hD.symm)
    rw [hD] at huv13 hov13'
    clear hD
    obtain ⟨Cv13, hC⟩ : ∃ C, w8.heap.size = C := ⟨_, rfl⟩
    rw [hC] at O14 hlv13 hxv13 hov13' hov13
    clear hC
    clear nb12
    go_wp2_with fail
    refine (eqIntS_big v13 v6 _ _ n f _ O14 O15 (by omega)).mono ?_
    rintro e w' ⟨rfl, m16, rfl⟩
    have O18 := O15.drewN m16
    clear O15
    have O19 := O14.drewN m16
    clear O14
    have bd := below_drewN bc m16
    clear bc
    have bc := bd
    clear bd
    have ud : PilAt (w11.drewN m16) w.heap.size c g := u
    clear u
    have u := ud
    clear ud
    have hzd : Hid (Dv13 ≤ (w11.drewN m16).heap.size) := hzz
    clear hzz
    have hzz := hzd
    clear hzd
    obtain ⟨w17, hW⟩ : ∃ W, w11.drewN m16 = W := ⟨_, rfl⟩
    rw [hW] at O18 O19 bc u hzz ⊢
    clear hW
    go_wp2_with fail
    refine (markIntS_big v13 _ n f _ O19 (by omega)).mono ?_
    rintro e w20 ⟨rfl, O22, g21⟩
    have O23 := O18.kept g21 (apart_lo (C := Cv13) (fun k hk => by have y0 := hov6'.out; have y1 := hov13.out; have y2 := hov13'.out; have := huv6.out k hk; omega) hlv13.out)
    clear O18
    have bd : Below w.heap.size w w20 := bc.grown g21 bc.size (fun k hk => by have := hlv13.out k hk; have := hxv13.out; omega)
    clear bc
    have bc := bd
    clear bd
    have ud : PilAt w20 w.heap.size c g := u.kept g21 (fun e => by have := hlv13.out _ e.symm; have := hxv13.out; omega)
    clear u
    have u := ud
    clear ud
    have hzd : Hid (Dv13 ≤ w20.heap.size) := Lib.hid (Nat.le_trans hzz.out g21.size)
    clear hzz
    have hzz := hzd
    clear hzd
    clear O19 g21
    go_wp2_with fail
    refine (heldIntS_any v13 _ n _ O22 (by omega)).mono ?_
    rintro e w' ⟨rfl, rfl⟩
    obtain ⟨x0, x1, x2⟩ := id u
    go_wp2_with fail
    clear x0 x1 x2
    refine (HT.out _).mono ?_
    rintro e w24 ⟨rfl, nb25⟩
    have O26 := O23.below nb25
    clear O23
    have O27 := O22.below nb25
    clear O22
    have bd := below_then bc (Nat.le_refl _) nb25
    clear bc
    have bc := bd
    clear bd
    have ud := u.below nb25 u.2.2
    clear u
    have u := ud
    clear ud
    have hzd := Lib.hid (Nat.le_trans hzz.out nb25.size)
    clear hzz
    have hzz := hzd
    clear hzd
    clear nb25
    obtain ⟨x0, x1, x2⟩ := id u
    go_wp2_with fail
    clear x0 x1 x2
    refine (HQ.out _).mono ?_
    rintro e w28 ⟨v30, rfl, O31, nb29⟩
    have O32 := O26.below nb29
    clear O26
    have O33 := O27.below nb29
    clear O27
    have hxx := u.2.2
    have hyy := nb29.size
    have bd := below_then bc (Nat.le_refl _) nb29
    clear bc
    have bc := bd
    clear bd
    have ud := u.below nb29 u.2.2
    clear u
    have u := ud
    clear ud
    have hlv30 : Hid (∀ k, Value.ownBlock v30 = some k → w24.heap.size ≤ k) := Lib.hid (fun k hk => (O31.lt k hk).1)
    have huv30 : Hid (∀ k, Value.ownBlock v30 = some k → k < w28.heap.size) := Lib.hid (fun k hk => (O31.lt k hk).2)
    have hxv30 : Hid (w.heap.size < w24.heap.size) := Lib.hid hxx
    have hov30 : Hid (Dv13 ≤ w24.heap.size) := hzz
    have hov30' : Hid (w24.heap.size ≤ w28.heap.size) := Lib.hid hyy
    clear hxx hyy hzz
    obtain ⟨Dv30, hD⟩ : ∃ D, w28.heap.size = D := ⟨_, rfl⟩
    have hzz : Hid (Dv30 ≤ w28.heap.size) := Lib.hid (Nat.le_of_eq hD.symm)
    rw [hD] at huv30 hov30'
    clear hD
    obtain ⟨Cv30, hC⟩ : ∃ C, w24.heap.size = C := ⟨_, rfl⟩
    rw [hC] at O31 hlv30 hxv30 hov30' hov30
    clear hC
    clear nb29
    go_wp2_with fail
    refine (eqIntS_big v30 v6 _ _ n f _ O31 O32 (by omega)).mono ?_
    rintro e w' ⟨rfl, m34, rfl⟩
    have O36 := O32.drewN m34
    clear O32
    have O37 := O33.drewN m34
    clear O33
    have O38 := O31.drewN m34
    clear O31
    have bd := below_drewN bc m34
    clear bc
    have bc := bd
    clear bd
    have ud : PilAt (w28.drewN m34) w.heap.size c g := u
    clear u
    have u := ud
    clear ud
    have hzd : Hid (Dv30 ≤ (w28.drewN m34).heap.size) := hzz
    clear hzz
    have hzz := hzd
    clear hzd
    obtain ⟨w35, hW⟩ : ∃ W, w28.drewN m34 = W := ⟨_, rfl⟩
    rw [hW] at O36 O37 O38 bc u hzz ⊢
    clear hW
    clear O38
    go_wp2_with fail
    refine (heldIntS_any v13 _ n _ O37 (by omega)).mono ?_
    rintro e w' ⟨rfl, rfl⟩
    go_wp2
    go_ret
    exact ⟨rfl, bc⟩
end Go.Proofs.Ytpcogmpnmkmoeaa
