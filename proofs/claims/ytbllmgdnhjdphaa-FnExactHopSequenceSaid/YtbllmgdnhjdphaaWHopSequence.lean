/- The walk of the law FnExactHopSequence. -/
import Derived.Test.YtbllmgdnhjdphaaHop9
namespace Go.Proofs.Ytbllmgdnhjdphaa
open Go.RowKit
set_option linter.unusedVariables false
set_option maxHeartbeats 3200000 in
set_option maxRecDepth 100000 in
theorem fnExactHopSequence_walk (S0 T0 X0 : Int) (k1 : Int) (k2 : Int) (w : World) (hS0 : (Lit.int .i64 S0).wf = true) (hT0 : (Lit.int .i64 T0).wf = true) (hX0 : (Lit.int .i64 X0).wf = true) (hk1 : (Lit.int .i64 k1).wf = true) (hk2 : (Lit.int .i64 k2).wf = true) :
    Calls Try.prog 7 #[.agg #[.int .i64 S0, .int .i64 T0, .int .i64 X0], .int .i64 k1, .int .i64 k2] w fun e w' => e = .returned (.bool true) ∧ Below w.heap.size w w' := by
  have bc : Below w.heap.size w w := Below.refl _ _
  have hp := (fun w => sSeq_any S0 T0 X0 k1 k2 w)
  have hq := (fun w => iSeq_any S0 T0 X0 k1 k2 w)
  have hn := hsN_le6 S0 T0 X0 k1 k2
  obtain ⟨n, hN⟩ : ∃ n, hsN S0 T0 X0 k1 k2 = n := ⟨_, rfl⟩
  obtain ⟨f, hF⟩ : ∃ f, hsF S0 T0 X0 k1 = f := ⟨_, rfl⟩
  rw [hN] at hp hq hn
  rw [hF] at hp hq
  clear hN hF
  obtain ⟨ok, hO⟩ : ∃ ok, hsB S0 T0 X0 k1 k2 = ok := ⟨_, rfl⟩
  rw [hO] at hp hq
  clear hO
  have HP := Lib.hid hp
  have HQ := Lib.hid hq
  clear hp hq
  cases ok
  all_goals
    have bd := bc.alloc (Nat.le_refl _) (.cells #[.int .i64 S0, .int .i64 T0, .int .i64 X0] 34)
    clear bc
    have bc := bd
    clear bd
    have u := RegAt.new w 34 S0 T0 X0
    obtain ⟨W0, hW0⟩ : ∃ W, w.alloc (.cells #[.int .i64 S0, .int .i64 T0, .int .i64 X0] 34) = W := ⟨_, rfl⟩
    rw [hW0] at bc u
    have HW0 := Lib.hid hW0
    clear hW0
    go_enter Try.func7, Try.ntmps7
    obtain ⟨x0, x1, x2, x3⟩ := id u
    go_wp2_with fail
    rw [HW0.out]
    clear x0 x1 x2 x3
    refine (toRegister_any S0 T0 X0 _).mono ?_
    rintro e w1 ⟨rfl, nb2⟩
    have ud := u.below nb2 u.2.2.2
    clear u
    have u := ud
    clear ud
    have bd := below_then bc (Nat.le_refl _) nb2
    clear bc
    have bc := bd
    clear bd
    clear nb2
    obtain ⟨x0, x1, x2, x3⟩ := id u
    go_wp2_with fail
    clear x0 x1 x2 x3
    refine (HP.out _).mono ?_
    rintro e w3 ⟨v5, rfl, O6, nb4⟩
    have hxx := Nat.le_of_lt u.2.2.2
    have hyy := nb4.size
    have hxsv5 := Lib.hid u.2.2.2
    have ud := u.below nb4 u.2.2.2
    clear u
    have u := ud
    clear ud
    have bd := below_then bc (Nat.le_refl _) nb4
    clear bc
    have bc := bd
    clear bd
    have hlv5 : Hid (∀ k, Value.ownBlock v5 = some k → w1.heap.size ≤ k) := Lib.hid (fun k hk => (O6.lt k hk).1)
    have huv5 : Hid (∀ k, Value.ownBlock v5 = some k → k < w3.heap.size) := Lib.hid (fun k hk => (O6.lt k hk).2)
    have hxv5 : Hid (w.heap.size ≤ w1.heap.size) := Lib.hid hxx
    have hov5' : Hid (w1.heap.size ≤ w3.heap.size) := Lib.hid hyy
    clear hxx hyy
    obtain ⟨Dv5, hD⟩ : ∃ D, w3.heap.size = D := ⟨_, rfl⟩
    have hzz : Hid (Dv5 ≤ w3.heap.size) := Lib.hid (Nat.le_of_eq hD.symm)
    rw [hD] at huv5 hov5'
    clear hD
    obtain ⟨Cv5, hC⟩ : ∃ C, w1.heap.size = C := ⟨_, rfl⟩
    rw [hC] at O6 hlv5 hxv5 hov5' hxsv5
    clear hC
    clear nb4
    obtain ⟨x0, x1, x2, x3⟩ := id u
    go_wp2_with fail
    clear x0 x1 x2 x3
    refine (toRegister_any S0 T0 X0 _).mono ?_
    rintro e w7 ⟨rfl, nb8⟩
    have O9 := O6.below nb8
    clear O6
    have ud := u.below nb8 u.2.2.2
    clear u
    have u := ud
    clear ud
    have bd := below_then bc (Nat.le_refl _) nb8
    clear bc
    have bc := bd
    clear bd
    have hzd := Lib.hid (Nat.le_trans hzz.out nb8.size)
    clear hzz
    have hzz := hzd
    clear hzd
    clear nb8
    obtain ⟨x0, x1, x2, x3⟩ := id u
    go_wp2_with fail
    clear x0 x1 x2 x3
    refine (HQ.out _).mono ?_
    rintro e w10 ⟨v12, rfl, O13, nb11⟩
    have O14 := O9.below nb11
    clear O9
    have hxx := Nat.le_of_lt u.2.2.2
    have hyy := nb11.size
    have hxsv12 := Lib.hid u.2.2.2
    have ud := u.below nb11 u.2.2.2
    clear u
    have u := ud
    clear ud
    have bd := below_then bc (Nat.le_refl _) nb11
    clear bc
    have bc := bd
    clear bd
    have hlv12 : Hid (∀ k, Value.ownBlock v12 = some k → w7.heap.size ≤ k) := Lib.hid (fun k hk => (O13.lt k hk).1)
    have huv12 : Hid (∀ k, Value.ownBlock v12 = some k → k < w10.heap.size) := Lib.hid (fun k hk => (O13.lt k hk).2)
    have hxv12 : Hid (w.heap.size ≤ w7.heap.size) := Lib.hid hxx
    have hov12 : Hid (Dv5 ≤ w7.heap.size) := hzz
    have hov12' : Hid (w7.heap.size ≤ w10.heap.size) := Lib.hid hyy
    clear hxx hyy hzz
    obtain ⟨Dv12, hD⟩ : ∃ D, w10.heap.size = D := ⟨_, rfl⟩
    have hzz : Hid (Dv12 ≤ w10.heap.size) := Lib.hid (Nat.le_of_eq hD.symm)
    rw [hD] at huv12 hov12'
    clear hD
    obtain ⟨Cv12, hC⟩ : ∃ C, w7.heap.size = C := ⟨_, rfl⟩
    rw [hC] at O13 hlv12 hxv12 hov12' hov12 hxsv12
    clear hC
    clear nb11
    go_wp2_with fail
    refine (eqIntS_big v12 v5 _ _ n f _ O13 O14 (by omega)).mono ?_
    rintro e w' ⟨rfl, m15, rfl⟩
    have O17 := O14.drewN m15
    clear O14
    have O18 := O13.drewN m15
    clear O13
    have bd := below_drewN bc m15
    clear bc
    have bc := bd
    clear bd
    have hzd : Hid (Dv12 ≤ (w10.drewN m15).heap.size) := hzz
    clear hzz
    have hzz := hzd
    clear hzd
    have ud : RegAt (w10.drewN m15) w.heap.size S0 T0 X0 := u
    clear u
    have u := ud
    clear ud
    obtain ⟨w16, hW⟩ : ∃ W, w10.drewN m15 = W := ⟨_, rfl⟩
    rw [hW] at O17 O18 bc hzz u ⊢
    clear hW
    go_wp2_with fail
    refine (markIntS_big v12 _ n f _ O18 (by omega)).mono ?_
    rintro e w19 ⟨rfl, O21, g20⟩
    have O22 := O17.kept g20 (apart_lo (C := Cv12) (fun k hk => by have y0 := hov5'.out; have y1 := hov12.out; have y2 := hov12'.out; have := huv5.out k hk; omega) hlv12.out)
    clear O17
    have bd : Below w.heap.size w w19 := bc.grown g20 bc.size (fun k hk => by have := hlv12.out k hk; have := hxv12.out; omega)
    clear bc
    have bc := bd
    clear bd
    have hzd : Hid (Dv12 ≤ w19.heap.size) := Lib.hid (Nat.le_trans hzz.out g20.size)
    clear hzz
    have hzz := hzd
    clear hzd
    have ud : RegAt w19 w.heap.size S0 T0 X0 := u.kept g20 (fun e => by have := hlv12.out _ e.symm; have := hxsv12.out; omega)
    clear u
    have u := ud
    clear ud
    clear O18 g20
    go_wp2_with fail
    refine (heldIntS_any v12 _ n _ O21 (by omega)).mono ?_
    rintro e w' ⟨rfl, rfl⟩
    obtain ⟨x0, x1, x2, x3⟩ := id u
    go_wp2_with fail
    clear x0 x1 x2 x3
    refine (toRegister_any S0 T0 X0 _).mono ?_
    rintro e w23 ⟨rfl, nb24⟩
    have O25 := O22.below nb24
    clear O22
    have O26 := O21.below nb24
    clear O21
    have ud := u.below nb24 u.2.2.2
    clear u
    have u := ud
    clear ud
    have bd := below_then bc (Nat.le_refl _) nb24
    clear bc
    have bc := bd
    clear bd
    have hzd := Lib.hid (Nat.le_trans hzz.out nb24.size)
    clear hzz
    have hzz := hzd
    clear hzd
    clear nb24
    obtain ⟨x0, x1, x2, x3⟩ := id u
    go_wp2_with fail
    clear x0 x1 x2 x3
    refine (HQ.out _).mono ?_
    rintro e w27 ⟨v29, rfl, O30, nb28⟩
    have O31 := O25.below nb28
    clear O25
    have O32 := O26.below nb28
    clear O26
    have hxx := Nat.le_of_lt u.2.2.2
    have hyy := nb28.size
    have hxsv29 := Lib.hid u.2.2.2
    have ud := u.below nb28 u.2.2.2
    clear u
    have u := ud
    clear ud
    have bd := below_then bc (Nat.le_refl _) nb28
    clear bc
    have bc := bd
    clear bd
    have hlv29 : Hid (∀ k, Value.ownBlock v29 = some k → w23.heap.size ≤ k) := Lib.hid (fun k hk => (O30.lt k hk).1)
    have huv29 : Hid (∀ k, Value.ownBlock v29 = some k → k < w27.heap.size) := Lib.hid (fun k hk => (O30.lt k hk).2)
    have hxv29 : Hid (w.heap.size ≤ w23.heap.size) := Lib.hid hxx
    have hov29 : Hid (Dv12 ≤ w23.heap.size) := hzz
    have hov29' : Hid (w23.heap.size ≤ w27.heap.size) := Lib.hid hyy
    clear hxx hyy hzz
    obtain ⟨Dv29, hD⟩ : ∃ D, w27.heap.size = D := ⟨_, rfl⟩
    have hzz : Hid (Dv29 ≤ w27.heap.size) := Lib.hid (Nat.le_of_eq hD.symm)
    rw [hD] at huv29 hov29'
    clear hD
    obtain ⟨Cv29, hC⟩ : ∃ C, w23.heap.size = C := ⟨_, rfl⟩
    rw [hC] at O30 hlv29 hxv29 hov29' hov29 hxsv29
    clear hC
    clear nb28
    go_wp2_with fail
    refine (eqIntS_big v29 v5 _ _ n f _ O30 O31 (by omega)).mono ?_
    rintro e w' ⟨rfl, m33, rfl⟩
    have O35 := O31.drewN m33
    clear O31
    have O36 := O32.drewN m33
    clear O32
    have O37 := O30.drewN m33
    clear O30
    have bd := below_drewN bc m33
    clear bc
    have bc := bd
    clear bd
    have hzd : Hid (Dv29 ≤ (w27.drewN m33).heap.size) := hzz
    clear hzz
    have hzz := hzd
    clear hzd
    have ud : RegAt (w27.drewN m33) w.heap.size S0 T0 X0 := u
    clear u
    have u := ud
    clear ud
    obtain ⟨w34, hW⟩ : ∃ W, w27.drewN m33 = W := ⟨_, rfl⟩
    rw [hW] at O35 O36 O37 bc hzz u ⊢
    clear hW
    clear O37
    go_wp2_with fail
    refine (heldIntS_any v12 _ n _ O36 (by omega)).mono ?_
    rintro e w' ⟨rfl, rfl⟩
    go_wp2
    go_ret
    exact ⟨rfl, bc⟩
end Go.Proofs.Ytbllmgdnhjdphaa
