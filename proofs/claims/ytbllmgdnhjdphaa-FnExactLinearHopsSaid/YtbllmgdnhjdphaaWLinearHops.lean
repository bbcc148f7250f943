/- The walk of the law FnExactLinearHops. -/
import Derived.Test.YtbllmgdnhjdphaaHop1
namespace Go.Proofs.Ytbllmgdnhjdphaa
open Go.RowKit
set_option linter.unusedVariables false
set_option maxHeartbeats 3200000 in
set_option maxRecDepth 100000 in
theorem fnExactLinearHops_walk (k0 : Int) (k1 : Int) (k2 : Int) (w : World) (hk0 : (Lit.int .i64 k0).wf = true) (hk1 : (Lit.int .i64 k1).wf = true) (hk2 : (Lit.int .i64 k2).wf = true) :
    Calls Try.prog 4 #[.int .i64 k0, .int .i64 k1, .int .i64 k2] w fun e w' => e = .returned (.bool true) ∧ Below w.heap.size w w' := by
  have bc : Below w.heap.size w w := Below.refl _ _
  have hp := (fun w => sLin_any k0 k1 k2 w)
  have hq := (fun w => iLin_any k0 k1 k2 w)
  have hn := linN_le6 k0 k1 k2
  obtain ⟨n, hN⟩ : ∃ n, linN k0 k1 k2 = n := ⟨_, rfl⟩
  obtain ⟨f, hF⟩ : ∃ f, linF k0 k1 = f := ⟨_, rfl⟩
  rw [hN] at hp hq hn
  rw [hF] at hp hq
  clear hN hF
  obtain ⟨ok, hO⟩ : ∃ ok, linB k0 k1 k2 = ok := ⟨_, rfl⟩
  rw [hO] at hp hq
  clear hO
  have HP := Lib.hid hp
  have HQ := Lib.hid hq
  clear hp hq
  cases ok
  all_goals
    go_enter Try.func4, Try.ntmps4
    go_wp2_with fail
    refine (HP.out _).mono ?_
    rintro e w1 ⟨v3, rfl, O4, nb2⟩
    have hxx := bc.size
    have hyy := nb2.size
    have bd := nb2
    clear bc
    have bc := bd
    clear bd
    have hlv3 : Hid (∀ k, Value.ownBlock v3 = some k → w.heap.size ≤ k) := Lib.hid (fun k hk => (O4.lt k hk).1)
    have huv3 : Hid (∀ k, Value.ownBlock v3 = some k → k < w1.heap.size) := Lib.hid (fun k hk => (O4.lt k hk).2)
    have hxv3 : Hid (w.heap.size ≤ w.heap.size) := Lib.hid hxx
    have hov3' : Hid (w.heap.size ≤ w1.heap.size) := Lib.hid hyy
    clear hxx hyy
    obtain ⟨Dv3, hD⟩ : ∃ D, w1.heap.size = D := ⟨_, rfl⟩
    have hzz : Hid (Dv3 ≤ w1.heap.size) := Lib.hid (Nat.le_of_eq hD.symm)
    rw [hD] at huv3 hov3'
    clear hD
    obtain ⟨Cv3, hC⟩ : ∃ C, w.heap.size = C := ⟨_, rfl⟩
    have HC0 := Lib.hid hC
    rw [hC] at O4 hlv3 hxv3 hov3'
    clear hC
    skip
    go_wp2_with fail
    refine (HQ.out _).mono ?_
    rintro e w5 ⟨v7, rfl, O8, nb6⟩
    have O9 := O4.below nb6
    clear O4
    have hxx := bc.size
    have hyy := nb6.size
    have bd := below_then bc (Nat.le_refl _) nb6
    clear bc
    have bc := bd
    clear bd
    have hlv7 : Hid (∀ k, Value.ownBlock v7 = some k → w1.heap.size ≤ k) := Lib.hid (fun k hk => (O8.lt k hk).1)
    have huv7 : Hid (∀ k, Value.ownBlock v7 = some k → k < w5.heap.size) := Lib.hid (fun k hk => (O8.lt k hk).2)
    have hxv7 : Hid (w.heap.size ≤ w1.heap.size) := Lib.hid hxx
    have hov7 : Hid (Dv3 ≤ w1.heap.size) := hzz
    have hov7' : Hid (w1.heap.size ≤ w5.heap.size) := Lib.hid hyy
    clear hxx hyy hzz
    obtain ⟨Dv7, hD⟩ : ∃ D, w5.heap.size = D := ⟨_, rfl⟩
    have hzz : Hid (Dv7 ≤ w5.heap.size) := Lib.hid (Nat.le_of_eq hD.symm)
    rw [hD] at huv7 hov7'
    clear hD
    obtain ⟨Cv7, hC⟩ : ∃ C, w1.heap.size = C := ⟨_, rfl⟩
    rw [hC] at O8 hlv7 hxv7 hov7' hov7
    clear hC
    clear nb6
    go_wp2_with fail
    refine (eqIntS_big v7 v3 _ _ n f _ O8 O9 (by omega)).mono ?_
    rintro e w' ⟨rfl, m10, rfl⟩
    have O12 := O9.drewN m10
    clear O9
    have O13 := O8.drewN m10
    clear O8
    have bd := below_drewN bc m10
    clear bc
    have bc := bd
    clear bd
    have hzd : Hid (Dv7 ≤ (w5.drewN m10).heap.size) := hzz
    clear hzz
    have hzz := hzd
    clear hzd
    obtain ⟨w11, hW⟩ : ∃ W, w5.drewN m10 = W := ⟨_, rfl⟩
    rw [hW] at O12 O13 bc hzz ⊢
    clear hW
    go_wp2_with fail
    refine (markIntS_big v7 _ n f _ O13 (by omega)).mono ?_
    rintro e w14 ⟨rfl, O16, g15⟩
    have O17 := O12.kept g15 (apart_lo (C := Cv7) (fun k hk => by have y0 := hov3'.out; have y1 := hov7.out; have y2 := hov7'.out; have := huv3.out k hk; omega) hlv7.out)
    clear O12
    have bd : Below w.heap.size w w14 := bc.grown g15 bc.size (fun k hk => by have := hlv7.out k hk; have := hxv7.out; omega)
    clear bc
    have bc := bd
    clear bd
    have hzd : Hid (Dv7 ≤ w14.heap.size) := Lib.hid (Nat.le_trans hzz.out g15.size)
    clear hzz
    have hzz := hzd
    clear hzd
    clear O13 g15
    go_wp2_with fail
    refine (heldIntS_any v7 _ n _ O16 (by omega)).mono ?_
    rintro e w' ⟨rfl, rfl⟩
    go_wp2_with fail
    refine (HQ.out _).mono ?_
    rintro e w18 ⟨v20, rfl, O21, nb19⟩
    have O22 := O17.below nb19
    clear O17
    have O23 := O16.below nb19
    clear O16
    have hxx := bc.size
    have hyy := nb19.size
    have bd := below_then bc (Nat.le_refl _) nb19
    clear bc
    have bc := bd
    clear bd
    have hlv20 : Hid (∀ k, Value.ownBlock v20 = some k → w14.heap.size ≤ k) := Lib.hid (fun k hk => (O21.lt k hk).1)
    have huv20 : Hid (∀ k, Value.ownBlock v20 = some k → k < w18.heap.size) := Lib.hid (fun k hk => (O21.lt k hk).2)
    have hxv20 : Hid (w.heap.size ≤ w14.heap.size) := Lib.hid hxx
    have hov20 : Hid (Dv7 ≤ w14.heap.size) := hzz
    have hov20' : Hid (w14.heap.size ≤ w18.heap.size) := Lib.hid hyy
    clear hxx hyy hzz
    obtain ⟨Dv20, hD⟩ : ∃ D, w18.heap.size = D := ⟨_, rfl⟩
    have hzz : Hid (Dv20 ≤ w18.heap.size) := Lib.hid (Nat.le_of_eq hD.symm)
    rw [hD] at huv20 hov20'
    clear hD
    obtain ⟨Cv20, hC⟩ : ∃ C, w14.heap.size = C := ⟨_, rfl⟩
    rw [hC] at O21 hlv20 hxv20 hov20' hov20
    clear hC
    clear nb19
    go_wp2_with fail
    refine (eqIntS_big v20 v3 _ _ n f _ O21 O22 (by omega)).mono ?_
    rintro e w' ⟨rfl, m24, rfl⟩
    have O26 := O22.drewN m24
    clear O22
    have O27 := O23.drewN m24
    clear O23
    have O28 := O21.drewN m24
    clear O21
    have bd := below_drewN bc m24
    clear bc
    have bc := bd
    clear bd
    have hzd : Hid (Dv20 ≤ (w18.drewN m24).heap.size) := hzz
    clear hzz
    have hzz := hzd
    clear hzd
    obtain ⟨w25, hW⟩ : ∃ W, w18.drewN m24 = W := ⟨_, rfl⟩
    rw [hW] at O26 O27 O28 bc hzz ⊢
    clear hW
    clear O28
    go_wp2_with fail
    refine (heldIntS_any v7 _ n _ O27 (by omega)).mono ?_
    rintro e w' ⟨rfl, rfl⟩
    go_wp2
    go_ret
    exact ⟨rfl, bc⟩
end Go.Proofs.Ytbllmgdnhjdphaa
