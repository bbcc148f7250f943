/- The walk of the law FnExactCopiesNeeded. -/
import Derived.Test.YtpacaelnmpdnhaaDoorNedI
import Derived.Test.YtpacaelnmpdnhaaDoorStrFrame
namespace Go.Proofs.YtpacaelnmpdnhaaDoor
open Go.RowKit
set_option linter.unusedVariables false
set_option maxHeartbeats 3200000 in
set_option maxRecDepth 100000 in
theorem fnExactCopiesNeeded_walk (s0 : ByteArray) (a1 : Option Addr) (len1 cap1 : Nat) (z1 : Nat → Int) (a2 : Option Addr) (len2 cap2 : Nat) (z2 : Nat → Int) (k3 : Int) (w : World) (h0 : s0.size ≤ maxLen) (h1 : IntsIn w a1 len1 cap1 z1) (h2 : IntsIn w a2 len2 cap2 z2) (hk3 : (Lit.int .i64 k3).wf = true) (hd : DoorAt w) :
    Calls Tryd.prog 5 #[.string s0, .slice a1 len1 cap1, .slice a2 len2 cap2, .int .i64 k3] w fun e w' => e = .returned (.bool true) ∧ Below w.heap.size w w' := by
  obtain ⟨hl1, hz1⟩ := h1
  unfold maxLen at hl1
  have HS1 : Hid (IntsR w (.slice a1 len1 cap1) len1 z1) := Lib.hid ⟨a1, cap1, rfl, fun i hi => (hz1 i hi).2⟩
  clear hz1
  obtain ⟨hl2, hz2⟩ := h2
  unfold maxLen at hl2
  have HS2 : Hid (IntsR w (.slice a2 len2 cap2) len2 z2) := Lib.hid ⟨a2, cap2, rfl, fun i hi => (hz2 i hi).2⟩
  clear hz2
  unfold maxLen at h0
  have HDD := Lib.hid (fun w1 (b1 : Below w.heap.size w w1) => hd.below b1 hd.lt)
  clear hd
  have bc : Below w.heap.size w w := Below.refl _ _
  by_cases hg0 : 1048576 < s0.size
  · skip
    clear HS1
    clear HS2
    go_enter Tryd.func5, Tryd.ntmps5
    go_wp2
    go_ret
    exact ⟨rfl, bc⟩
  have lg0 : ¬ ((1048576 : Int) < (s0.size : Int)) := by omega
  have hn0 : s0.size ≤ 1048576 := by omega
  clear hg0
  by_cases hg1 : 1048576 < len1
  · skip
    clear HS1
    clear HS2
    go_enter Tryd.func5, Tryd.ntmps5
    go_wp2
    go_ret
    exact ⟨rfl, bc⟩
  have lg1 : ¬ ((1048576 : Int) < (len1 : Int)) := by omega
  have hn1 : len1 ≤ 1048576 := by omega
  clear hg1
  by_cases hg2 : 1048576 < len2
  · skip
    clear HS1
    clear HS2
    go_enter Tryd.func5, Tryd.ntmps5
    go_wp2
    go_ret
    exact ⟨rfl, bc⟩
  have lg2 : ¬ ((1048576 : Int) < (len2 : Int)) := by omega
  have hn2 : len2 ≤ 1048576 := by omega
  clear hg2
  have HT1 := Lib.hid (fun v w hS => toIntS_any v len1 z1 w hS hn1)
  have HT2 := Lib.hid (fun v w hS => toIntS_any v len2 z2 w hS hn2)
  have hp := (fun v1 v2 w r1 r2 => sNed_any s0 v1 len1 z1 v2 len2 z2 k3 w hn0 r1 hn1 r2 hn2)
  have hq := (fun v1 v2 w hd r1 r2 => iNed_any s0 v1 len1 z1 v2 len2 z2 k3 w hn0 r1 hn1 r2 hn2 hd)
  obtain ⟨X0, hX0⟩ : ∃ X, nedA s0 len1 z1 len2 z2 k3 = X := ⟨_, rfl⟩
  rw [hX0] at hp hq
  clear hX0
  have HP := Lib.hid hp
  have HQ := Lib.hid hq
  clear hp hq
  go_enter Tryd.func5, Tryd.ntmps5
  go_wp2_with fail
  refine (HT1.out _ _ (HS1.out.below bc)).mono ?_
  rintro e w1 ⟨v3, rfl, O4, nb2⟩
  have hxx := bc.size
  have hyy := nb2.size
  have bd := nb2
  clear bc
  have bc := bd
  clear bd
  have hlv3 : Hid (∀ k, Value.ownBlock v3 = some k → w.heap.size ≤ k) := Lib.hid (fun k hk => (O4.lt k hk).1)
  have huv3 : Hid (∀ k, Value.ownBlock v3 = some k → k < w1.heap.size) := Lib.hid (fun k hk => (O4.lt k hk).2)
  have hxv3 : Hid (w.heap.size ≤ w.heap.size) := Lib.hid hxx
  have hov3' : Hid (w.heap.size ≤ w1.heap.size) := Lib.hid hyy
  clear hxx hyy
  obtain ⟨Dv3, hD⟩ : ∃ D, w1.heap.size = D := ⟨_, rfl⟩
  have hzz : Hid (Dv3 ≤ w1.heap.size) := Lib.hid (Nat.le_of_eq hD.symm)
  rw [hD] at huv3 hov3'
  clear hD
  obtain ⟨Cv3, hC⟩ : ∃ C, w.heap.size = C := ⟨_, rfl⟩
  have HC0 := Lib.hid hC
  rw [hC] at O4 hlv3 hxv3 hov3'
  clear hC
  skip
  go_wp2_with fail
  refine (HT2.out _ _ (HS2.out.below bc)).mono ?_
  rintro e w5 ⟨v7, rfl, O8, nb6⟩
  have O9 := O4.below nb6
  clear O4
  have hxx := bc.size
  have hyy := nb6.size
  have bd := below_then bc (Nat.le_refl _) nb6
  clear bc
  have bc := bd
  clear bd
  have hlv7 : Hid (∀ k, Value.ownBlock v7 = some k → w1.heap.size ≤ k) := Lib.hid (fun k hk => (O8.lt k hk).1)
  have huv7 : Hid (∀ k, Value.ownBlock v7 = some k → k < w5.heap.size) := Lib.hid (fun k hk => (O8.lt k hk).2)
  have hxv7 : Hid (w.heap.size ≤ w1.heap.size) := Lib.hid hxx
  have hov7 : Hid (Dv3 ≤ w1.heap.size) := hzz
  have hov7' : Hid (w1.heap.size ≤ w5.heap.size) := Lib.hid hyy
  clear hxx hyy hzz
  obtain ⟨Dv7, hD⟩ : ∃ D, w5.heap.size = D := ⟨_, rfl⟩
  have hzz : Hid (Dv7 ≤ w5.heap.size) := Lib.hid (Nat.le_of_eq hD.symm)
  rw [hD] at huv7 hov7'
  clear hD
  obtain ⟨Cv7, hC⟩ : ∃ C, w1.heap.size = C := ⟨_, rfl⟩
  rw [hC] at O8 hlv7 hxv7 hov7' hov7
  clear hC
  clear nb6
  go_wp2_with fail
  refine (HP.out _ _ _ O9.ints O8.ints).mono ?_
  rintro e w10 ⟨rfl, nb11⟩
  have O12 := O9.below nb11
  clear O9
  have O13 := O8.below nb11
  clear O8
  have bd := below_then bc (Nat.le_refl _) nb11
  clear bc
  have bc := bd
  clear bd
  have hzd := Lib.hid (Nat.le_trans hzz.out nb11.size)
  clear hzz
  have hzz := hzd
  clear hzd
  clear nb11
  clear O12
  clear O13
  go_wp2_with fail
  refine (HT1.out _ _ (HS1.out.below bc)).mono ?_
  rintro e w14 ⟨v16, rfl, O17, nb15⟩
  have hxx := bc.size
  have hyy := nb15.size
  have bd := below_then bc (Nat.le_refl _) nb15
  clear bc
  have bc := bd
  clear bd
  have hlv16 : Hid (∀ k, Value.ownBlock v16 = some k → w10.heap.size ≤ k) := Lib.hid (fun k hk => (O17.lt k hk).1)
  have huv16 : Hid (∀ k, Value.ownBlock v16 = some k → k < w14.heap.size) := Lib.hid (fun k hk => (O17.lt k hk).2)
  have hxv16 : Hid (w.heap.size ≤ w10.heap.size) := Lib.hid hxx
  have hov16 : Hid (Dv7 ≤ w10.heap.size) := hzz
  have hov16' : Hid (w10.heap.size ≤ w14.heap.size) := Lib.hid hyy
  clear hxx hyy hzz
  obtain ⟨Dv16, hD⟩ : ∃ D, w14.heap.size = D := ⟨_, rfl⟩
  have hzz : Hid (Dv16 ≤ w14.heap.size) := Lib.hid (Nat.le_of_eq hD.symm)
  rw [hD] at huv16 hov16'
  clear hD
  obtain ⟨Cv16, hC⟩ : ∃ C, w10.heap.size = C := ⟨_, rfl⟩
  rw [hC] at O17 hlv16 hxv16 hov16' hov16
  clear hC
  clear nb15
  go_wp2_with fail
  refine (HT2.out _ _ (HS2.out.below bc)).mono ?_
  rintro e w18 ⟨v20, rfl, O21, nb19⟩
  have O22 := O17.below nb19
  clear O17
  have hxx := bc.size
  have hyy := nb19.size
  have bd := below_then bc (Nat.le_refl _) nb19
  clear bc
  have bc := bd
  clear bd
  have hlv20 : Hid (∀ k, Value.ownBlock v20 = some k → w14.heap.size ≤ k) := Lib.hid (fun k hk => (O21.lt k hk).1)
  have huv20 : Hid (∀ k, Value.ownBlock v20 = some k → k < w18.heap.size) := Lib.hid (fun k hk => (O21.lt k hk).2)
  have hxv20 : Hid (w.heap.size ≤ w14.heap.size) := Lib.hid hxx
  have hov20 : Hid (Dv16 ≤ w14.heap.size) := hzz
  have hov20' : Hid (w14.heap.size ≤ w18.heap.size) := Lib.hid hyy
  clear hxx hyy hzz
  obtain ⟨Dv20, hD⟩ : ∃ D, w18.heap.size = D := ⟨_, rfl⟩
  have hzz : Hid (Dv20 ≤ w18.heap.size) := Lib.hid (Nat.le_of_eq hD.symm)
  rw [hD] at huv20 hov20'
  clear hD
  obtain ⟨Cv20, hC⟩ : ∃ C, w14.heap.size = C := ⟨_, rfl⟩
  rw [hC] at O21 hlv20 hxv20 hov20' hov20
  clear hC
  clear nb19
  go_wp2_with fail
  refine (HQ.out _ _ _ (HDD.out _ bc) O22.ints O21.ints).mono ?_
  rintro e w23 ⟨rfl, nb24⟩
  have O25 := O22.below nb24
  clear O22
  have O26 := O21.below nb24
  clear O21
  have bd := below_then bc (Nat.le_refl _) nb24
  clear bc
  have bc := bd
  clear bd
  have hzd := Lib.hid (Nat.le_trans hzz.out nb24.size)
  clear hzz
  have hzz := hzd
  clear hzd
  clear nb24
  go_wp2_with fail
  refine (HT1.out _ _ (HS1.out.below bc)).mono ?_
  rintro e w27 ⟨v29, rfl, O30, nb28⟩
  have O31 := O25.below nb28
  clear O25
  have O32 := O26.below nb28
  clear O26
  have hxx := bc.size
  have hyy := nb28.size
  have bd := below_then bc (Nat.le_refl _) nb28
  clear bc
  have bc := bd
  clear bd
  have hlv29 : Hid (∀ k, Value.ownBlock v29 = some k → w23.heap.size ≤ k) := Lib.hid (fun k hk => (O30.lt k hk).1)
  have huv29 : Hid (∀ k, Value.ownBlock v29 = some k → k < w27.heap.size) := Lib.hid (fun k hk => (O30.lt k hk).2)
  have hxv29 : Hid (w.heap.size ≤ w23.heap.size) := Lib.hid hxx
  have hov29 : Hid (Dv20 ≤ w23.heap.size) := hzz
  have hov29' : Hid (w23.heap.size ≤ w27.heap.size) := Lib.hid hyy
  clear hxx hyy hzz
  obtain ⟨Dv29, hD⟩ : ∃ D, w27.heap.size = D := ⟨_, rfl⟩
  have hzz : Hid (Dv29 ≤ w27.heap.size) := Lib.hid (Nat.le_of_eq hD.symm)
  rw [hD] at huv29 hov29'
  clear hD
  obtain ⟨Cv29, hC⟩ : ∃ C, w23.heap.size = C := ⟨_, rfl⟩
  rw [hC] at O30 hlv29 hxv29 hov29' hov29
  clear hC
  clear nb28
  go_wp2_with fail
  refine (eqIntS_big v16 v29 _ _ len1 z1 _ O31 O30 (by omega)).mono ?_
  rintro e w' ⟨rfl, m33, rfl⟩
  have O35 := O31.drewN m33
  clear O31
  have O36 := O32.drewN m33
  clear O32
  have O37 := O30.drewN m33
  clear O30
  have bd := below_drewN bc m33
  clear bc
  have bc := bd
  clear bd
  have hzd : Hid (Dv29 ≤ (w27.drewN m33).heap.size) := hzz
  clear hzz
  have hzz := hzd
  clear hzd
  obtain ⟨w34, hW⟩ : ∃ W, w27.drewN m33 = W := ⟨_, rfl⟩
  rw [hW] at O35 O36 O37 bc hzz ⊢
  clear hW
  clear O37
  clear O35
  go_wp2_with fail
  refine (HT2.out _ _ (HS2.out.below bc)).mono ?_
  rintro e w38 ⟨v40, rfl, O41, nb39⟩
  have O42 := O36.below nb39
  clear O36
  have hxx := bc.size
  have hyy := nb39.size
  have bd := below_then bc (Nat.le_refl _) nb39
  clear bc
  have bc := bd
  clear bd
  have hlv40 : Hid (∀ k, Value.ownBlock v40 = some k → w34.heap.size ≤ k) := Lib.hid (fun k hk => (O41.lt k hk).1)
  have huv40 : Hid (∀ k, Value.ownBlock v40 = some k → k < w38.heap.size) := Lib.hid (fun k hk => (O41.lt k hk).2)
  have hxv40 : Hid (w.heap.size ≤ w34.heap.size) := Lib.hid hxx
  have hov40 : Hid (Dv29 ≤ w34.heap.size) := hzz
  have hov40' : Hid (w34.heap.size ≤ w38.heap.size) := Lib.hid hyy
  clear hxx hyy hzz
  obtain ⟨Dv40, hD⟩ : ∃ D, w38.heap.size = D := ⟨_, rfl⟩
  have hzz : Hid (Dv40 ≤ w38.heap.size) := Lib.hid (Nat.le_of_eq hD.symm)
  rw [hD] at huv40 hov40'
  clear hD
  obtain ⟨Cv40, hC⟩ : ∃ C, w34.heap.size = C := ⟨_, rfl⟩
  rw [hC] at O41 hlv40 hxv40 hov40' hov40
  clear hC
  clear nb39
  go_wp2_with fail
  refine (eqIntS_big v20 v40 _ _ len2 z2 _ O42 O41 (by omega)).mono ?_
  rintro e w' ⟨rfl, m43, rfl⟩
  have O45 := O42.drewN m43
  clear O42
  have O46 := O41.drewN m43
  clear O41
  have bd := below_drewN bc m43
  clear bc
  have bc := bd
  clear bd
  have hzd : Hid (Dv40 ≤ (w38.drewN m43).heap.size) := hzz
  clear hzz
  have hzz := hzd
  clear hzd
  obtain ⟨w44, hW⟩ : ∃ W, w38.drewN m43 = W := ⟨_, rfl⟩
  rw [hW] at O45 O46 bc hzz ⊢
  clear hW
  clear O46
  clear O45
  go_wp2
  go_ret
  exact ⟨rfl, bc⟩
end Go.Proofs.YtpacaelnmpdnhaaDoor
