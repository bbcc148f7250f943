/- The walk of the exact law of SendAll. -/
import Derived.Test.YtlcnlhephhbhcaaSnd2
import Derived.Test.YtlcnlhephhbhcaaUsrFrame
import Derived.Test.YtlcnlhephhbhcaaIntsBig
namespace Go.Proofs.Ytlcnlhephhbhcaa
open Go.RowKit
set_option linter.unusedVariables false
set_option maxHeartbeats 3200000 in
set_option maxRecDepth 100000 in
theorem fnExactSendAll_walk (a0 : Option Addr) (len0 cap0 : Nat) (f : Nat → Usr) (w : World) (hin : UsrsIn w a0 len0 cap0 f) :
    Calls Try.prog 4 #[.slice a0 len0 cap0] w fun e w' => e = .returned (.bool true) ∧ Below w.heap.size w w' := by
  unfold UsrsIn at hin
  obtain ⟨hr, hl, hs⟩ := hin
  unfold maxLen at hl hs
  have HL := Lib.hid hr
  have HSS := Lib.hid hs
  clear hr hs
  have hz := szUserS_any (.slice a0 len0 cap0) len0 f w HL.out (by omega) (fun i hi => by have := HSS.out i hi; omega)
  go_enter Try.func4, Try.ntmps4
  go_wp2_with fail
  refine hz.mono ?_
  rintro e w1 ⟨Z, rfl, hZ, bc⟩
  clear hz HSS
  by_cases z0 : Z < 0
  · clear hZ
    go_wp2
    go_ret
    exact ⟨rfl, bc⟩
  · obtain ⟨hn, hf⟩ := hZ (by omega)
    clear hZ
    have hp := fun v w h => sSendAll_any v len0 f w h hn hf
    have hq := fun v w h => iSendAll_any v len0 f w h hn hf
    have HT := Lib.hid (fun v w h => toUserS_any v len0 f w h hn)
    have HEQ := Lib.hid (fun v u w h k => eqUserS_same v u len0 f w h k hn)
    have HMK := Lib.hid (fun v B w h => markUserS_any v B len0 f w h hn)
    have hle := saN_le len0 f
    obtain ⟨N, hN⟩ : ∃ X, saN len0 f = X := ⟨_, rfl⟩
    rw [hN] at hp hq hle
    clear hN
    obtain ⟨G, hG⟩ : ∃ X, smF (usN f) (usF f) len0 = X := ⟨_, rfl⟩
    rw [hG] at hp hq
    clear hG
    obtain ⟨B, hB⟩ : ∃ X, usrsB len0 f = X := ⟨_, rfl⟩
    rw [hB] at hp hq
    clear hB
    have HP := Lib.hid hp
    have HQ := Lib.hid hq
    clear hp hq hf
    go_wp2_with fail
    refine (HT.out _ _ (HL.out.below bc)).mono ?_
    rintro e w1 ⟨t1, rfl, O3, hb2⟩
    have b4 := below_then bc (Nat.le_refl _) hb2
    clear bc
    have bc := b4
    clear b4 hb2
    go_wp2_with fail
    refine (HP.out _ _ O3.users).mono ?_
    rintro e w5 ⟨v0, rfl, O7, hb6⟩
    have O8 := O3.below hb6
    clear O3
    have sz_v0 : Hid (w1.heap.size ≤ w5.heap.size) := Lib.hid hb6.size
    have b9 := below_then bc (Nat.le_refl _) hb6
    clear bc
    have bc := b9
    clear b9 hb6
    have lo_v0 : Hid (∀ k, Value.ownBlock v0 = some k → w1.heap.size ≤ k) := Lib.hid (fun k hk => (O7.lt k hk).1)
    have hi_v0 : Hid (∀ k, Value.ownBlock v0 = some k → k < w5.heap.size) := Lib.hid (fun k hk => (O7.lt k hk).2)
    clear O8
    have HSZ_x0 : Hid (w.heap.size ≤ w5.heap.size) := Lib.hid bc.size
    go_wp2_with fail
    refine (HT.out _ _ (HL.out.below bc)).mono ?_
    rintro e w10 ⟨x0, rfl, O12, hb11⟩
    have O13 := O7.below hb11
    clear O7
    have sz_x0 : Hid (w5.heap.size ≤ w10.heap.size) := Lib.hid hb11.size
    have b14 := below_then bc (Nat.le_refl _) hb11
    clear bc
    have bc := b14
    clear b14 hb11
    have lo_x0 : Hid (∀ k, Value.ownBlock x0 = some k → w5.heap.size ≤ k) := Lib.hid (fun k hk => (O12.lt k hk).1)
    have hi_x0 : Hid (∀ k, Value.ownBlock x0 = some k → k < w10.heap.size) := Lib.hid (fun k hk => (O12.lt k hk).2)
    have HSZ_g0 : Hid (w.heap.size ≤ w10.heap.size) := Lib.hid bc.size
    go_wp2_with fail
    refine (HQ.out _ _ O12.users).mono ?_
    rintro e w15 ⟨g0, rfl, O17, hb16⟩
    have O18 := O13.below hb16
    clear O13
    have O19 := O12.below hb16
    clear O12
    have sz_g0 : Hid (w10.heap.size ≤ w15.heap.size) := Lib.hid hb16.size
    have b20 := below_then bc (Nat.le_refl _) hb16
    clear bc
    have bc := b20
    clear b20 hb16
    have lo_g0 : Hid (∀ k, Value.ownBlock g0 = some k → w10.heap.size ≤ k) := Lib.hid (fun k hk => (O17.lt k hk).1)
    have hi_g0 : Hid (∀ k, Value.ownBlock g0 = some k → k < w15.heap.size) := Lib.hid (fun k hk => (O17.lt k hk).2)
    go_wp2_with fail
    refine (eqIntS_big _ _ _ _ N G _ O17 O18 (by omega)).mono ?_
    rintro e w' ⟨rfl, m21, rfl⟩
    have O23 := O18.drewN m21
    clear O18
    have O24 := O19.drewN m21
    clear O19
    have O25 := O17.drewN m21
    clear O17
    have bd := below_drewN bc m21
    clear bc
    have bc := bd
    clear bd
    obtain ⟨w22, hW⟩ : ∃ W, w15.drewN m21 = W := ⟨_, rfl⟩
    rw [hW] at O23 O24 O25 bc ⊢
    clear hW
    go_wp2_with fail
    refine (HT.out _ _ (HL.out.below bc)).mono ?_
    rintro e w26 ⟨t2, rfl, O28, hb27⟩
    have O29 := O23.below hb27
    clear O23
    have O30 := O24.below hb27
    clear O24
    have O31 := O25.below hb27
    clear O25
    have b32 := below_then bc (Nat.le_refl _) hb27
    clear bc
    have bc := b32
    clear b32 hb27
    go_wp2_with fail
    refine (HEQ.out _ _ _ O30.users O28.users).mono ?_
    rintro e w33 ⟨rfl, hb34⟩
    have O35 := O29.below hb34
    clear O29
    have O36 := O30.below hb34
    clear O30
    have O37 := O31.below hb34
    clear O31
    have O38 := O28.below hb34
    clear O28
    have b39 := below_then bc (Nat.le_refl _) hb34
    clear bc
    have bc := b39
    clear b39 hb34
    clear O38
    have q0 := bc.size
    go_wp2_with fail
    refine (HMK.out _ w.heap.size _ (O36.mono HSZ_x0.out) q0).mono ?_
    rintro e w40 ⟨rfl, g41⟩
    have O42 := O35.kept g41 (apart_lo hi_v0.out lo_x0.out)
    clear O35
    have O43 := O37.kept g41 (apart_hi lo_g0.out hi_x0.out)
    clear O37
    have bd : Below w.heap.size w w40 := bc.grown g41 bc.size (fun k hk => Nat.le_trans HSZ_x0.out (lo_x0.out k hk))
    clear bc g41
    have bc := bd
    clear bd
    clear q0 O36
    go_wp2_with fail
    refine (eqIntS_big _ _ _ _ N G _ O43 O42 (by omega)).mono ?_
    rintro e w' ⟨rfl, m44, rfl⟩
    have O46 := O42.drewN m44
    clear O42
    have O47 := O43.drewN m44
    clear O43
    have bd := below_drewN bc m44
    clear bc
    have bc := bd
    clear bd
    obtain ⟨w45, hW⟩ : ∃ W, w40.drewN m44 = W := ⟨_, rfl⟩
    rw [hW] at O46 O47 bc ⊢
    clear hW
    go_wp2_with fail
    refine (markIntS_big _ _ N G _ O47 (by omega)).mono ?_
    rintro e w48 ⟨rfl, O50, g49⟩
    have O51 := O46.kept g49 (apart_lo (fun k hk => Nat.lt_of_lt_of_le (hi_v0.out k hk) sz_x0.out) lo_g0.out)
    clear O46 O47
    have bd : Below w.heap.size w w48 := bc.grown g49 bc.size (fun k hk => Nat.le_trans HSZ_g0.out (lo_g0.out k hk))
    clear bc g49
    have bc := bd
    clear bd
    go_wp2_with fail
    refine (heldIntS_any _ _ N _ O50 (by omega)).mono ?_
    rintro e w' ⟨rfl, rfl⟩
    go_wp2_with fail
    refine (HT.out _ _ (HL.out.below bc)).mono ?_
    rintro e w52 ⟨t3, rfl, O54, hb53⟩
    have O55 := O51.below hb53
    clear O51
    have O56 := O50.below hb53
    clear O50
    have b57 := below_then bc (Nat.le_refl _) hb53
    clear bc
    have bc := b57
    clear b57 hb53
    go_wp2_with fail
    refine (HQ.out _ _ O54.users).mono ?_
    rintro e w58 ⟨h0, rfl, O60, hb59⟩
    have O61 := O55.below hb59
    clear O55
    have O62 := O56.below hb59
    clear O56
    have O63 := O54.below hb59
    clear O54
    have b64 := below_then bc (Nat.le_refl _) hb59
    clear bc
    have bc := b64
    clear b64 hb59
    clear O63
    go_wp2_with fail
    refine (eqIntS_big _ _ _ _ N G _ O60 O61 (by omega)).mono ?_
    rintro e w' ⟨rfl, m65, rfl⟩
    have O67 := O61.drewN m65
    clear O61
    have O68 := O62.drewN m65
    clear O62
    have O69 := O60.drewN m65
    clear O60
    have bd := below_drewN bc m65
    clear bc
    have bc := bd
    clear bd
    obtain ⟨w66, hW⟩ : ∃ W, w58.drewN m65 = W := ⟨_, rfl⟩
    rw [hW] at O67 O68 O69 bc ⊢
    clear hW
    clear O69
    go_wp2_with fail
    refine (heldIntS_any _ _ N _ O68 (by omega)).mono ?_
    rintro e w' ⟨rfl, rfl⟩
    go_wp2
    go_ret
    exact ⟨rfl, bc⟩
end Go.Proofs.Ytlcnlhephhbhcaa
