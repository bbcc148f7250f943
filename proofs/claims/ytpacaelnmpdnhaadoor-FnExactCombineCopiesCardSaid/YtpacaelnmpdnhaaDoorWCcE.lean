/- The walk of the law FnExactCombineCopies. -/
import Derived.Test.YtpacaelnmpdnhaaDoorCmbI
import Derived.Test.YtpacaelnmpdnhaaDoorStrFrame
namespace Go.Proofs.YtpacaelnmpdnhaaDoor
open Go.RowKit
set_option linter.unusedVariables false
set_option maxRecDepth 100000
theorem fnExactCombineCopies_walk (a0 : Option Addr) (len0 cap0 : Nat) (z0 : Nat → ByteArray) (w : World) (h0 : StrsIn w a0 len0 cap0 z0) (hd : DoorAt w) :
    Calls Tryd.prog 4 #[.slice a0 len0 cap0] w fun e w' => e = .returned (.bool true) ∧ Below w.heap.size w w' := by
  obtain ⟨hS, hlm, hfm⟩ := h0
  have HZ := szStringS_any (.slice a0 len0 cap0) len0 z0 w hS (by unfold maxLen at hlm; omega) (fun i hi => by have := hfm i hi; unfold maxLen at this; omega)
  have HS := Lib.hid hS
  clear hlm hfm hS
  go_enter Tryd.func4, Tryd.ntmps4
  go_wp2_with fail
  refine HZ.mono ?_
  rintro e w' ⟨⟨L, rfl, hL⟩, rfl⟩
  rcases hL with rfl | ⟨hL, hn, hf⟩
  · go_wp2
    go_ret
    exact ⟨rfl, Below.refl _ _⟩
  · have hL2 : ¬ L < 0 := by omega
    have HD := Lib.hid (fun w1 (b1 : Below w.heap.size w w1) => hd.below b1 hd.lt)
    have HT := Lib.hid (fun w hS => toStringS_any (.slice a0 len0 cap0) len0 z0 w hS hn)
    have HP := Lib.hid (fun v w hS => sCmb_any v len0 z0 w hS hn hf)
    have HQ := Lib.hid (fun v B w hS hd => iCmb_any v B len0 z0 w hS hn hf hd)
    have HE := Lib.hid (fun v u w hv hu => eqStringS_same v u len0 z0 w hv hu hn)
    obtain ⟨X, hX⟩ : ∃ X, (cmbAns z0 len0).1 = X := ⟨_, rfl⟩
    obtain ⟨ok, hok⟩ : ∃ X, (cmbAns z0 len0).2 = X := ⟨_, rfl⟩
    rw [hX, hok] at HP HQ
    clear hf hX hok HZ hL hd
    go_wp2_with fail
    refine (HT.out _ HS.out).mono ?_
    rintro e w1 ⟨v1, rfl, O1, b1⟩
    have T1 := HS.out.below b1
    go_wp2_with fail
    refine (HP.out v1 _ O1.strs).mono ?_
    rintro e w2 ⟨rfl, hb2⟩
    have b2 := below_then b1 (Nat.le_refl _) hb2
    have T2 := T1.below hb2
    clear T1 b1 hb2 O1
    go_wp2_with fail
    refine (HT.out _ T2).mono ?_
    rintro e w3 ⟨v3, rfl, O3, hb3⟩
    have b3 := below_then b2 (Nat.le_refl _) hb3
    have T3 := T2.below hb3
    clear T2 b2 hb3
    go_wp2_with fail
    refine (HQ.out v3 _ _ O3 (HD.out _ b3)).mono ?_
    rintro e w4 ⟨rfl, hb4⟩
    have b4 := below_then b3 (Nat.le_refl _) hb4
    have T4 := T3.below hb4
    have O4 := O3.strs.below hb4
    clear T3 b3 hb4 O3
    cases ok
    all_goals
      go_wp2_with fail
      refine (HT.out _ T4).mono ?_
      rintro e w5 ⟨v5, rfl, O5, hb5⟩
      have b5 := below_then b4 (Nat.le_refl _) hb5
      have O6 := O4.below hb5
      clear T4 b4 hb5 O4
      go_wp2_with fail
      refine (HE.out v3 v5 _ O6 O5.strs).mono ?_
      rintro e w6 ⟨rfl, m, rfl⟩
      have b6 := below_drewN b5 m
      clear b5 O5 O6
      go_wp2
      go_ret
      exact ⟨rfl, b6⟩
end Go.Proofs.YtpacaelnmpdnhaaDoor
