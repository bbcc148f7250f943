/- The walk of the law FnGoldCode. -/
import Derived.Test.YtbkppjelljljcaaDrawTaps
import Derived.Test.YtbkppjelljljcaaFamGoldL
import Derived.Test.YtbkppjelljljcaaSeqAlg
import Derived.Test.YtbkppjelljljcaaSeqYes
namespace Go.Proofs.Ytbkppjelljljcaa
open Go.RowKit
set_option linter.unusedVariables false
set_option maxHeartbeats 1600000 in
set_option maxRecDepth 100000 in
theorem fnGoldCode_walk (a0 : Option Addr) (len0 cap0 : Nat) (z0 : List Int) (w : World) (w0 : IsBytes w a0 len0 cap0 z0) :
    Calls Try.prog 4 #[.slice a0 len0 cap0] w fun e w' => e = .returned (.bool true) ∧ Below w.heap.size w w' := by
  by_cases hl0 : 1048576 < len0
  · go_enter Try.func4, Try.ntmps4
    go_wp2
    go_ret
    exact ⟨rfl, Below.refl _ _⟩
  obtain ⟨M, hM⟩ := maxIs
  go_enter Try.func4, Try.ntmps4
  go_wp2_with fail
  refine (drawGoldC_any a0 len0 cap0 z0 _ w0).mono ?_
  rintro e W1 ⟨S, A, D, K, rfl, bc⟩
  clear w0
  have hi := fun w => iGoldC_any M hM S A D K w
  have hs := fun w => sGoldC_any M hM S A D K w
  by_cases hok : bothB M S A D = true ∧ -2 ≤ K ∧ K ≤ ((tw S.toNat : Nat) : Int) - 2
  · skip
    rw [goldC_yes hok] at hi hs
    obtain ⟨h6, ma, mb⟩ := (bothB_iff M S A D).1 hok.1
    have ta := (hM S A).1 ma
    have tb := (hM S D).1 mb
    obtain ⟨s2, s8, -, -⟩ := (tapsB_iff S A).1 ta
    have hx := fun w => iMaxSeq_any M hM S A w
    rw [show mseqAns M S A = (perS S A, true) by unfold mseqAns; rw [if_pos ma]] at hx
    have hy := fun w => iMaxSeq_any M hM S D w
    rw [show mseqAns M S D = (perS S D, true) by unfold mseqAns; rw [if_pos mb]] at hy
    have hf := fun w => iGoldF_any M hM S A D w
    rw [show gfN M S A D = tw S.toNat + 1 by unfold gfN; rw [hok.1]; rfl] at hf
    have hg := fun (j : Nat) (h : K + 2 = (j : Int)) => (show gfF S A D j = goldS S A D K by unfold gfF; rw [show (j : Int) - 2 = K by omega])
    obtain ⟨xo, x1, x2⟩ := (seqB_iff _).1 (perS_seq ta)
    obtain ⟨yo, y1, y2⟩ := (seqB_iff _).1 (perS_seq tb)
    have xs := perS_seq ta
    have ys := perS_seq tb
    have xy := perS_len (S := S) (a := A) (b := D)
    have xn : (perS S A).size + 1 = tw S.toNat := by have := tw_pos S.toNat; unfold perS; rw [runS_size]; omega
    have h2 : K = -2 → goldS S A D K = perS S A := fun h => by unfold goldS; rw [if_pos h]
    have h1 : K = -1 → goldS S A D K = perS S D := fun h => by unfold goldS; rw [if_neg (by omega), if_pos h]
    have h0 : 0 ≤ K → goldS S A D K = addS (perS S A) (shift (perS S D) K) := fun h => by unfold goldS; rw [if_neg (by omega), if_neg (by omega)]
    obtain ⟨X, hX⟩ : ∃ X, perS S A = X := ⟨_, rfl⟩
    obtain ⟨Y, hY⟩ : ∃ Y, perS S D = Y := ⟨_, rfl⟩
    obtain ⟨Z, hZ⟩ : ∃ Z, goldS S A D K = Z := ⟨_, rfl⟩
    rw [hX] at hx xo x1 x2 xs xy xn h2 h0
    rw [hY] at hy yo y1 y2 ys xy h1 h0
    rw [hZ] at hi hs h2 h1 h0
    simp only [hZ] at hg
    have hzn : Z.size + 1 = tw S.toNat := by
      rcases (by have := hok.2.1; omega : K = -2 ∨ K = -1 ∨ 0 ≤ K) with h | h | h
      · rw [h2 h]; exact xn
      · rw [h1 h, ← xy]; exact xn
      · rw [h0 h, addS_size]; exact xn
    have hshs := shift_size Y K
    have hsho := shift_ok Y K yo
    have hss := fun w => ssShift_yes Y K w ys
    obtain ⟨V, hV⟩ : ∃ V, shift Y K = V := ⟨_, rfl⟩
    rw [hV] at hshs hsho hss h0
    have had : 0 ≤ K → ∀ w, Calls Try.prog 15 #[.string Z, .string X] w fun e w' => e = .returned (.tuple #[.string V, .bool true]) ∧ Below w.heap.size w w' := fun h w => by
      have e := h0 h
      have hzo : okB Z Z.size = true := by rw [e]; exact addS_ok _ _
      have hzs : Z.size = X.size := by rw [e, addS_size]
      have hp : pairB Z X = true := (pairB_iff _ _).2 ⟨(seqB_iff _).2 ⟨hzo, by omega, by omega⟩, xs, hzs⟩
      have := iAdd_yes Z X w hp
      rw [show addS Z X = V by rw [e, addS_comm V X (by omega)]; exact addS_back V X hsho xo (by omega)] at this
      exact this
    obtain ⟨j, hj⟩ : ∃ j : Nat, K + 2 = (j : Int) := ⟨(K + 2).toNat, by have := hok.2.1; omega⟩
    have hgj := hg j hj
    obtain ⟨N, hN⟩ : ∃ N, tw S.toNat + 1 = N := ⟨_, rfl⟩
    rw [hN] at hf
    have hjN : j < N := by have := hok.2.2; omega
    have e3 : (Z.size : Int) + 2 = (N : Int) := by omega
    have hzl : Z.size ≤ 300 := by omega
    have k64 : -2 ≤ K ∧ K ≤ 300 := by have := hok.2; omega
    have HH := Lib.hid (And.intro h2 h1)
    have HE := Lib.hid e3
    have HJ := Lib.hid hj
    have HG := Lib.hid hgj
    have HK := Lib.hid k64
    clear hok h6 ma mb ta tb s2 s8 hg xo x1 x2 yo y1 y2 xs ys xy xn h2 h1 h0 hX hY hZ hzn hshs hsho hV hN hM e3 hj hgj k64
    have HI := Lib.hid hi
    have HS := Lib.hid hs
    have HX := Lib.hid hx
    have HY := Lib.hid hy
    have HF := Lib.hid hf
    have HSS := Lib.hid hss
    have HAD := Lib.hid had
    clear hi hs hx hy hf hss had
    go_wp2_with fail
    refine (HI.out _).mono ?_
    rintro e w1 ⟨rfl, hb2⟩
    have b3 := below_then bc (Nat.le_refl _) hb2
    clear bc hb2
    go_wp2_with fail
    refine (HS.out _).mono ?_
    rintro e w4 ⟨rfl, hb5⟩
    have b6 := below_then b3 (Nat.le_refl _) hb5
    clear b3 hb5
    go_wp2_with fail
    refine (HX.out _).mono ?_
    rintro e w7 ⟨rfl, hb8⟩
    have b9 := below_then b6 (Nat.le_refl _) hb8
    clear b6 hb8
    go_wp2_with fail
    refine (HY.out _).mono ?_
    rintro e w10 ⟨rfl, hb11⟩
    have b12 := below_then b9 (Nat.le_refl _) hb11
    clear b9 hb11
    go_wp2_with fail
    refine (HF.out _).mono ?_
    rintro e w6 ⟨v, rfl, L6, hb⟩
    have b13 := below_then b12 (Nat.le_refl _) hb
    clear b12 hb
    obtain ⟨la, cap, rfl, hla⟩ := L6.form
    obtain ⟨g, rfl, -, hgl, hcc⟩ := hla (by omega)
    have cz := (hcc j hjN).1
    rw [HG.out] at cz
    have e3 := HE.out
    have e2 := HJ.out
    clear L6 hla hcc HI HS HX HY HF HG
    by_cases hk : K < 0
    · skip
      rcases (by have := HK.out; omega : K = -2 ∨ K = -1) with h | h
      · skip
        have hz := HH.out.1 h
        obtain rfl : j = 0 := by omega
        subst h
        subst hz
        clear e2 hk HK HH HJ HAD HSS HE
        go_wp2
        go_ret
        exact ⟨rfl, b13⟩
      · skip
        have hz := HH.out.2 h
        obtain rfl : j = 1 := by omega
        subst h
        subst hz
        clear e2 hk HK HH HJ HAD HSS HE
        go_wp2
        go_ret
        exact ⟨rfl, b13⟩
    · skip
      have HA := Lib.hid (HAD.out (by omega))
      have i0 : (0 : Int) ≤ (j : Int) := by omega
      have i1 : (j : Int) < (N : Int) := by omega
      have kb := HK.out
      clear HK HH HJ HE
      go_wp2_with fail
      refine (HA.out _).mono ?_
      rintro e w14 ⟨rfl, hb15⟩
      have b16 := below_then b13 (Nat.le_refl _) hb15
      clear b13 hb15
      go_wp2_with fail
      refine (HSS.out _).mono ?_
      rintro e w17 ⟨rfl, hb18⟩
      have b19 := below_then b16 (Nat.le_refl _) hb18
      clear b16 hb18
      go_wp2
      go_ret
      exact ⟨rfl, b19⟩
  · skip
    rw [goldC_no hok] at hi hs
    unfold noS at hi hs
    clear hok hM
    have HI := Lib.hid hi
    have HS := Lib.hid hs
    clear hi hs
    go_wp2_with fail
    refine (HI.out _).mono ?_
    rintro e w20 ⟨rfl, hb21⟩
    have b22 := below_then bc (Nat.le_refl _) hb21
    clear bc hb21
    go_wp2_with fail
    refine (HS.out _).mono ?_
    rintro e w23 ⟨rfl, hb24⟩
    have b25 := below_then b22 (Nat.le_refl _) hb24
    clear b22 hb24
    go_wp2
    go_ret
    exact ⟨rfl, b25⟩
end Go.Proofs.Ytbkppjelljljcaa
