/- The walk of the law FnMoveHops. -/
import Derived.Test.YtbllmgdnhjdphabDrawHop2
import Derived.Test.YtbllmgdnhjdphabHopLaw
namespace Go.Proofs.Ytbllmgdnhjdphab
open Go.RowKit
set_option linter.unusedVariables false
set_option maxHeartbeats 1600000 in
set_option maxRecDepth 100000 in
theorem fnMoveHops_walk (a0 : Option Addr) (len0 cap0 : Nat) (z0 : List Int) (w : World) (w0 : IsBytes w a0 len0 cap0 z0) :
    Calls Try.prog 8 #[.slice a0 len0 cap0] w fun e w' => e = .returned (.bool true) ∧ Below w.heap.size w w' := by
  by_cases hl0 : 1048576 < len0
  · go_enter Try.func8, Try.ntmps8
    go_wp2
    go_ret
    exact ⟨rfl, Below.refl _ _⟩
  go_enter Try.func8, Try.ntmps8
  go_wp2_with fail
  refine (drawMoveHops_any a0 len0 cap0 z0 _ w0).mono ?_
  rintro e W1 ⟨v, n, f, C, d, rfl, O0, hn, hf, hC, hd, bc⟩
  clear w0
  obtain ⟨sa, sc, rfl, -⟩ := O0.form
  clear hf
  have hi := fun w h => iMove_any (.slice sa n sc) n f C d w h (by omega)
  have hs := fun w h => sMove_any (.slice sa n sc) n f C d w h (by omega)
  cases hv : mvB n f C d with
  | false =>
    rw [hv, mv_no hv] at hi hs
    clear hv hC hd
    have HI := Lib.hid hi
    have HS := Lib.hid hs
    clear hi hs
    go_wp2_with fail
    refine (HI.out _ O0.ints).mono ?_
    rintro e w101 ⟨v1, rfl, O103, hb102⟩
    have O104 := O0.below hb102
    clear O0
    have b105 := below_then bc (Nat.le_refl _) hb102
    clear bc
    have bc := b105
    clear b105 hb102
    go_wp2_with fail
    refine (HS.out _ O104.ints).mono ?_
    rintro e w106 ⟨v2, rfl, O108, hb107⟩
    have O109 := O104.below hb107
    clear O104
    have O110 := O103.below hb107
    clear O103
    have b111 := below_then bc (Nat.le_refl _) hb107
    clear bc
    have bc := b111
    clear b111 hb107
    go_wp2_with fail
    refine (ssInts_same _ _ _ _ 0 _ _ O110 O108 (by omega)).mono ?_
    rintro e w' ⟨rfl, m112, rfl⟩
    have O114 := O109.drewN m112
    clear O109
    have O115 := O110.drewN m112
    clear O110
    have O116 := O108.drewN m112
    clear O108
    have bd := below_drewN bc m112
    clear bc
    have bc := bd
    clear bd
    obtain ⟨w113, hW⟩ : ∃ W, w106.drewN m112 = W := ⟨_, rfl⟩
    rw [hW] at O114 O115 O116 bc ⊢
    clear hW
    go_wp2_with fail
    refine (ssInts_same _ _ _ _ 0 _ _ O115 O116 (by omega)).mono ?_
    rintro e w' ⟨rfl, m117, rfl⟩
    have O119 := O114.drewN m117
    clear O114
    have O120 := O115.drewN m117
    clear O115
    have O121 := O116.drewN m117
    clear O116
    have bd := below_drewN bc m117
    clear bc
    have bc := bd
    clear bd
    obtain ⟨w118, hW⟩ : ∃ W, w113.drewN m117 = W := ⟨_, rfl⟩
    rw [hW] at O119 O120 O121 bc ⊢
    clear hW
    go_wp2
    go_ret
    exact ⟨rfl, bc⟩
  | true =>
    rw [hv, mvN_yes hv] at hi hs
    have hv2 := mvB_back hv
    obtain ⟨h1, h2⟩ := (mvB_iff _ _ _ _).1 hv
    obtain ⟨⟨c1, c2⟩, h3, h4⟩ := (hopB_iff _ _ _).1 h1
    obtain ⟨d1, d2⟩ := (mvD_iff d).1 h2
    have hb := fun u w h => iMove_any u n (mvF f C d) C (-d) w h (by omega)
    rw [hv2, mvN_yes hv2] at hb
    have hh := fun u w h => iHops_any u n (mvF f C d) C w h (by omega)
    rw [hopB_mv d h1] at hh
    have hbk := fun i (hi : i < n) => mvF_back (d := d) h1 hi
    have hcl := fun u v w h1 h2 => iColl_w u n f v n (mvF f C d) 0 w h1 (by omega) h2 (by omega)
    have hw : IntKind.i64.wrap (-d) = -d := IntWalk.i64_in _ (by omega)
    have l0 : ¬ (C = 0) := by omega
    have l1 : (C == 0) = false := by simp; omega
    by_cases q0 : n = 0
    · subst q0
      obtain ⟨q, hq⟩ : ∃ q, colV 0 0 f (mvF f C d) 0 = q := ⟨_, rfl⟩
      rw [hq] at hcl
      obtain ⟨X, hX⟩ : ∃ X, mvF f C d = X := ⟨_, rfl⟩
      rw [hX] at hi hs hb hh hcl hbk
      clear hX hq hv hv2 h1 h2 h4 hC hd
      have HI := Lib.hid hi
      have HS := Lib.hid hs
      have HB := Lib.hid hb
      have HH := Lib.hid hh
      have HCL := Lib.hid hcl
      have HBK := Lib.hid hbk
      clear hi hs hb hh hcl hbk
      go_wp2_with fail
      refine (HI.out _ O0.ints).mono ?_
      rintro e w201 ⟨v1, rfl, O203, hb202⟩
      have O204 := O0.below hb202
      clear O0
      have b205 := below_then bc (Nat.le_refl _) hb202
      clear bc
      have bc := b205
      clear b205 hb202
      obtain ⟨sa206, sc206, rfl, -⟩ := O203.form
      go_wp2_with fail
      refine (HS.out _ O204.ints).mono ?_
      rintro e w207 ⟨v2, rfl, O209, hb208⟩
      have O210 := O204.below hb208
      clear O204
      have O211 := O203.below hb208
      clear O203
      have b212 := below_then bc (Nat.le_refl _) hb208
      clear bc
      have bc := b212
      clear b212 hb208
      go_wp2_with fail
      refine (ssInts_same _ _ _ _ 0 _ _ O211 O209 (by omega)).mono ?_
      rintro e w' ⟨rfl, m213, rfl⟩
      have O215 := O210.drewN m213
      clear O210
      have O216 := O211.drewN m213
      clear O211
      have O217 := O209.drewN m213
      clear O209
      have bd := below_drewN bc m213
      clear bc
      have bc := bd
      clear bd
      obtain ⟨w214, hW⟩ : ∃ W, w207.drewN m213 = W := ⟨_, rfl⟩
      rw [hW] at O215 O216 O217 bc ⊢
      clear hW
      clear O217
      go_wp2_with fail
      refine (HB.out _ _ O216.ints).mono ?_
      rintro e w218 ⟨v3, rfl, O220, hb219⟩
      have O221 := O215.below hb219
      clear O215
      have O222 := O216.below hb219
      clear O216
      have b223 := below_then bc (Nat.le_refl _) hb219
      clear bc
      have bc := b223
      clear b223 hb219
      have O3 := O220.congr (g := f) (fun j hj => HBK.out j hj)
      clear O220
      go_wp2_with fail
      refine (ssInts_same _ _ _ _ 0 _ _ O3 O221 (by omega)).mono ?_
      rintro e w' ⟨rfl, m224, rfl⟩
      have O226 := O221.drewN m224
      clear O221
      have O227 := O222.drewN m224
      clear O222
      have O228 := O3.drewN m224
      clear O3
      have bd := below_drewN bc m224
      clear bc
      have bc := bd
      clear bd
      obtain ⟨w225, hW⟩ : ∃ W, w218.drewN m224 = W := ⟨_, rfl⟩
      rw [hW] at O226 O227 O228 bc ⊢
      clear hW
      go_wp2_with fail
      refine (HH.out _ _ O227.ints).mono ?_
      rintro e w' ⟨rfl, rfl⟩
      go_wp2_with fail
      refine (HCL.out _ _ _ O226.intsC O227.intsC).mono ?_
      rintro e w229 ⟨rfl, hb230⟩
      have O231 := O226.below hb230
      clear O226
      have O232 := O227.below hb230
      clear O227
      have O233 := O228.below hb230
      clear O228
      have b234 := below_then bc (Nat.le_refl _) hb230
      clear bc
      have bc := b234
      clear b234 hb230
      go_wp2
      go_ret
      exact ⟨rfl, bc⟩
    have h0 : 0 < n := by omega
    have q1 : ((n : Int) == 0) = false := by simp; omega
    have s1 : someB n f = true := (someB_iff _ _).2 ⟨h0, h3, fun k hk => by have := h4 k hk; omega⟩
    have s2 : someB n (mvF f C d) = true := (someB_iff _ _).2 ⟨h0, h3, fun k hk => by have := mvF_in (z := f) (d := d) c1 k; omega⟩
    have e1 : ∀ g j, j < n → shF n g 0 j = g j := fun g j hj => shF_nought (modN_zero n) hj
    by_cases qd : d.tmod C = 0
    · skip
      have hm : colV n n f (mvF f C d) 0 = n := by rw [colV_yes 0 s1 s2, mtC_all fun j hj => by rw [e1 _ j hj, mvF_zero h1 qd hj]]
      rw [hm] at hcl
      obtain ⟨X, hX⟩ : ∃ X, mvF f C d = X := ⟨_, rfl⟩
      rw [hX] at hi hs hb hh hcl hbk
      clear hX hm hv hv2 h1 h2 h4 s1 s2 e1 hC hd
      have HI := Lib.hid hi
      have HS := Lib.hid hs
      have HB := Lib.hid hb
      have HH := Lib.hid hh
      have HCL := Lib.hid hcl
      have HBK := Lib.hid hbk
      clear hi hs hb hh hcl hbk
      go_wp2_with fail
      refine (HI.out _ O0.ints).mono ?_
      rintro e w201 ⟨v1, rfl, O203, hb202⟩
      have O204 := O0.below hb202
      clear O0
      have b205 := below_then bc (Nat.le_refl _) hb202
      clear bc
      have bc := b205
      clear b205 hb202
      obtain ⟨sa206, sc206, rfl, -⟩ := O203.form
      go_wp2_with fail
      refine (HS.out _ O204.ints).mono ?_
      rintro e w207 ⟨v2, rfl, O209, hb208⟩
      have O210 := O204.below hb208
      clear O204
      have O211 := O203.below hb208
      clear O203
      have b212 := below_then bc (Nat.le_refl _) hb208
      clear bc
      have bc := b212
      clear b212 hb208
      go_wp2_with fail
      refine (ssInts_same _ _ _ _ n _ _ O211 O209 (by omega)).mono ?_
      rintro e w' ⟨rfl, m213, rfl⟩
      have O215 := O210.drewN m213
      clear O210
      have O216 := O211.drewN m213
      clear O211
      have O217 := O209.drewN m213
      clear O209
      have bd := below_drewN bc m213
      clear bc
      have bc := bd
      clear bd
      obtain ⟨w214, hW⟩ : ∃ W, w207.drewN m213 = W := ⟨_, rfl⟩
      rw [hW] at O215 O216 O217 bc ⊢
      clear hW
      clear O217
      go_wp2_with fail
      refine (HB.out _ _ O216.ints).mono ?_
      rintro e w218 ⟨v3, rfl, O220, hb219⟩
      have O221 := O215.below hb219
      clear O215
      have O222 := O216.below hb219
      clear O216
      have b223 := below_then bc (Nat.le_refl _) hb219
      clear bc
      have bc := b223
      clear b223 hb219
      have O3 := O220.congr (g := f) (fun j hj => HBK.out j hj)
      clear O220
      go_wp2_with fail
      refine (ssInts_same _ _ _ _ n _ _ O3 O221 (by omega)).mono ?_
      rintro e w' ⟨rfl, m224, rfl⟩
      have O226 := O221.drewN m224
      clear O221
      have O227 := O222.drewN m224
      clear O222
      have O228 := O3.drewN m224
      clear O3
      have bd := below_drewN bc m224
      clear bc
      have bc := bd
      clear bd
      obtain ⟨w225, hW⟩ : ∃ W, w218.drewN m224 = W := ⟨_, rfl⟩
      rw [hW] at O226 O227 O228 bc ⊢
      clear hW
      go_wp2_with fail
      refine (HH.out _ _ O227.ints).mono ?_
      rintro e w' ⟨rfl, rfl⟩
      go_wp2_with fail
      refine (HCL.out _ _ _ O226.intsC O227.intsC).mono ?_
      rintro e w229 ⟨rfl, hb230⟩
      have O231 := O226.below hb230
      clear O226
      have O232 := O227.below hb230
      clear O227
      have O233 := O228.below hb230
      clear O228
      have b234 := below_then bc (Nat.le_refl _) hb230
      clear bc
      have bc := b234
      clear b234 hb230
      go_wp2
      go_ret
      exact ⟨rfl, bc⟩
    · skip
      have hm : colV n n f (mvF f C d) 0 = (0 : Nat) := by rw [colV_yes 0 s1 s2, mtC_none fun j hj => by rw [e1 _ j hj]; exact mvF_ne h1 qd hj]
      rw [hm] at hcl
      have qd2 : (d.tmod C == 0) = false := by simpa using qd
      have qd3 : (d.tmod C != 0) = true := by simpa using qd
      obtain ⟨X, hX⟩ : ∃ X, mvF f C d = X := ⟨_, rfl⟩
      rw [hX] at hi hs hb hh hcl hbk
      clear hX hm hv hv2 h1 h2 h4 s1 s2 e1 hC hd
      have HI := Lib.hid hi
      have HS := Lib.hid hs
      have HB := Lib.hid hb
      have HH := Lib.hid hh
      have HCL := Lib.hid hcl
      have HBK := Lib.hid hbk
      clear hi hs hb hh hcl hbk
      go_wp2_with fail
      refine (HI.out _ O0.ints).mono ?_
      rintro e w201 ⟨v1, rfl, O203, hb202⟩
      have O204 := O0.below hb202
      clear O0
      have b205 := below_then bc (Nat.le_refl _) hb202
      clear bc
      have bc := b205
      clear b205 hb202
      obtain ⟨sa206, sc206, rfl, -⟩ := O203.form
      go_wp2_with fail
      refine (HS.out _ O204.ints).mono ?_
      rintro e w207 ⟨v2, rfl, O209, hb208⟩
      have O210 := O204.below hb208
      clear O204
      have O211 := O203.below hb208
      clear O203
      have b212 := below_then bc (Nat.le_refl _) hb208
      clear bc
      have bc := b212
      clear b212 hb208
      go_wp2_with fail
      refine (ssInts_same _ _ _ _ n _ _ O211 O209 (by omega)).mono ?_
      rintro e w' ⟨rfl, m213, rfl⟩
      have O215 := O210.drewN m213
      clear O210
      have O216 := O211.drewN m213
      clear O211
      have O217 := O209.drewN m213
      clear O209
      have bd := below_drewN bc m213
      clear bc
      have bc := bd
      clear bd
      obtain ⟨w214, hW⟩ : ∃ W, w207.drewN m213 = W := ⟨_, rfl⟩
      rw [hW] at O215 O216 O217 bc ⊢
      clear hW
      clear O217
      go_wp2_with fail
      refine (HB.out _ _ O216.ints).mono ?_
      rintro e w218 ⟨v3, rfl, O220, hb219⟩
      have O221 := O215.below hb219
      clear O215
      have O222 := O216.below hb219
      clear O216
      have b223 := below_then bc (Nat.le_refl _) hb219
      clear bc
      have bc := b223
      clear b223 hb219
      have O3 := O220.congr (g := f) (fun j hj => HBK.out j hj)
      clear O220
      go_wp2_with fail
      refine (ssInts_same _ _ _ _ n _ _ O3 O221 (by omega)).mono ?_
      rintro e w' ⟨rfl, m224, rfl⟩
      have O226 := O221.drewN m224
      clear O221
      have O227 := O222.drewN m224
      clear O222
      have O228 := O3.drewN m224
      clear O3
      have bd := below_drewN bc m224
      clear bc
      have bc := bd
      clear bd
      obtain ⟨w225, hW⟩ : ∃ W, w218.drewN m224 = W := ⟨_, rfl⟩
      rw [hW] at O226 O227 O228 bc ⊢
      clear hW
      go_wp2_with fail
      refine (HH.out _ _ O227.ints).mono ?_
      rintro e w' ⟨rfl, rfl⟩
      go_wp2_with fail
      refine (HCL.out _ _ _ O226.intsC O227.intsC).mono ?_
      rintro e w229 ⟨rfl, hb230⟩
      have O231 := O226.below hb230
      clear O226
      have O232 := O227.below hb230
      clear O227
      have O233 := O228.below hb230
      clear O228
      have b234 := below_then bc (Nat.le_refl _) hb230
      clear bc
      have bc := b234
      clear b234 hb230
      go_wp2
      go_ret
      exact ⟨rfl, bc⟩
end Go.Proofs.Ytbllmgdnhjdphab
