/- The walk of the law FnScoreTable. -/
import Derived.Test.YtmeooebklohdfaaDrawPil6
import Derived.Test.YtmeooebklohdfaaPil12a
import Derived.Test.YtmeooebklohdfaaPilLaw
import Derived.Test.YtmeooebklohdfaaSsPil
import Derived.Test.YtmeooebklohdfaaSsSame
import Derived.Deep.RegionHeld3
import Derived.BigQuiet
namespace Go.Proofs.Ytmeooebklohdfaa
open Go.RowKit
set_option linter.unusedVariables false
theorem cell_below {w w' : World} {B : Nat} {x : Addr} {v : Value} (h : w.cell? x = some v) (hb : Below B w w') (hx : x.block < B) : w'.cell? x = some v := by rw [hb.cell hx]; exact h
set_option maxHeartbeats 12800000 in
set_option maxRecDepth 100000 in
theorem fnScoreTable_walk (a0 : Option Addr) (len0 cap0 : Nat) (z0 : List Int) (a1 : Option Addr) (len1 cap1 : Nat) (z1 : List Int) (w : World) (w0 : IsBytes w a0 len0 cap0 z0) (w1 : IsBytes w a1 len1 cap1 z1) :
    Calls Try.prog 5 #[.slice a0 len0 cap0, .slice a1 len1 cap1] w fun e w' => e = .returned (.bool true) ∧ Below w.heap.size w w' := by
  by_cases hl0 : 1048576 < len0
  · go_enter Try.func5, Try.ntmps5
    go_wp2
    go_ret
    exact ⟨rfl, Below.refl _ _⟩
  by_cases hl1 : 1048576 < len1
  · go_enter Try.func5, Try.ntmps5
    go_wp2
    go_ret
    exact ⟨rfl, Below.refl _ _⟩
  clear w1
  go_enter Try.func5, Try.ntmps5
  go_wp2_with fail
  refine (drawTable_any a0 len0 cap0 z0 _ w0).mono ?_
  rintro e W1 ⟨v, n, f, c, g, rfl, O0, hn, hf, hc, hg, bc0⟩
  obtain ⟨sa, sc, rfl, -⟩ := O0.form
  have Q0 := PilAt.new W1 24 c g
  have bc := bc0.alloc bc0.size (.cells #[.string c, .int .i64 g] 24)
  have OV := O0.alloc (.cells #[.string c, .int .i64 g] 24)
  clear w0 bc0 O0 hf
  obtain ⟨V, hV⟩ : ∃ V, W1.alloc (.cells #[.string c, .int .i64 g] 24) = V := ⟨_, rfl⟩
  obtain ⟨X, hX⟩ : ∃ X, W1.heap.size = X := ⟨_, rfl⟩
  have HVV := Lib.hid hV
  have HXX := Lib.hid hX
  rw [hV] at Q0 bc OV
  rw [hX] at Q0
  clear hV hX
  have ht := fun w h => iTable_any (.slice sa n sc) n f c g w h (by omega) (by omega)
  have hs := fun w h => sTable_any (.slice sa n sc) n f c g w h (by omega) (by omega)
  cases hr : rdB n f c g with
  | false =>
    rw [st_no hr] at ht hs
    have HT := Lib.hid ht
    have HS := Lib.hid hs
    clear ht hs
    clear hr
    obtain ⟨d0, d1, dl⟩ := id Q0
    rw [← HVV.out, ← HXX.out] at d0 d1
    go_wp2_with fail
    clear d0 d1 dl
    rw [HVV.out, HXX.out]
    refine (HT.out _ OV.intsC).mono ?_
    rintro e w101 ⟨u, rfl, O103, hb102⟩
    have O104 := OV.below hb102
    clear OV
    have Q105 := Q0.below hb102 Q0.2.2
    clear Q0
    have b106 := below_then bc (Nat.le_refl _) hb102
    clear bc
    have bc := b106
    clear b106 hb102
    obtain ⟨la, lc, rfl, -⟩ := O103.form
    obtain ⟨d0, d1, dl⟩ := id Q105
    go_wp2_with fail
    refine (HS.out _ O104.ints).mono ?_
    rintro e w107 ⟨u2, rfl, O109, hb108⟩
    clear d0 d1 dl
    have O110 := O104.below hb108
    clear O104
    have O111 := O103.below hb108
    clear O103
    have Q112 := Q105.below hb108 Q105.2.2
    clear Q105
    have b113 := below_then bc (Nat.le_refl _) hb108
    clear bc
    have bc := b113
    clear b113 hb108
    go_wp2_with fail
    refine (ssInts_same _ _ _ _ 0 _ _ O111 O109 (by omega)).mono ?_
    rintro e w' ⟨rfl, m114, rfl⟩
    have O116 := O110.drewN m114
    clear O110
    have O117 := O111.drewN m114
    clear O111
    have O118 := O109.drewN m114
    clear O109
    have Q119 := Q112.below (below_drewN (Below.refl _ _) m114) Q112.2.2
    clear Q112
    have bd := below_drewN bc m114
    clear bc
    have bc := bd
    clear bd
    obtain ⟨w115, hW⟩ : ∃ W, w107.drewN m114 = W := ⟨_, rfl⟩
    rw [hW] at O116 O117 O118 Q119 bc ⊢
    clear hW
    obtain ⟨d0, d1, dl⟩ := id Q119
    go_wp2_with fail
    refine (HS.out _ O116.ints).mono ?_
    rintro e w120 ⟨u3, rfl, O122, hb121⟩
    clear d0 d1 dl
    have O123 := O116.below hb121
    clear O116
    have O124 := O117.below hb121
    clear O117
    have O125 := O118.below hb121
    clear O118
    have Q126 := Q119.below hb121 Q119.2.2
    clear Q119
    have b127 := below_then bc (Nat.le_refl _) hb121
    clear bc
    have bc := b127
    clear b127 hb121
    go_wp2_with fail
    refine (ssInts_same _ _ _ _ 0 _ _ O124 O122 (by omega)).mono ?_
    rintro e w' ⟨rfl, m128, rfl⟩
    have O130 := O123.drewN m128
    clear O123
    have O131 := O124.drewN m128
    clear O124
    have O132 := O125.drewN m128
    clear O125
    have O133 := O122.drewN m128
    clear O122
    have Q134 := Q126.below (below_drewN (Below.refl _ _) m128) Q126.2.2
    clear Q126
    have bd := below_drewN bc m128
    clear bc
    have bc := bd
    clear bd
    obtain ⟨w129, hW⟩ : ∃ W, w120.drewN m128 = W := ⟨_, rfl⟩
    rw [hW] at O130 O131 O132 O133 Q134 bc ⊢
    clear hW
    go_wp2
    go_ret
    exact ⟨rfl, bc⟩
  | true =>
    rw [st_yes hr] at ht hs
    obtain ⟨r1, r2⟩ := (rdB_iff _ _ _ _).1 hr
    obtain ⟨G, rfl, g1, g8, -, q4, -, -, q7, p1, p2⟩ := pil_nat r2
    have hl := fun w => iPLen_any c (G : Int) w (by omega)
    rw [show lenAns c (G : Int) = (perL c (G : Int) : Int) by unfold lenAns; rw [if_pos r2]] at hl
    have hoff : ∀ j : Nat, j < perL c (G : Int) → offB c (G : Int) (j : Int) = true := fun j hj => (offB_iff _ _ _).2 ⟨r2, by omega, by omega⟩
    have hsc : ∀ j : Nat, j < perL c (G : Int) → ∀ w, IntsC w (.slice sa n sc) n f → Calls Try.prog 26 #[(.slice sa n sc), .agg #[.string c, .int .i64 (G : Int)], .int .i64 (j : Int)] w fun e w' => e = .returned (.int .i64 (stF n f c (G : Int) j)) ∧ Below w.heap.size w w' := fun j hj w h => by
      have h1 := ssScore_any (.slice sa n sc) n f c (G : Int) (j : Int) w h (by omega) (by omega)
      rw [sc_yes ((roB_iff _ _ _ _ _).2 ⟨r1, hoff j hj⟩)] at h1
      exact h1
    have hpb : psB (perL c (G : Int) : Int) 2 = true := (psB_iff _ _).2 ⟨by omega, by omega, by omega, by omega⟩
    have hsp : ∀ j : Nat, j < perL c (G : Int) → ∀ w, Calls Try.prog 20 #[.agg #[.string c, .int .i64 (G : Int)], .int .i64 (j : Int), .int .i64 (perL c (G : Int) : Int), .int .i64 2] w fun e w' => ∃ u, e = .returned u ∧ OF w' w.heap.size u (perL c (G : Int)) (psF c (G : Int) (j : Int) 2) ∧ Below w.heap.size w w' := fun j hj w => by
      have h1 := ssPilot_any c (G : Int) (j : Int) (perL c (G : Int) : Int) 2 w (by omega)
      rw [(ps_yes (hoff j hj) hpb).2, Int.toNat_natCast (perL c (G : Int))] at h1
      exact h1
    have hta : ∀ (j : Nat) (u : Value) w, IntsC w u (perL c (G : Int)) (psF c (G : Int) (j : Int) 2) → Calls Try.prog 28 #[u, .agg #[.string c, .int .i64 (G : Int)]] w fun e w' => ∃ x, e = .returned x ∧ OF w' w.heap.size x (perL c (G : Int)) (stF (perL c (G : Int)) (psF c (G : Int) (j : Int) 2) c (G : Int)) ∧ Below w.heap.size w w' := fun j u w h => by
      have h1 := iTable_any u (perL c (G : Int)) (psF c (G : Int) (j : Int) 2) c (G : Int) w h (by omega) (by omega)
      have h2 : sigB (perL c (G : Int)) (psF c (G : Int) (j : Int) 2) = true := (ps_sig q4 (by rw [Int.toNat_natCast]; exact q7) p1 (by omega) (by omega) (j : Int) (by omega)).2
      rw [st_yes ((rdB_iff _ _ _ _).2 ⟨h2, r2⟩)] at h1
      exact h1
    have htr : ∀ k i : Nat, k < perL c (G : Int) → stF (perL c (G : Int)) (psF c (G : Int) (k : Int) 2) c (G : Int) ((i + k) % perL c (G : Int)) = stF (perL c (G : Int)) (psF c (G : Int) ((0 : Nat) : Int) 2) c (G : Int) i := fun k i hk => scr_turn c (G : Int).toNat (perL c (G : Int)) k i 2 hk
    obtain ⟨F, hF⟩ : ∃ F, stF n f c (G : Int) = F := ⟨_, rfl⟩
    rw [hF] at ht hs hsc
    clear hF
    obtain ⟨N, hN⟩ : ∃ N, perL c (G : Int) = N := ⟨_, rfl⟩
    rw [hN] at ht hs hl hsc hsp hta htr p1 p2
    clear hN hr r1 r2 hoff hpb q4 q7
    have n0 : ¬ ((N : Int) = 0) := by omega
    have n1 : ((N : Int) == 0) = false := by simp; omega
    have n2 : ¬ N = 0 := by omega
    have HT := Lib.hid ht
    have HS := Lib.hid hs
    have HL := Lib.hid hl
    have HSC := Lib.hid hsc
    have HSP := Lib.hid hsp
    have HTA := Lib.hid hta
    have HTR := Lib.hid htr
    clear ht hs hl hsc hsp hta htr
    obtain ⟨d0, d1, dl⟩ := id Q0
    rw [← HVV.out, ← HXX.out] at d0 d1
    go_wp2_with fail
    clear d0 d1 dl
    rw [HVV.out, HXX.out]
    refine (HT.out _ OV.intsC).mono ?_
    rintro e w235 ⟨u, rfl, O237, hb236⟩
    have O238 := OV.below hb236
    clear OV
    have Q239 := Q0.below hb236 Q0.2.2
    clear Q0
    have b240 := below_then bc (Nat.le_refl _) hb236
    clear bc
    have bc := b240
    clear b240 hb236
    obtain ⟨d0, d1, dl⟩ := id Q239
    go_wp2_with fail
    refine (HS.out _ O238.ints).mono ?_
    rintro e w241 ⟨u2, rfl, O243, hb242⟩
    clear d0 d1 dl
    have O244 := O238.below hb242
    clear O238
    have O245 := O237.below hb242
    clear O237
    have Q246 := Q239.below hb242 Q239.2.2
    clear Q239
    have b247 := below_then bc (Nat.le_refl _) hb242
    clear bc
    have bc := b247
    clear b247 hb242
    obtain ⟨la, lc, rfl, -⟩ := O245.form
    go_wp2_with fail
    refine (ssInts_same _ _ _ _ N F _ O245 O243 (by omega)).mono ?_
    rintro e w' ⟨rfl, m248, rfl⟩
    have O250 := O244.drewN m248
    clear O244
    have O251 := O245.drewN m248
    clear O245
    have O252 := O243.drewN m248
    clear O243
    have Q253 := Q246.below (below_drewN (Below.refl _ _) m248) Q246.2.2
    clear Q246
    have bd := below_drewN bc m248
    clear bc
    have bc := bd
    clear bd
    obtain ⟨w249, hW⟩ : ∃ W, w241.drewN m248 = W := ⟨_, rfl⟩
    rw [hW] at O250 O251 O252 Q253 bc ⊢
    clear hW
    clear O252
    go_wp2_with fail
    go_loopw [8] (fun i wr => ∃ j : Nat, j ≤ N ∧ i = .int .i64 (j : Int) ∧ Below w249.heap.size w249 wr) (fun i _ => N - (intOf i).toNat)
    case atStart => exact ⟨0, by omega, rfl, Below.refl _ _⟩
    case round =>
      obtain ⟨j, hj, rfl, rb⟩ := hrel
      have O1 := O250.below rb
      have L1 := O251.below rb
      have Q1 := Q253.below rb Q253.2.2
      have b1 := below_then bc (Nat.le_refl _) rb
      clear O250 O251 Q253 bc
      by_cases hlt : j < N
      · skip
        have i0 : (0 : Int) ≤ (j : Int) := by omega
        have i1 : (j : Int) < (N : Int) := by omega
        obtain ⟨x, rfl, hxl, c0⟩ := L1.ints.cellsP j hlt
        have HSJ := Lib.hid (HSC.out j hlt)
        obtain ⟨y, hy⟩ : ∃ y, F j = y := ⟨_, rfl⟩
        have HSK := HSJ.out
        rw [hy] at c0 HSK
        replace HSJ := Lib.hid HSK
        clear hy HSK
        replace hxl : (x.add j).block < wr.heap.size := by unfold Addr.add; split <;> exact hxl
        have kk := (Below.refl wr.heap.size wr).drew
        obtain ⟨e0, e1, el⟩ := Q1.below kk Q1.2.2
        have e2 := cell_below c0 kk hxl
        have I1 := O1.intsC.below kk
        have rb3 := rb.drew
        obtain ⟨d0, d1, dl⟩ := id Q1
        go_wp2_with fail
        go_region_held3 (fun wx => wx.cell? ⟨X, 0, none⟩ = some (.string c) ∧ wx.cell? ⟨X, 1, none⟩ = some (.int .i64 (G : Int)) ∧ wx.cell? (x.add j) = some (.int .i64 y)) (first | with_reducible exact ⟨m0, m1, m2⟩ | with_reducible exact ⟨e0, e1, e2⟩) (first
          | (go_at_call 26; refine (HSJ.out _ I1).mono ?_; rintro e w9 ⟨rfl, hb9⟩; have kk9 := below_then kk (Nat.le_refl _) hb9; obtain ⟨m0, m1, ml⟩ := Q1.below kk9 Q1.2.2; have m2 := cell_below c0 kk9 hxl; have rb9 := below_then rb3 (Nat.le_refl _) hb9))
        clear e0 e1 e2 el d0 d1 dl m0 m1 m2 ml c0
        go_wp2
        go_roundw
        case rel => exact ⟨j + 1, by omega, by go_num, rb9⟩
        case measure => simp [intOf]; omega
      · skip
        obtain rfl : N = j := by omega
        clear rb hj hlt HSC
        have bc := b1
        clear b1
        clear O1
        obtain ⟨K, hK⟩ : ∃ K, len1 % N = K := ⟨_, rfl⟩
        have m1 : (len1 : Int).tmod (N : Int) = (K : Int) := by rw [Int.tmod_eq_emod_of_nonneg (by omega), ← hK, Int.natCast_emod]
        have hKN : K < N := by rw [← hK]; exact Nat.mod_lt _ (by omega)
        clear hK
        have HTR := Lib.hid (fun i => HTR.out K i hKN)
        have HX := Lib.hid (HSP.out K hKN)
        have HY := Lib.hid (HSP.out 0 (by omega))
        have HTX := Lib.hid (HTA.out K)
        have HTY := Lib.hid (HTA.out 0)
        obtain ⟨d0, d1, dl⟩ := id Q1
        go_wp2_with fail
        refine (HX.out _).mono ?_
        rintro e w554 ⟨x1, rfl, O556, hb555⟩
        clear d0 d1 dl
        have O557 := L1.below hb555
        clear L1
        have Q558 := Q1.below hb555 Q1.2.2
        clear Q1
        have b559 := below_then bc (Nat.le_refl _) hb555
        clear bc
        have bc := b559
        clear b559 hb555
        obtain ⟨d0, d1, dl⟩ := id Q558
        go_wp2_with fail
        refine (HY.out _).mono ?_
        rintro e w560 ⟨x2, rfl, O562, hb561⟩
        clear d0 d1 dl
        have O563 := O557.below hb561
        clear O557
        have O564 := O556.below hb561
        clear O556
        have Q565 := Q558.below hb561 Q558.2.2
        clear Q558
        have b566 := below_then bc (Nat.le_refl _) hb561
        clear bc
        have bc := b566
        clear b566 hb561
        obtain ⟨d0, d1, dl⟩ := id Q565
        go_wp2_with fail
        refine (HTX.out _ _ O564.intsC).mono ?_
        rintro e w567 ⟨x3, rfl, O569, hb568⟩
        clear d0 d1 dl
        have O570 := O563.below hb568
        clear O563
        have O571 := O564.below hb568
        clear O564
        have O572 := O562.below hb568
        clear O562
        have Q573 := Q565.below hb568 Q565.2.2
        clear Q565
        have b574 := below_then bc (Nat.le_refl _) hb568
        clear bc
        have bc := b574
        clear b574 hb568
        clear O571
        obtain ⟨d0, d1, dl⟩ := id Q573
        go_wp2_with fail
        refine (HTY.out _ _ O572.intsC).mono ?_
        rintro e w575 ⟨x4, rfl, O577, hb576⟩
        clear d0 d1 dl
        have O578 := O570.below hb576
        clear O570
        have O579 := O572.below hb576
        clear O572
        have O580 := O569.below hb576
        clear O569
        have Q581 := Q573.below hb576 Q573.2.2
        clear Q573
        have b582 := below_then bc (Nat.le_refl _) hb576
        clear bc
        have bc := b582
        clear b582 hb576
        clear O579
        obtain ⟨FA, hFA⟩ : ∃ F, stF N (psF c (G : Int) (K : Int) 2) c (G : Int) = F := ⟨_, rfl⟩
        have HTA := HTR.out
        rw [hFA] at O580
        simp only [hFA] at HTA
        replace HTR := Lib.hid HTA
        clear hFA HTA
        obtain ⟨FB, hFB⟩ : ∃ F, stF N (psF c (G : Int) ((0 : Nat) : Int) 2) c (G : Int) = F := ⟨_, rfl⟩
        have HTB := HTR.out
        rw [hFB] at O577
        simp only [hFB] at HTB
        replace HTR := Lib.hid HTB
        clear hFB HTB
        obtain ⟨aa, ac, rfl, -⟩ := O580.form
        obtain ⟨ba, bbc, rfl, -⟩ := O577.form
        go_wp2_with fail
        have C_a := Lib.hid O580.ints.cellsP
        have C_b := Lib.hid O577.ints.cellsP
        go_loopw [14] (fun i wr => ∃ j m : Nat, j ≤ N ∧ i = .int .i64 j ∧ wr = w575.drewN m) (fun i _ => N - (intOf i).toNat)
        case atStart => exact ⟨0, 0, by omega, rfl, rfl⟩
        case round =>
          obtain ⟨j, q, hj, rfl, rfl⟩ := hrel
          by_cases hlt : j < N
          · skip
            have i0 : (0 : Int) ≤ (j : Int) := by omega
            have i1 : (j : Int) < (N : Int) := by omega
            obtain ⟨A, hA⟩ : ∃ A, j + K = A := ⟨_, rfl⟩
            obtain ⟨R, hR⟩ : ∃ R, A % N = R := ⟨_, rfl⟩
            have hRN : R < N := by rw [← hR]; exact Nat.mod_lt _ (by omega)
            have a1 : IntKind.i64.wrap ((j : Int) + (K : Int)) = (A : Int) := by rw [IntWalk.i64_in _ (by omega)]; omega
            have a2 : (A : Int).tmod (N : Int) = (R : Int) := by rw [Int.tmod_eq_emod_of_nonneg (by omega), ← hR, Int.natCast_emod]
            have r0 : (0 : Int) ≤ (R : Int) := by omega
            have r1 : (R : Int) < (N : Int) := by omega
            have e := HTR.out j
            rw [hA, hR] at e
            clear hA hR
            obtain ⟨x, rfl, -, c0⟩ := C_a.out R hRN
            obtain ⟨y, rfl, -, c1⟩ := C_b.out j hlt
            have c0 : (w575.drewN q).cell? (x.add R) = some (.int .i64 (FA R)) := c0
            have c1 : (w575.drewN q).cell? (y.add j) = some (.int .i64 (FB j)) := c1
            rw [e] at c0
            obtain ⟨z, hz⟩ : ∃ z, FB j = z := ⟨_, rfl⟩
            rw [hz] at c0 c1
            clear hz e
            obtain ⟨W, hW⟩ : ∃ W, w575.drewN q = W := ⟨_, rfl⟩
            rw [hW] at c0 c1 ⊢
            have HW := Lib.hid hW
            clear hW
            go_wp2_with fail
            go_quiet (fail)
            clear c0 c1
            go_wp2
            go_roundw
            case rel => exact ⟨j + 1, q + nq, by omega, by go_num, by rw [← HW.out, World.drewN_drewN]⟩
            case measure => simp [intOf]; omega
          · skip
            obtain rfl : N = j := by omega
            clear C_a C_b hj hlt HTR
            have O884 := O578.drewN q
            clear O578
            have O885 := O580.drewN q
            clear O580
            have O886 := O577.drewN q
            clear O577
            have Q887 := Q581.below (below_drewN (Below.refl _ _) q) Q581.2.2
            clear Q581
            have bd := below_drewN bc q
            clear bc
            have bc := bd
            clear bd
            obtain ⟨w883, hW⟩ : ∃ W, w575.drewN q = W := ⟨_, rfl⟩
            rw [hW] at O884 O885 O886 Q887 bc ⊢
            clear hW
            obtain ⟨d0, d1, dl⟩ := id Q887
            go_wp2_with fail
            refine (HL.out _).mono ?_
            rintro e w888 ⟨rfl, hb889⟩
            clear d0 d1 dl
            have O890 := O884.below hb889
            clear O884
            have O891 := O885.below hb889
            clear O885
            have O892 := O886.below hb889
            clear O886
            have Q893 := Q887.below hb889 Q887.2.2
            clear Q887
            have b894 := below_then bc (Nat.le_refl _) hb889
            clear bc
            have bc := b894
            clear b894 hb889
            go_wp2
            go_ret
            exact ⟨rfl, bc⟩
end Go.Proofs.Ytmeooebklohdfaa
