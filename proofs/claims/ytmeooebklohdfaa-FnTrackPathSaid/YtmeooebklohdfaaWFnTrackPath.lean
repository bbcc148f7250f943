/- The walk of the law FnTrackPath. -/
import Derived.Test.YtmeooebklohdfaaDrawPil7
import Derived.Test.YtmeooebklohdfaaPilP
import Derived.Test.YtmeooebklohdfaaPil3
import Derived.Test.YtmeooebklohdfaaPilLaw
import Derived.Test.YtmeooebklohdfaaSsSame
import Derived.Test.YtmeooebklohdfaaSsSameR
import Derived.Deep.RegionHeld3
import Derived.BigQuiet
namespace Go.Proofs.Ytmeooebklohdfaa
open Go.RowKit
set_option linter.unusedVariables false
theorem cell_belowT {w w' : World} {B : Nat} {x : Addr} {v : Value} (h : w.cell? x = some v) (hb : Below B w w') (hx : x.block < B) : w'.cell? x = some v := by rw [hb.cell hx]; exact h
theorem path_add (n : Nat) (f : Nat → Int) (c : ByteArray) (G P k a : Nat) : ∀ i, pathN n f c G P (pathN n f c G P k a) i = pathN n f c G P k (a + i)
  | 0 => rfl
  | i + 1 => by show stN _ _ _ _ _ (pathN n f c G P (pathN n f c G P k a) i) = stN _ _ _ _ _ (pathN n f c G P k (a + i)); rw [path_add n f c G P k a i]
theorem ds_step {P B : Nat} (s : Int) (hB : B < P) (hs : s = 1 ∨ s = 0 ∨ s = -1) : dsN P (modN ((B : Int) + s) P) B ≤ 1 := by
  have hP : 0 < P := by omega
  rcases hs with rfl | rfl | rfl
  · by_cases h : B + 1 < P
    · rw [show (B : Int) + 1 = ((B + 1 : Nat) : Int) by omega, modN_id _ _ h]; unfold dsN; omega
    · rw [show (B : Int) + 1 = (0 : Int) + (P : Int) * 1 by omega, modN_plus, show modN 0 P = 0 by unfold modN; rw [Int.zero_emod]; rfl]; unfold dsN; omega
  · rw [Int.add_zero, modN_id _ _ hB]; unfold dsN; omega
  · by_cases h : 0 < B
    · rw [show (B : Int) + -1 = ((B - 1 : Nat) : Int) by omega, modN_id _ _ (by omega)]; unfold dsN; omega
    · rw [show (B : Int) + -1 = ((P - 1 : Nat) : Int) + (P : Int) * (-1) by omega, modN_plus, modN_id _ _ (by omega)]; unfold dsN; omega
theorem sgI_cases (x : Int) : sgI x = 1 ∨ sgI x = 0 ∨ sgI x = -1 := by
  unfold sgI
  by_cases h1 : 0 < x
  · rw [if_pos h1]; exact .inl rfl
  · rw [if_neg h1]
    by_cases h2 : x < 0
    · rw [if_pos h2]; exact .inr (.inr rfl)
    · rw [if_neg h2]; exact .inr (.inl rfl)
set_option maxHeartbeats 12800000 in
set_option maxRecDepth 100000 in
theorem fnTrackPath_walk (a0 : Option Addr) (len0 cap0 : Nat) (z0 : List Int) (a1 : Option Addr) (len1 cap1 : Nat) (z1 : List Int) (w : World) (w0 : IsBytes w a0 len0 cap0 z0) (w1 : IsBytes w a1 len1 cap1 z1) :
    Calls Try.prog 10 #[.slice a0 len0 cap0, .slice a1 len1 cap1] w fun e w' => e = .returned (.bool true) ∧ Below w.heap.size w w' := by
  by_cases hl0 : 1048576 < len0
  · go_enter Try.func10, Try.ntmps10
    go_wp2
    go_ret
    exact ⟨rfl, Below.refl _ _⟩
  by_cases hl1 : 1048576 < len1
  · go_enter Try.func10, Try.ntmps10
    go_wp2
    go_ret
    exact ⟨rfl, Below.refl _ _⟩
  clear w1
  go_enter Try.func10, Try.ntmps10
  go_wp2_with fail
  refine (drawTrack_any a0 len0 cap0 z0 _ w0).mono ?_
  rintro e W1 ⟨v, n, f, c, g, k, s, rfl, O0, hn, hc, hg, hk0, hs0, bc0⟩
  obtain ⟨sa, sc, rfl, -⟩ := O0.form
  have Q0 := PilAt.new W1 24 c g
  have bc := bc0.alloc bc0.size (.cells #[.string c, .int .i64 g] 24)
  have OV := O0.alloc (.cells #[.string c, .int .i64 g] 24)
  clear w0 bc0 O0
  obtain ⟨V, hV⟩ : ∃ V, W1.alloc (.cells #[.string c, .int .i64 g] 24) = V := ⟨_, rfl⟩
  obtain ⟨X, hX⟩ : ∃ X, W1.heap.size = X := ⟨_, rfl⟩
  have HVV := Lib.hid hV
  have HXX := Lib.hid hX
  rw [hV] at Q0 bc OV
  rw [hX] at Q0
  clear hV hX
  have hi := fun w h => iPath_any (.slice sa n sc) n f c g k s w h (by omega) (by omega)
  have hv := fun w h => sPath_any (.slice sa n sc) n f c g k s w h (by omega) (by omega)
  by_cases hb : roB n f c g k = true ∧ 0 ≤ s ∧ s ≤ 200
  · skip
    obtain ⟨hr, s0, s2⟩ := hb
    obtain ⟨r1, r2⟩ := (roB_iff _ _ _ _ _).1 hr
    obtain ⟨r3, k0, k1⟩ := (offB_iff _ _ _).1 r2
    obtain ⟨G, rfl, g1, g8, -, q4, -, -, q7, p1, p2⟩ := pil_nat r3
    obtain ⟨T, rfl⟩ : ∃ T : Nat, s = (T : Int) := ⟨s.toNat, by omega⟩
    obtain ⟨K, rfl⟩ : ∃ K : Nat, k = (K : Int) := ⟨k.toNat, by omega⟩
    rw [tp_yes hr s0 s2, Int.toNat_natCast T] at hi hv
    have hpl := path_lt (n := n) (f := f) (c := c) (G := G) (P := perL c (G : Int)) (k := K) (by omega)
    have htf : ∀ i, tpF n f c (G : Int) (K : Int) i = (pathN n f c G (perL c (G : Int)) K i : Int) := fun i => by unfold tpF; rw [Int.toNat_natCast, Int.toNat_natCast]
    have hts : ∀ (B : Nat) w, B < perL c (G : Int) → IntsC w (.slice sa n sc) n f → Calls Try.prog 44 #[(.slice sa n sc), .agg #[.string c, .int .i64 (G : Int)], .int .i64 (B : Int)] w fun e w' => e = .returned (.int .i64 (stN n f c G (perL c (G : Int)) B : Nat)) ∧ Below w.heap.size w w' := fun B w hB h => by
      have h1 := iTrack_any (.slice sa n sc) n f c (G : Int) (B : Int) w h (by omega) (by omega)
      rw [ts_yes (ro_all hr B hB), Int.toNat_natCast, Int.toNat_natCast] at h1
      exact h1
    have hds : ∀ (A B : Nat) w, A < perL c (G : Int) → B < perL c (G : Int) → Calls Try.prog 48 #[.agg #[.string c, .int .i64 (G : Int)], .int .i64 (A : Int), .int .i64 (B : Int)] w fun e w' => e = .returned (.int .i64 (dsN (perL c (G : Int)) A B : Nat)) ∧ Below w.heap.size w w' := fun A B w hA hB => by
      have h1 := iDist_any c (G : Int) (A : Int) (B : Int) w (by omega)
      rw [ds_yes ((offB_iff _ _ _).2 ⟨r3, by omega, by omega⟩) ((offB_iff _ _ _).2 ⟨r3, by omega, by omega⟩)] at h1
      exact h1
    have hpp : ∀ (a : Nat) w, a ≤ T → IntsC w (.slice sa n sc) n f → Calls Try.prog 46 #[(.slice sa n sc), .agg #[.string c, .int .i64 (G : Int)], .int .i64 (pathN n f c G (perL c (G : Int)) K a : Nat), .int .i64 ((T - a : Nat) : Int)] w fun e w' => ∃ u, e = .returned u ∧ OF w' w.heap.size u (T - a + 1) (fun i => (pathN n f c G (perL c (G : Int)) K (a + i) : Int)) ∧ Below w.heap.size w w' := fun a w ha h => by
      have h1 := iPath_any (.slice sa n sc) n f c (G : Int) (pathN n f c G (perL c (G : Int)) K a : Nat) ((T - a : Nat) : Int) w h (by omega) (by omega)
      rw [tp_yes (ro_all hr _ (hpl a)) (by omega) (by omega), Int.toNat_natCast (T - a)] at h1
      have e9 : tpF n f c (G : Int) ((pathN n f c G (perL c (G : Int)) K a : Nat) : Int) = fun i => (pathN n f c G (perL c (G : Int)) K (a + i) : Int) := by
        funext i
        unfold tpF
        rw [Int.toNat_natCast, Int.toNat_natCast, path_add]
      rw [e9] at h1
      exact h1
    have hF : tpF n f c (G : Int) (K : Int) = fun i => (pathN n f c G (perL c (G : Int)) K i : Int) := funext htf
    rw [hF] at hi hv
    have hstep : ∀ i, pathN n f c G (perL c (G : Int)) K (i + 1) = stN n f c G (perL c (G : Int)) (pathN n f c G (perL c (G : Int)) K i) := fun i => rfl
    have hst1 : ∀ B, B < perL c (G : Int) → dsN (perL c (G : Int)) (stN n f c G (perL c (G : Int)) B) B ≤ 1 := fun B hB => ds_step _ hB (sgI_cases _)
    have h00 : pathN n f c G (perL c (G : Int)) K 0 = K := rfl
    obtain ⟨R, hR⟩ : ∃ R, pathN n f c G (perL c (G : Int)) K = R := ⟨_, rfl⟩
    rw [hR] at hi hv hpl hpp hstep h00
    obtain ⟨Z, hZ⟩ : ∃ Z, stN n f c G (perL c (G : Int)) = Z := ⟨_, rfl⟩
    rw [hZ] at hts hstep hst1
    obtain ⟨N, hN⟩ : ∃ N, perL c (G : Int) = N := ⟨_, rfl⟩
    rw [hN] at hpl hts hds hst1 p1 p2 k1
    clear hR hZ hN hF htf hr r1 r2 r3 q4 q7
    obtain ⟨L, hL⟩ : ∃ L, T + 1 = L := ⟨_, rfl⟩
    rw [hL] at hi hv
    have HLT := Lib.hid hL
    have L1 : 1 ≤ L := by omega
    have L2 : L ≤ 201 := by omega
    clear hL
    have HI := Lib.hid hi
    have HV := Lib.hid hv
    have HPL := Lib.hid hpl
    have HTS := Lib.hid hts
    have HDS := Lib.hid hds
    have HPP := Lib.hid hpp
    have HSTEP := Lib.hid hstep
    have HST1 := Lib.hid hst1
    clear hi hv hpl hts hds hpp hstep hst1
    have H00 := Lib.hid h00
    clear h00
    obtain ⟨d0, d1, dl⟩ := id Q0
    rw [← HVV.out, ← HXX.out] at d0 d1
    go_wp2_with fail
    clear d0 d1 dl
    rw [HVV.out, HXX.out]
    refine (HI.out _ OV.intsC).mono ?_
    rintro e w101 ⟨u, rfl, O103, hb102⟩
    have O104 := OV.below hb102
    clear OV
    have Q105 := Q0.below hb102 Q0.2.2
    clear Q0
    have b106 := below_then bc (Nat.le_refl _) hb102
    clear bc
    have bc := b106
    clear b106 hb102
    obtain ⟨la, lc, rfl, -⟩ := O103.form
    obtain ⟨d0, d1, dl⟩ := id Q105
    go_wp2_with fail
    refine (HV.out _ O104.ints).mono ?_
    rintro e w107 ⟨u2, rfl, O109, hb108⟩
    clear d0 d1 dl
    have O110 := O104.below hb108
    clear O104
    have O111 := O103.below hb108
    clear O103
    have Q112 := Q105.below hb108 Q105.2.2
    clear Q105
    have b113 := below_then bc (Nat.le_refl _) hb108
    clear bc
    have bc := b113
    clear b113 hb108
    go_wp2_with fail
    refine (ssInts_same _ _ _ _ L _ _ O111 O109 (by omega)).mono ?_
    rintro e w' ⟨rfl, m114, rfl⟩
    have O116 := O110.drewN m114
    clear O110
    have O117 := O111.drewN m114
    clear O111
    have O118 := O109.drewN m114
    clear O109
    have Q119 := Q112.below (below_drewN (Below.refl _ _) m114) Q112.2.2
    clear Q112
    have bd := below_drewN bc m114
    clear bc
    have bc := bd
    clear bd
    obtain ⟨w115, hW⟩ : ∃ W, w107.drewN m114 = W := ⟨_, rfl⟩
    rw [hW] at O116 O117 O118 Q119 bc ⊢
    clear hW
    clear O118
    have z0 : ((L : Int) == 0) = false := by simp; omega
    have z1 : ¬ L = 0 := by omega
    go_wp2_with fail
    go_loopw [10] (fun i wr => ∃ j : Nat, 1 ≤ j ∧ j ≤ L ∧ i = .int .i64 (j : Int) ∧ Below w115.heap.size w115 wr) (fun i _ => L - (intOf i).toNat)
    case atStart => exact ⟨1, by omega, by omega, rfl, Below.refl _ _⟩
    case round =>
      obtain ⟨j, hj1, hj, rfl, rb⟩ := hrel
      have O1 := O116.below rb
      have I1 := O117.below rb
      have Q1 := Q119.below rb Q119.2.2
      have b1 := below_then bc (Nat.le_refl _) rb
      clear O116 O117 Q119 bc
      by_cases hlt : j < L
      · skip
        obtain ⟨J, hJ⟩ : ∃ J, j - 1 = J := ⟨_, rfl⟩
        have hJL : J < L := by omega
        have jw : IntKind.i64.wrap ((j : Int) - 1) = (J : Int) := by rw [IntWalk.i64_in _ (by omega)]; omega
        have i0 : (0 : Int) ≤ (j : Int) := by omega
        have i1 : (j : Int) < (L : Int) := by omega
        have i2 : (0 : Int) ≤ (J : Int) := by omega
        have i3 : (J : Int) < (L : Int) := by omega
        have hst := HSTEP.out J
        rw [show J + 1 = j by omega] at hst
        have hpJ := HPL.out J
        have hpj := HPL.out j
        have hd1 := HST1.out _ hpJ
        have HTJ := HTS.out (R J)
        have HDJ := HDS.out (R j) (R J)
        obtain ⟨x, rfl, hxl, c0⟩ := I1.ints.cellsP j hlt
        obtain ⟨x2, ex, -, c1⟩ := I1.ints.cellsP J hJL
        injection ex with ex
        subst ex
        rw [← hst] at HTJ hd1
        obtain ⟨A, hA⟩ : ∃ A, R j = A := ⟨_, rfl⟩
        obtain ⟨B, hB⟩ : ∃ A, R J = A := ⟨_, rfl⟩
        rw [hA] at c0 hpj HTJ HDJ hd1
        rw [hB] at c1 hpJ HTJ HDJ hd1
        obtain ⟨D, hD⟩ : ∃ D, dsN N A B = D := ⟨_, rfl⟩
        rw [hD] at HDJ hd1
        have d2 : decide ((1 : Int) < (D : Int)) = false := decide_eq_false (by omega)
        have d3 : ¬ (1 : Int) < (D : Int) := by omega
        have HTK := Lib.hid (fun w h => HTJ w hpJ h)
        have HDK := Lib.hid (fun w => HDJ w hpj hpJ)
        clear hst hJ hA hB hD HTJ HDJ hpJ hpj hd1
        have hx1 : (x.add j).block < wr.heap.size := by unfold Addr.add; split <;> exact hxl
        have hx2 : (x.add J).block < wr.heap.size := by unfold Addr.add; split <;> exact hxl
        have kk := (Below.refl wr.heap.size wr).drew
        obtain ⟨e0, e1, el⟩ := Q1.below kk Q1.2.2
        have e2 := cell_belowT c0 kk hx1
        have e3 := cell_belowT c1 kk hx2
        have IC := O1.intsC.below kk
        have rb3 := rb.drew
        obtain ⟨dd0, dd1, dl⟩ := id Q1
        go_wp2_with fail
        go_region_held3 (fun wx => wx.cell? ⟨X, 0, none⟩ = some (.string c) ∧ wx.cell? ⟨X, 1, none⟩ = some (.int .i64 (G : Int)) ∧ wx.cell? (x.add j) = some (.int .i64 (A : Int)) ∧ wx.cell? (x.add J) = some (.int .i64 (B : Int))) (first | with_reducible exact ⟨o0, o1, o2, o3⟩ | with_reducible exact ⟨m0, m1, m2, m3⟩ | with_reducible exact ⟨e0, e1, e2, e3⟩) (first
          | (go_at_call 48; refine (HDK.out _).mono ?_; rintro e w10 ⟨rfl, hb10⟩; have kk10 := below_then kk9 (Nat.le_refl _) hb10; obtain ⟨o0, o1, ol⟩ := Q1.below kk10 Q1.2.2; have o2 := cell_belowT c0 kk10 hx1; have o3 := cell_belowT c1 kk10 hx2; have rb10 := below_then rb9 (Nat.le_refl _) hb10)
          | (go_at_call 44; refine (HTK.out _ IC).mono ?_; rintro e w9 ⟨rfl, hb9⟩; have kk9 := below_then kk (Nat.le_refl _) hb9; obtain ⟨m0, m1, ml⟩ := Q1.below kk9 Q1.2.2; have m2 := cell_belowT c0 kk9 hx1; have m3 := cell_belowT c1 kk9 hx2; have rb9 := below_then rb3 (Nat.le_refl _) hb9))
        clear e0 e1 e2 e3 el m0 m1 m2 m3 ml o0 o1 o2 o3 ol c0 c1 dd0 dd1 dl jw d2 d3
        go_wp2
        go_roundw
        case rel => exact ⟨j + 1, by omega, by omega, by go_num, rb10⟩
        case measure => simp [intOf]; omega
      · skip
        obtain rfl : L = j := by omega
        clear rb hj hlt hj1 HSTEP HST1 HTS HDS
        obtain ⟨M, hM⟩ : ∃ K, len1 % L = K := ⟨_, rfl⟩
        have m1 : (len1 : Int).tmod (L : Int) = (M : Int) := by rw [Int.tmod_eq_emod_of_nonneg (by omega), ← hM, Int.natCast_emod]
        have hML : M < L := by rw [← hM]; exact Nat.mod_lt _ (by omega)
        clear hM
        have n0 : ¬ ((L : Int) = 0) := by omega
        have hT := HLT.out
        obtain ⟨D, hD⟩ : ∃ D, T - M = D := ⟨_, rfl⟩
        have dw : IntKind.i64.wrap ((T : Int) - (M : Int)) = (D : Int) := by rw [IntWalk.i64_in _ (by omega)]; omega
        have HPM := HPP.out M
        rw [hD] at HPM
        have hDL : D + 1 = L - M := by omega
        have HDL := Lib.hid hDL
        have HTL : Hid ((T : Int) + 1 = (L : Int)) := Lib.hid (by omega)
        have hMT : M ≤ T := by omega
        have HPN := Lib.hid (fun w h => HPM w hMT h)
        clear hD HPM hDL hMT hT
        obtain ⟨x, rfl, hxl, c0⟩ := I1.ints.cellsP M hML
        obtain ⟨x2, ex, -, c1⟩ := I1.ints.cellsP 0 (by omega)
        injection ex with ex
        subst ex
        have HRM := HPN.out
        obtain ⟨A, hA⟩ : ∃ A, R M = A := ⟨_, rfl⟩
        rw [hA] at c0 HRM
        replace HPN := Lib.hid HRM
        rw [H00.out] at c1
        clear hA HRM
        have hx1 : (x.add M).block < wr.heap.size := by unfold Addr.add; split <;> exact hxl
        have kk := (Below.refl wr.heap.size wr).drew
        obtain ⟨e0, e1, el⟩ := Q1.below kk Q1.2.2
        have e2 := cell_belowT c0 kk hx1
        have IC := O1.intsC.below kk
        have bd := b1.drew
        obtain ⟨dd0, dd1, dl⟩ := id Q1
        have i0 : (0 : Int) ≤ (M : Int) := by omega
        have i1 : (M : Int) < (L : Int) := by omega
        have HC1 := Lib.hid c1
        clear c1
        go_wp2_with fail
        go_region_held3 (fun wx => wx.cell? ⟨X, 0, none⟩ = some (.string c) ∧ wx.cell? ⟨X, 1, none⟩ = some (.int .i64 (G : Int)) ∧ wx.cell? (x.add M) = some (.int .i64 (A : Int))) (first | with_reducible exact ⟨m0, m1', m2⟩ | with_reducible exact ⟨e0, e1, e2⟩) (first
          | (go_at_call 46; refine (HPN.out _ IC).mono ?_; rintro e w9 ⟨u9, rfl, O9, hb9⟩; have kk9 := below_then kk (Nat.le_refl _) hb9; obtain ⟨m0, m1', ml⟩ := Q1.below kk9 Q1.2.2; have m2 := cell_belowT c0 kk9 hx1; have bd9 := below_then bd (Nat.le_refl _) hb9))
        have I9 := I1.below kk9
        rw [HDL.out] at O9
        obtain ⟨ta, tc, tr, tI⟩ := tailC I9.intsC M (by omega)
        obtain ⟨ra, rc, rfl, -⟩ := O9.form
        have hx0 : (x.add 0).block < wr.heap.size := by unfold Addr.add; split <;> exact hxl
        have c1 := cell_belowT HC1.out kk9 hx0
        have c2 : w9.cell? x = some (.int .i64 (K : Int)) := c1
        have LL := HTL.out
        obtain ⟨L9, hL9⟩ : ∃ l, L - M = l := ⟨_, rfl⟩
        have hl9 : L9 ≤ 1000 := by omega
        rw [hL9] at O9 tr tI ⊢
        clear e0 e1 e2 el m0 m1' m2 ml c0 dd0 dd1 dl dw m1 HDL HLT hL9 I9 kk kk9 hb9 bd b1 IC hx0 hx1 I1 O1 Q1
        go_wp2_with fail
        refine (ssInts_sameR _ _ L9 _ _ O9.ints tI.ints (by omega)).mono ?_
        rintro e w' ⟨rfl, m5, rfl⟩
        have bc := below_drewN bd9 m5
        clear bd9 O9 tI tr c1 c2
        go_wp2
        go_ret
        exact ⟨rfl, bc⟩
  · skip
    rw [tp_no hb] at hi hv
    have HI := Lib.hid hi
    have HV := Lib.hid hv
    clear hi hv
    clear hb
    obtain ⟨d0, d1, dl⟩ := id Q0
    rw [← HVV.out, ← HXX.out] at d0 d1
    go_wp2_with fail
    clear d0 d1 dl
    rw [HVV.out, HXX.out]
    refine (HI.out _ OV.intsC).mono ?_
    rintro e w520 ⟨u, rfl, O522, hb521⟩
    have O523 := OV.below hb521
    clear OV
    have Q524 := Q0.below hb521 Q0.2.2
    clear Q0
    have b525 := below_then bc (Nat.le_refl _) hb521
    clear bc
    have bc := b525
    clear b525 hb521
    obtain ⟨la, lc, rfl, -⟩ := O522.form
    obtain ⟨d0, d1, dl⟩ := id Q524
    go_wp2_with fail
    refine (HV.out _ O523.ints).mono ?_
    rintro e w526 ⟨u2, rfl, O528, hb527⟩
    clear d0 d1 dl
    have O529 := O523.below hb527
    clear O523
    have O530 := O522.below hb527
    clear O522
    have Q531 := Q524.below hb527 Q524.2.2
    clear Q524
    have b532 := below_then bc (Nat.le_refl _) hb527
    clear bc
    have bc := b532
    clear b532 hb527
    go_wp2_with fail
    refine (ssInts_same _ _ _ _ 0 _ _ O530 O528 (by omega)).mono ?_
    rintro e w' ⟨rfl, m533, rfl⟩
    have O535 := O529.drewN m533
    clear O529
    have O536 := O530.drewN m533
    clear O530
    have O537 := O528.drewN m533
    clear O528
    have Q538 := Q531.below (below_drewN (Below.refl _ _) m533) Q531.2.2
    clear Q531
    have bd := below_drewN bc m533
    clear bc
    have bc := bd
    clear bd
    obtain ⟨w534, hW⟩ : ∃ W, w526.drewN m533 = W := ⟨_, rfl⟩
    rw [hW] at O535 O536 O537 Q538 bc ⊢
    clear hW
    obtain ⟨d0, d1, dl⟩ := id Q538
    go_wp2_with fail
    refine (HV.out _ O535.ints).mono ?_
    rintro e w539 ⟨u3, rfl, O541, hb540⟩
    clear d0 d1 dl
    have O542 := O535.below hb540
    clear O535
    have O543 := O536.below hb540
    clear O536
    have O544 := O537.below hb540
    clear O537
    have Q545 := Q538.below hb540 Q538.2.2
    clear Q538
    have b546 := below_then bc (Nat.le_refl _) hb540
    clear bc
    have bc := b546
    clear b546 hb540
    go_wp2_with fail
    refine (ssInts_same _ _ _ _ 0 _ _ O543 O541 (by omega)).mono ?_
    rintro e w' ⟨rfl, m547, rfl⟩
    have O549 := O542.drewN m547
    clear O542
    have O550 := O543.drewN m547
    clear O543
    have O551 := O544.drewN m547
    clear O544
    have O552 := O541.drewN m547
    clear O541
    have Q553 := Q545.below (below_drewN (Below.refl _ _) m547) Q545.2.2
    clear Q545
    have bd := below_drewN bc m547
    clear bc
    have bc := bd
    clear bd
    obtain ⟨w548, hW⟩ : ∃ W, w539.drewN m547 = W := ⟨_, rfl⟩
    rw [hW] at O549 O550 O551 O552 Q553 bc ⊢
    clear hW
    go_wp2
    go_ret
    exact ⟨rfl, bc⟩
end Go.Proofs.Ytmeooebklohdfaa
