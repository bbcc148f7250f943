/- The contract of the draw of hops that were seen. -/
import Derived.Test.YtbllmgdnhjdphacDrawHop2
import Derived.Test.YtbllmgdnhjdphacSsEq
namespace Go.Proofs.Ytbllmgdnhjdphac
open Go.RowKit
set_option linter.unusedVariables false
set_option maxRecDepth 100000
theorem results_tmp4 {fn : Func} {t u v x : Tmp} (h : fn.results = #[.tmp t, .tmp u, .tmp v, .tmp x]) (tmps : Array Value) (P : Program) (w : World) :
    (results fn tmps).run P w = .ok (.tuple #[tmps.getD t undef, tmps.getD u undef, tmps.getD v undef, tmps.getD x undef]) w := by
  simp [results, h]
/-- Three numbers and hops were drawn. -/
def DrawSeen (w : World) (e : Ending) (w' : World) : Prop := ∃ (S T C : Int) (v : Value) (n : Nat) (f : Nat → Int), e = .returned (.tuple #[.int .i64 S, .int .i64 T, .int .i64 C, v]) ∧ OF w' w.heap.size v n f ∧ n ≤ 301 ∧ Below w.heap.size w w'
set_option maxHeartbeats 3200000 in
theorem drawSync_any (a : Option Addr) (len cap : Nat) (zs : List Int) (w : World) (h : IsBytes w a len cap zs) :
    Calls Try.prog 25 #[.slice a len cap] w (DrawSeen w) := by
  go_enter Try.func25, Try.ntmps25
  go_wp2_with fail
  refine (open_any a len cap zs _ h).mono ?_
  rintro e w1 ⟨b, ys, rfl, hr1, b1, hlb⟩
  have hb1 := hr1.1
  clear h
  go_wp2_with fail
  refine (l1Some_any b 0 ys _ hr1 (by omega)).mono ?_
  rintro e w2 ⟨s, t, x, q, rfl, hR, hq, hr2, hg2⟩
  have b2 := below_grown b1 (Nat.le_refl _) hg2 hlb
  have hb2 : b < w2.heap.size := hr2.1
  have hs12 : w.heap.size ≤ w2.heap.size := b2.size
  clear hr1 b1 hg2
  go_wp2_with fail
  obtain ⟨V, b3, hA3, hr3, hVs, hV⟩ : ∃ V, Below w.heap.size w V ∧ RegAt V w2.heap.size s t x ∧ RdAt V b q ys ∧ V.heap.size = w2.heap.size + 1 ∧ w2.alloc (.cells #[.int .i64 s, .int .i64 t, .int .i64 x] 45) = V :=
    ⟨_, b2.alloc b2.size _, RegAt.new w2 _ s t x, hr2.alloc _, World.size_alloc _ _, rfl⟩
  rw [hV]
  clear hV b2 hr2
  have hI : IntsAt (V.alloc (.cells #[.int .i64 4, .int .i64 5, .int .i64 7, .int .i64 8, .int .i64 3, .int .i64 16, .int .i64 1, .int .i64 2] 3)) (w2.heap.size + 1) [4, 5, 7, 8, 3, 16, 1, 2] := by rw [← hVs]; exact IntsAt.new V _ [4, 5, 7, 8, 3, 16, 1, 2]
  refine (num_any b q ys _ (w2.heap.size + 1) 8 [4, 5, 7, 8, 3, 16, 1, 2] (hr3.alloc _) hI rfl (by omega) (by omega) (by omega) (by omega)).mono ?_
  rintro e w4 ⟨v, hv, rfl, hr4, hg4⟩
  obtain ⟨c, rfl, hc1, hc2⟩ := chNums_at hv
  have hg4' := (World.grownBy_alloc V (.cells #[.int .i64 4, .int .i64 5, .int .i64 7, .int .i64 8, .int .i64 3, .int .i64 16, .int .i64 1, .int .i64 2] 3) (some b)).trans hg4
  have b4 := below_grown b3 (Nat.le_refl _) hg4' hlb
  have hA4 := hA3.kept hg4' (by simp; omega)
  have HSQ : Hid (∀ k w, k < 8 → Calls Try.prog 54 #[.agg #[.int .i64 s, .int .i64 t, .int .i64 x], .int .i64 c, .int .i64 (k : Nat)] w fun e w' => ∃ u, e = .returned (.tuple #[u, .bool true]) ∧ OF w' w.heap.size u k (hsF s t x c) ∧ Below w.heap.size w w') := Lib.hid (fun k w hk => by
    obtain ⟨e1, e2⟩ := hsB_yes hR (k := k) hc1 hc2 (by omega)
    have := sSeq_any s t x c k w
    rwa [e1, e2] at this)
  have HFF : Hid (∀ j, FitsI (hsF s t x c j)) := Lib.hid (fun j => by have := hsF_in (s := s) (t := t) (x := x) hc1 j; unfold FitsI; omega)
  have hbB : b < w2.heap.size + 1 := by omega
  have hs4 : w2.heap.size + 1 ≤ w4.heap.size := by have := hg4'.size; omega
  clear b3 hr3 hA3 hg4 hg4' hv hI hVs
  obtain ⟨c0, c1, c2, cl⟩ := id hA4
  obtain ⟨e0, e1, e2, el⟩ := hA4.kept (drew_grow w4 none) (by simp)
  go_wp2_with fail
  go_region_held3 (fun wx => wx.cell? ⟨w2.heap.size, 0, none⟩ = some (.int .i64 (s : Int)) ∧ wx.cell? ⟨w2.heap.size, 1, none⟩ = some (.int .i64 (t : Int)) ∧ wx.cell? ⟨w2.heap.size, 2, none⟩ = some (.int .i64 (x : Int))) (first | exact ⟨n0, n1, n2⟩ | exact ⟨m0, m1, m2⟩ | exact ⟨e0, e1, e2⟩) (first
    | (go_at_call 31; refine (pick_any b (q + 1) 8 ys _ hr4.drew (by omega) (by omega) (by omega)).mono ?_; rintro e w5 ⟨k, hk, rfl, hr5, hg5⟩; have hA5 := (hA4.kept (drew_grow w4 none) (by simp)).kept hg5 (by simp; omega); have b5 := below_grown b4.drew (Nat.le_refl _) hg5 hlb; have hs5 : w2.heap.size + 1 ≤ w5.heap.size := Nat.le_trans hs4 hg5.size; obtain ⟨m0, m1, m2, ml⟩ := id hA5)
    | (go_at_call 54; refine (HSQ.out k _ hk).mono ?_; rintro e w6 ⟨v, rfl, O6, hb6⟩; have hA6 := hA5.below hb6 hA5.2.2.2; obtain ⟨n0, n1, n2, nl⟩ := id hA6))
  have b6 := below_then b5 (Nat.le_refl _) hb6
  have hr6 := hr5.below hb6
  have hs6 : w2.heap.size + 1 ≤ w6.heap.size := Nat.le_trans hs5 hb6.size
  have O7 := O6.mono hs5
  clear c0 c1 c2 cl e0 e1 e2 el m0 m1 m2 ml n0 n1 n2 nl hA4 hA5 b4 b5 hr4 hr5 hg5 hb6 O6 HSQ
  obtain ⟨va, vc, rfl, -⟩ := O7.form
  by_cases k0 : k = 0
  · have k1 : ¬ ((0 : Int) < (k : Int)) := by omega
    clear k0
    obtain ⟨r0, r1, r2, rl⟩ := id hA6
    go_wp2_with fail
    refine (l1Bad_any b (q + 1 + 1) ys s t x _ hr6 (by omega) hR).mono ?_
    rintro e w8 ⟨S, T, X, q8, rfl, fS, fT, fX, hq8, hr8, hg8⟩
    have O8 := O7.kept hg8 (own_ne O7 hbB)
    have b8 := below_grown b6 (Nat.le_refl _) hg8 hlb
    have hs8 : w2.heap.size + 1 ≤ w8.heap.size := Nat.le_trans hs6 hg8.size
    clear r0 r1 r2 rl hr6 O7 b6 hg8 hA6 fS fT fX
    go_wp2_with fail
    obtain ⟨V2, b9, hY9, hr9, O9, hs9, hV2⟩ : ∃ V, Below w.heap.size w V ∧ RegAt V w8.heap.size S T X ∧ RdAt V b q8 ys ∧ OF V (w2.heap.size + 1) (.slice va k vc) k (hsF s t x c) ∧ w2.heap.size + 1 ≤ V.heap.size ∧ w8.alloc (.cells #[.int .i64 S, .int .i64 T, .int .i64 X] 45) = V :=
      ⟨_, b8.alloc b8.size _, RegAt.new w8 _ S T X, hr8.alloc _, O8.alloc _, by simp; omega, rfl⟩
    rw [hV2]
    clear hV2 b8 hr8
    have HLT := Lib.hid (fun q hq => (O8.lt q hq).2)
    clear O8
    obtain ⟨c0, c1, c2, cl⟩ := id hY9
    obtain ⟨e0, e1, e2, el⟩ := hY9.kept (drew_grow V2 none) (by simp)
    go_region_held3 (fun wx => wx.cell? ⟨w8.heap.size, 0, none⟩ = some (.int .i64 S) ∧ wx.cell? ⟨w8.heap.size, 1, none⟩ = some (.int .i64 T)) (first | exact ⟨n0, n1⟩ | exact ⟨m0, m1⟩ | exact ⟨e0, e1⟩) (first
      | (go_at_call 49; refine (l7Number_any b q8 ys c _ hr9.drew (by omega) (by omega)).mono ?_; rintro e w10 ⟨C, q10, rfl, C1, C2, hq10, hr10, hg10⟩; have hY10 := (hY9.kept (drew_grow V2 none) (by simp)).kept hg10 (by simp; omega); have O10 := (O9.drewN 1).kept hg10 (own_ne O9 hbB); have b10 := below_grown b9.drew (Nat.le_refl _) hg10 hlb; have hs10 : w2.heap.size + 1 ≤ w10.heap.size := Nat.le_trans hs9 hg10.size; obtain ⟨m0, m1, m2, ml⟩ := id hY10)
      | (go_at_call 32; refine (l7Bad_any b q10 (w2.heap.size + 1) ys _ k (hsF s t x c) _ hr10 (by omega) O10 (by omega) (fun j _ => HFF.out j) hbB hs10).mono ?_; rintro e w11 ⟨u, m, g, q11, rfl, O11, hm, hg, hq11, hr11, Wz, hgw, hgv⟩; have hY11 := (hY10.kept hgw (by simp; omega)).kept hgv (fun e => by have := HLT.out _ e.symm; omega); obtain ⟨n0, n1, n2, nl⟩ := id hY11))
    have b11 := (b10.grown hgw b10.size (fun k e => by cases e; omega)).grown hgv (b10.grown hgw b10.size (fun k e => by cases e; omega)).size (fun k e => by have := (O10.lt k e).1; omega)
    have O12 := O11.mono (show w.heap.size ≤ w2.heap.size + 1 by omega)
    clear c0 c1 c2 cl e0 e1 e2 el m0 m1 m2 ml n0 n1 n2 nl hY9 hY10 hY11 b9 b10 O9 O10 O11 hr9 hr10 hr11 hg10 hgw hgv hg HLT
    go_wp2
    (try simp only [Exit.inBlock, Exit.then])
    refine bodyPost_ret (results_tmp4 rfl _ _ _) rfl ?_
    exact ⟨S, T, C, u, m, g, rfl, O12, hm, b11⟩
  · skip
    have k1 : (0 : Int) < (k : Int) := by omega
    go_wp2_with fail
    refine (pick_any b (q + 1 + 1) 6 ys _ hr6 (by omega) (by omega) (by omega)).mono ?_
    rintro e wA ⟨k6, hk6, rfl, hrA, hgA⟩
    have OA := O7.kept hgA (own_ne O7 hbB)
    have bA := below_grown b6 (Nat.le_refl _) hgA hlb
    have hsA : w2.heap.size + 1 ≤ wA.heap.size := Nat.le_trans hs6 hgA.size
    have hAA := hA6.kept hgA (by simp; omega)
    clear hr6 O7 b6 hgA hA6
    by_cases j0 : k6 = 0
    · subst j0
      clear hk6
      go_wp2_with fail
      refine (pick_any b (q + 1 + 1 + 1) k ys _ hrA (by omega) (by omega) (by omega)).mono ?_
      rintro e wB ⟨y1, hy1, rfl, hrB, hgB⟩
      have OB := OA.kept hgB (own_ne OA hbB)
      have bB := below_grown bA (Nat.le_refl _) hgB hlb
      have hsB : w2.heap.size + 1 ≤ wB.heap.size := Nat.le_trans hsA hgB.size
      have hAB := hAA.kept hgB (by simp; omega)
      clear hrA OA bA hgB hAA
      go_wp2_with fail
      refine (pick_any b (q + 1 + 1 + 1 + 1) c ys _ hrB (by omega) (by omega) (by omega)).mono ?_
      rintro e wC ⟨y2, hy2, rfl, hrC, hgC⟩
      have OC := OB.kept hgC (own_ne OB hbB)
      have bC := below_grown bB (Nat.le_refl _) hgC hlb
      have hsC : w2.heap.size + 1 ≤ wC.heap.size := Nat.le_trans hsB hgC.size
      have hAC := hAB.kept hgC (by simp; omega)
      clear hrB OB bB hgC hAB
      obtain ⟨_, _, hvv, hgg⟩ := OC.form
      injection hvv with hv1 hv2 hv3
      subst hv1 hv3
      obtain ⟨gb, rfl, hBg, hgl, hcell⟩ := hgg (by omega)
      obtain ⟨hc1', hc2'⟩ := hcell y1 hy1
      have i0 : (0 : Int) ≤ (y1 : Int) := by omega
      have i1 : (y1 : Int) < (k : Int) := by omega
      have gS : wC.grownBy (wC.setCell ⟨gb, y1, none⟩ (.int .i64 (y2 : Int))) (some gb) := ⟨rfl, rfl, rfl, by simp, fun k _ hne => Below.heap_setCell _ _ _ _ (fun e => hne (by rw [e]))⟩
      have OD := OC.set (f' := fun j => if j = y1 then (y2 : Int) else hsF s t x c j) y1 (y2 : Int) hy1 (fun j _ => rfl)
      have bD := bC.grown gS bC.size (fun k e => by cases e; omega)
      have hrD := hrC.kept gS (fun k e => by cases e; omega)
      have hAD := hAC.kept gS (by simp; omega)
      have hsD : w2.heap.size + 1 ≤ (wC.setCell ⟨gb, y1, none⟩ (.int .i64 (y2 : Int))).heap.size := by simp; omega
      have HF2 : Hid (∀ j, FitsI (if j = y1 then (y2 : Int) else hsF s t x c j)) := Lib.hid (fun j => by split; exact FitsI.nat _ (by omega); exact HFF.out j)
      clear hcell hgg OC bC hrC hAC gS hsC
      obtain ⟨r0, r1, r2, rl⟩ := id hAD
      go_wp2_with fail
      clear r0 r1 r2 rl
      obtain ⟨wD, hW⟩ : ∃ W, wC.setCell ⟨gb, y1, none⟩ (.int .i64 (y2 : Int)) = W := ⟨_, rfl⟩
      rw [hW] at OD bD hrD hAD hsD ⊢
      clear hW hc1' hc2' i0 i1
      obtain ⟨va, hva⟩ : ∃ va, (some (⟨gb, 0, none⟩ : Addr)) = va := ⟨_, rfl⟩
      rw [hva] at OD ⊢
      clear hva
      refine (l1Bad_any b (q + 1 + 1 + 1 + 1 + 1) ys s t x _ hrD (by omega) hR).mono ?_
      rintro e w8 ⟨S, T, X, q8, rfl, fS, fT, fX, hq8, hr8, hg8⟩
      have O8 := OD.kept hg8 (own_ne OD hbB)
      have b8 := below_grown bD (Nat.le_refl _) hg8 hlb
      have hs8 : w2.heap.size + 1 ≤ w8.heap.size := Nat.le_trans hsD hg8.size
      clear hrD OD bD hg8 hAD fS fT fX
      go_wp2_with fail
      obtain ⟨V2, b9, hY9, hr9, O9, hs9, hV2⟩ : ∃ V, Below w.heap.size w V ∧ RegAt V w8.heap.size S T X ∧ RdAt V b q8 ys ∧ OF V (w2.heap.size + 1) (.slice va k vc) k (fun j => if j = y1 then (y2 : Int) else hsF s t x c j) ∧ w2.heap.size + 1 ≤ V.heap.size ∧ w8.alloc (.cells #[.int .i64 S, .int .i64 T, .int .i64 X] 45) = V :=
        ⟨_, b8.alloc b8.size _, RegAt.new w8 _ S T X, hr8.alloc _, O8.alloc _, by simp; omega, rfl⟩
      rw [hV2]
      clear hV2 b8 hr8
      have HLT := Lib.hid (fun q hq => (O8.lt q hq).2)
      clear O8
      obtain ⟨c0, c1, c2, cl⟩ := id hY9
      obtain ⟨e0, e1, e2, el⟩ := hY9.kept (drew_grow V2 none) (by simp)
      go_region_held3 (fun wx => wx.cell? ⟨w8.heap.size, 0, none⟩ = some (.int .i64 S) ∧ wx.cell? ⟨w8.heap.size, 1, none⟩ = some (.int .i64 T)) (first | exact ⟨n0, n1⟩ | exact ⟨m0, m1⟩ | exact ⟨e0, e1⟩) (first
        | (go_at_call 49; refine (l7Number_any b q8 ys c _ hr9.drew (by omega) (by omega)).mono ?_; rintro e w10 ⟨C, q10, rfl, C1, C2, hq10, hr10, hg10⟩; have hY10 := (hY9.kept (drew_grow V2 none) (by simp)).kept hg10 (by simp; omega); have O10 := (O9.drewN 1).kept hg10 (own_ne O9 hbB); have b10 := below_grown b9.drew (Nat.le_refl _) hg10 hlb; have hs10 : w2.heap.size + 1 ≤ w10.heap.size := Nat.le_trans hs9 hg10.size; obtain ⟨m0, m1, m2, ml⟩ := id hY10)
        | (go_at_call 32; refine (l7Bad_any b q10 (w2.heap.size + 1) ys _ k (fun j => if j = y1 then (y2 : Int) else hsF s t x c j) _ hr10 (by omega) O10 (by omega) (fun j _ => HF2.out j) hbB hs10).mono ?_; rintro e w11 ⟨u, m, g, q11, rfl, O11, hm, hg, hq11, hr11, Wz, hgw, hgv⟩; have hY11 := (hY10.kept hgw (by simp; omega)).kept hgv (fun e => by have := HLT.out _ e.symm; omega); obtain ⟨n0, n1, n2, nl⟩ := id hY11))
      have b11 := (b10.grown hgw b10.size (fun k e => by cases e; omega)).grown hgv (b10.grown hgw b10.size (fun k e => by cases e; omega)).size (fun k e => by have := (O10.lt k e).1; omega)
      have O12 := O11.mono (show w.heap.size ≤ w2.heap.size + 1 by omega)
      clear c0 c1 c2 cl e0 e1 e2 el m0 m1 m2 ml n0 n1 n2 nl hY9 hY10 hY11 b9 b10 O9 O10 O11 hr9 hr10 hr11 hg10 hgw hgv hg HLT
      go_wp2
      (try simp only [Exit.inBlock, Exit.then])
      refine bodyPost_ret (results_tmp4 rfl _ _ _) rfl ?_
      exact ⟨S, T, C, u, m, g, rfl, O12, hm, b11⟩
    · have j1 : ((k6 : Int) == 0) = false := by simp; omega
      obtain ⟨r0, r1, r2, rl⟩ := id hAA
      go_wp2_with fail
      refine (l1Bad_any b (q + 1 + 1 + 1) ys s t x _ hrA (by omega) hR).mono ?_
      rintro e w8 ⟨S, T, X, q8, rfl, fS, fT, fX, hq8, hr8, hg8⟩
      have O8 := OA.kept hg8 (own_ne OA hbB)
      have b8 := below_grown bA (Nat.le_refl _) hg8 hlb
      have hs8 : w2.heap.size + 1 ≤ w8.heap.size := Nat.le_trans hsA hg8.size
      clear r0 r1 r2 rl hrA OA bA hg8 hAA fS fT fX
      go_wp2_with fail
      obtain ⟨V2, b9, hY9, hr9, O9, hs9, hV2⟩ : ∃ V, Below w.heap.size w V ∧ RegAt V w8.heap.size S T X ∧ RdAt V b q8 ys ∧ OF V (w2.heap.size + 1) (.slice va k vc) k (hsF s t x c) ∧ w2.heap.size + 1 ≤ V.heap.size ∧ w8.alloc (.cells #[.int .i64 S, .int .i64 T, .int .i64 X] 45) = V :=
        ⟨_, b8.alloc b8.size _, RegAt.new w8 _ S T X, hr8.alloc _, O8.alloc _, by simp; omega, rfl⟩
      rw [hV2]
      clear hV2 b8 hr8
      have HLT := Lib.hid (fun q hq => (O8.lt q hq).2)
      clear O8
      obtain ⟨c0, c1, c2, cl⟩ := id hY9
      obtain ⟨e0, e1, e2, el⟩ := hY9.kept (drew_grow V2 none) (by simp)
      go_region_held3 (fun wx => wx.cell? ⟨w8.heap.size, 0, none⟩ = some (.int .i64 S) ∧ wx.cell? ⟨w8.heap.size, 1, none⟩ = some (.int .i64 T)) (first | exact ⟨n0, n1⟩ | exact ⟨m0, m1⟩ | exact ⟨e0, e1⟩) (first
        | (go_at_call 49; refine (l7Number_any b q8 ys c _ hr9.drew (by omega) (by omega)).mono ?_; rintro e w10 ⟨C, q10, rfl, C1, C2, hq10, hr10, hg10⟩; have hY10 := (hY9.kept (drew_grow V2 none) (by simp)).kept hg10 (by simp; omega); have O10 := (O9.drewN 1).kept hg10 (own_ne O9 hbB); have b10 := below_grown b9.drew (Nat.le_refl _) hg10 hlb; have hs10 : w2.heap.size + 1 ≤ w10.heap.size := Nat.le_trans hs9 hg10.size; obtain ⟨m0, m1, m2, ml⟩ := id hY10)
        | (go_at_call 32; refine (l7Bad_any b q10 (w2.heap.size + 1) ys _ k (hsF s t x c) _ hr10 (by omega) O10 (by omega) (fun j _ => HFF.out j) hbB hs10).mono ?_; rintro e w11 ⟨u, m, g, q11, rfl, O11, hm, hg, hq11, hr11, Wz, hgw, hgv⟩; have hY11 := (hY10.kept hgw (by simp; omega)).kept hgv (fun e => by have := HLT.out _ e.symm; omega); obtain ⟨n0, n1, n2, nl⟩ := id hY11))
      have b11 := (b10.grown hgw b10.size (fun k e => by cases e; omega)).grown hgv (b10.grown hgw b10.size (fun k e => by cases e; omega)).size (fun k e => by have := (O10.lt k e).1; omega)
      have O12 := O11.mono (show w.heap.size ≤ w2.heap.size + 1 by omega)
      clear c0 c1 c2 cl e0 e1 e2 el m0 m1 m2 ml n0 n1 n2 nl hY9 hY10 hY11 b9 b10 O9 O10 O11 hr9 hr10 hr11 hg10 hgw hgv hg HLT
      go_wp2
      (try simp only [Exit.inBlock, Exit.then])
      refine bodyPost_ret (results_tmp4 rfl _ _ _) rfl ?_
      exact ⟨S, T, C, u, m, g, rfl, O12, hm, b11⟩
end Go.Proofs.Ytbllmgdnhjdphac
