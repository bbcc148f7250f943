/- The walk of the law FnMaximalBits. -/
import Derived.Test.YtkkakfkebjdkeaaDrawMaxT
import Derived.Test.YtkkakfkebjdkeaaBools
import Derived.Test.YtkkakfkebjdkeaaMaxUse
import Derived.Test.YtkkakfkebjdkeaaSsRun
import Derived.Test.YtkkakfkebjdkeaaSsSame
import Derived.Test.YtkkakfkebjdkeaaStepR
namespace Go.Proofs.Ytkkakfkebjdkeaa
open Go.RowKit
set_option linter.unusedVariables false
set_option maxHeartbeats 3200000 in
set_option maxRecDepth 100000 in
theorem fnMaximalBits_walk (a0 : Option Addr) (len0 cap0 : Nat) (z0 : List Int) (a1 : Option Addr) (len1 cap1 : Nat) (z1 : List Int) (w : World) (w0 : IsBytes w a0 len0 cap0 z0) (w1 : IsBytes w a1 len1 cap1 z1) :
    Calls Try.prog 9 #[.slice a0 len0 cap0, .slice a1 len1 cap1] w fun e w' => e = .returned (.bool true) ∧ Below w.heap.size w w' := by
  by_cases hl0 : 1048576 < len0
  · go_enter Try.func9, Try.ntmps9
    go_wp2
    go_ret
    exact ⟨rfl, Below.refl _ _⟩
  by_cases hl1 : 1048576 < len1
  · go_enter Try.func9, Try.ntmps9
    go_wp2
    go_ret
    exact ⟨rfl, Below.refl _ _⟩
  clear w1
  go_enter Try.func9, Try.ntmps9
  go_wp2_with fail
  refine (drawMaxT_any a0 len0 cap0 z0 _ w0).mono ?_
  rintro e W1 ⟨S, rfl, fS, bc⟩
  clear w0
  by_cases hS : 2 ≤ S ∧ S ≤ 8
  · skip
    obtain ⟨s, rfl⟩ : ∃ s : Nat, S = s := ⟨S.toNat, by omega⟩
    obtain ⟨n, f, ⟨hn, hin, -, -⟩, hs, hi⟩ := tapsL s (by omega) (by omega)
    have HS := Lib.hid hs
    have HI := Lib.hid hi
    clear hs hi
    go_wp2_with fail
    refine (HI.out _).mono ?_
    rintro e w1 ⟨v4, rfl, O3, hb2⟩
    have b5 := below_then bc (Nat.le_refl _) hb2
    clear bc hb2
    obtain ⟨lal, lpl, rfl, lhl⟩ := O3.form
    go_wp2_with fail
    refine (HS.out _).mono ?_
    rintro e w6 ⟨v9, rfl, O8, hb7⟩
    have O10 := O3.below hb7
    clear O3
    have b11 := below_then b5 (Nat.le_refl _) hb7
    clear b5 hb7
    obtain ⟨laq, lpq, rfl, lhq⟩ := O8.form
    go_wp2_with fail
    refine (ssInts_same _ _ _ _ n f _ O10 O8 (by omega)).mono ?_
    rintro e w' ⟨rfl, m12, rfl⟩
    have hb14 := below_drewN (Below.refl w6.heap.size w6) m12
    have O15 := O10.below hb14
    clear O10
    have O16 := O8.below hb14
    clear O8
    have b17 := below_then b11 (Nat.le_refl _) hb14
    clear b11 hb14
    obtain ⟨w13, hW⟩ : ∃ W, w6.drewN m12 = W := ⟨_, rfl⟩
    rw [hW] at O15 O16  b17 ⊢
    clear hW
    clear O16 lhq
    by_cases hn0 : n = 0
    · skip
      subst hn0
      go_wp2_with fail
      refine (HS.out _).mono ?_
      rintro e w18 ⟨v21, rfl, O20, hb19⟩
      have O22 := O15.below hb19
      clear O15
      have b23 := below_then b17 (Nat.le_refl _) hb19
      clear b17 hb19
      obtain ⟨lau, lpu, rfl, lhu⟩ := O20.form
      go_wp2_with fail
      refine (ssInts_same _ _ _ _ 0 f _ O22 O20 (by omega)).mono ?_
      rintro e w' ⟨rfl, m24, rfl⟩
      have hb26 := below_drewN (Below.refl w18.heap.size w18) m24
      have O27 := O22.below hb26
      clear O22
      have O28 := O20.below hb26
      clear O20
      have b29 := below_then b23 (Nat.le_refl _) hb26
      clear b23 hb26
      obtain ⟨w25, hW⟩ : ∃ W, w18.drewN m24 = W := ⟨_, rfl⟩
      rw [hW] at O27 O28  b29 ⊢
      clear hW
      go_wp2
      go_ret
      exact ⟨rfl, b29⟩
    · skip
      obtain ⟨gl, rfl, -, -, -⟩ := lhl (by omega)
      clear lhl HI HS
      obtain ⟨R, hR⟩ : ∃ R, len1 % n = R := ⟨_, rfl⟩
      have hRn : R < n := by rw [← hR]; exact Nat.mod_lt _ (by omega)
      obtain ⟨t, ht, hP⟩ := hin R hRn
      have c0 := (O15.at R hRn).1
      rw [ht] at c0
      clear O15 ht hin
      have hF := hP.facts
      have h8 := tw_le s (by omega)
      obtain ⟨N, hN⟩ : ∃ N, tw s - 1 = N := ⟨_, rfl⟩
      rw [hN] at hF
      have hR1 := hF.reg
      have h3 := hF.three
      have hlen := hF.len
      obtain ⟨M, hM⟩ : ∃ M, N + s - 1 = M := ⟨_, rfl⟩
      have hs2 := hR1.lo
      have hss := fun w => ssRun_any s t 1 M w hR1 (by omega)
      have hfr : ∀ i, i < N → ∃ z : ByteArray, (runS s t 1 M).extract i (i + s) = z ∧ ∀ w, Calls Try.prog 42 #[.int .i64 (s : Nat), .int .i64 (t : Nat), .string z] w fun e w' => e = .returned (.tuple #[.agg #[.int .i64 s, .int .i64 t, .int .i64 (stepsN s t i 1 : Nat)], .bool true]) ∧ Below w.heap.size w w' := fun i hi => by
        obtain ⟨e1, e2, e3⟩ := ext_val hR1 (show i + s ≤ M by omega)
        refine ⟨_, rfl, fun w => ?_⟩
        have := iFrom_yes s t _ w ((tapsB_iff _ _).2 ⟨by have := hR1.lo; omega, by have := hR1.hi; omega, by have := hR1.tap; omega, by rw [Int.toNat_natCast]; have := hR1.tapLt; omega⟩) e2 e3
        rw [e1] at this
        exact this
      have hzs := runS_size s t 1 M
      have hbd := hF.bd
      have hap : ∀ i, i < N → metB (fun i => stepsN s t i 1) i (stepsN s t i 1) = false := fun i hi => metB_no i (fun j hj => hF.apart j i hj hi)
      have hmt : ∀ i v, metB (fun i => stepsN s t i 1) (i + 1) v = if v = stepsN s t i 1 then true else metB (fun i => stepsN s t i 1) i v := fun i v => rfl
      have hev := hF.even
      have hpa := fun w => parity_any t w (by have := hR1.tapLt; omega)
      rw [hev] at hpa
      have hon := hF.ones
      have hs0 : sumN (fun i => stepsN s t i 1 % 2) 0 = 0 := rfl
      have hsS : ∀ i, sumN (fun i => stepsN s t i 1 % 2) (i + 1) = sumN (fun i => stepsN s t i 1 % 2) i + stepsN s t i 1 % 2 := fun i => rfl
      have hsl : ∀ i, sumN (fun i => stepsN s t i 1 % 2) i ≤ i := fun i => sum_le (fun v => by show stepsN s t v 1 % 2 ≤ 1; omega) i
      obtain ⟨Y, hY⟩ : ∃ Y, runS s t 1 M = Y := ⟨_, rfl⟩
      rw [hY] at hss hzs
      simp only [hY] at hfr
      obtain ⟨Q, hQ⟩ : ∃ Q, sumN (fun i => stepsN s t i 1 % 2) = Q := ⟨_, rfl⟩
      rw [hQ] at hon hs0
      simp only [hQ] at hsS hsl
      obtain ⟨X, hX⟩ : ∃ X : Nat → Nat, (fun i => stepsN s t i 1) = X := ⟨_, rfl⟩
      have hX1 : ∀ i, stepsN s t i 1 = X i := fun i => congrFun hX i
      simp only [hX1] at hfr hbd hap hmt hsS
      have hX2 : (fun i => X i) = X := rfl
      simp only [hX2] at hap hmt
      obtain ⟨E, hE⟩ : ∃ E, metB X = E := ⟨_, rfl⟩
      have hE0 : E 0 = fun _ => false := by rw [← hE]; rfl
      simp only [hE] at hap hmt
      have m1 : (len1 : Int).tmod (n : Int) = (R : Int) := by rw [Int.tmod_eq_emod_of_nonneg (by omega), ← hR, Int.natCast_emod]
      have n0 : ¬ ((n : Int) = 0) := by clear m1; omega
      have n1 : ((n : Int) == 0) = false := by rw [beq_eq_false_iff_ne]; clear m1; omega
      have i0 : (0 : Int) ≤ (R : Int) := by clear m1; omega
      have i1 : (R : Int) < (n : Int) := by clear m1; omega
      have v1 : (N : Int) + (s : Int) - 1 = (M : Int) := by clear m1; omega
      have v2 : ((N + 1 : Nat) : Int) - 1 = (N : Int) := by clear m1; omega
      have v3 : (N : Int) + 1 = ((N + 1 : Nat) : Int) := by clear m1; omega
      obtain ⟨P, hPP⟩ : ∃ P, N + 1 = P := ⟨_, rfl⟩
      have P1 : P ≤ 256 := by clear m1; omega
      have HPN := Lib.hid hPP
      rw [hPP] at v2 v3 hon
      have v4 : IntKind.i64.wrap (P : Int) = (P : Int) := IntWalk.i64_in _ (by clear m1 v1 v2 v3; omega)
      have N255 : N ≤ 255 := by clear m1 v1 v2 v3; omega
      have M300 : M ≤ 300 := by clear m1 v1 v2 v3; omega
      have s8 : s ≤ 8 := by clear m1 v1 v2 v3; omega
      have hmk := make_bools P (by clear m1 v1 v2 v3; omega)
      have hwt0 := wrap_tw s s8
      rw [show tw s = P by rw [← hPP, hlen]] at hwt0
      have hwt : ∀ k : Int, k = 2 → wrap64 (k ^ s) = (P : Int) := fun k hk => by subst hk; exact hwt0
      clear hwt0
      have HVM : Hid (N + s = M + 1) := Lib.hid (by clear m1 v1 v2 v3 hwt; omega)
      have HZS := Lib.hid hzs
      have HON := Lib.hid hon
      have HE0 := Lib.hid hE0
      have HS0 := Lib.hid hs0
      clear hR hN hM hY hQ hX hX1 hX2 hE hE0 hs0 hon hzs hF hP hR1 hlen hev h8 hPP hS fS hn
      have HSS_ := Lib.hid hsS
      clear hsS
      have HSS := Lib.hid hss
      have HFR := Lib.hid hfr
      have HBD := Lib.hid hbd
      have HAP := Lib.hid hap
      have HMT := Lib.hid hmt
      have HPA := Lib.hid hpa
      have HSL := Lib.hid hsl
      clear hss hfr hbd hap hmt hpa hsl
      go_wp2_with fail
      refine (HSS.out _).mono ?_
      rintro e w30 ⟨rfl, hb31⟩
      have b32 := below_then b17 (Nat.le_refl _) hb31
      clear b17 hb31
      clear c0 m1 n0 n1 i0 i1 v1 v2 hwt HSS
      have BR := BoolRow.new w30 P
      have kb : w.heap.size ≤ w30.heap.size := b32.size
      have b9 := b32.alloc b32.size (.cells (madeCells #[.bool false] P) 4)
      obtain ⟨gb, hgb⟩ : ∃ k, w30.heap.size = k := ⟨_, rfl⟩
      rw [hgb] at BR kb
      go_wp2
      clear hgb hmk v3 v4
      go_loopw [11, 12] (fun a c wr => ∃ i : Nat, i ≤ N ∧ a = .int .i64 (Q i : Nat) ∧ c = .int .i64 i ∧ BoolRow wr gb P (E i) ∧ Below w.heap.size w wr) (fun _ c _ => N - (intOf c).toNat)
      case atStart => exact ⟨0, by omega, by rw [HS0.out]; rfl, rfl, by rw [HE0.out]; exact BR, b9⟩
      case round =>
        clear BR b9
        obtain ⟨i, hi, rfl, rfl, rB, rb⟩ := hrel
        have hql := HSL.out i
        by_cases hlt : i < N
        · skip
          obtain ⟨z, hz, hc⟩ := HFR.out i hlt
          have hx := HBD.out i
          have ha := HAP.out i hlt
          have hm := HMT.out i
          have hq := HSS_.out i
          obtain ⟨x, ex⟩ : ∃ x, X i = x := ⟨_, rfl⟩
          rw [ex] at hx ha hq
          simp only [ex] at hc hm
          have hzz := HZS.out
          have hPN := HPN.out
          have hvm := HVM.out
          obtain ⟨J, hJ⟩ : ∃ J, i + s = J := ⟨_, rfl⟩
          rw [hJ] at hz
          have j1 : (i : Int) + (s : Int) = (J : Int) := by omega
          have j2 : (J : Int) ≤ (Y.size : Int) := by omega
          have j3 : (i : Int) ≤ (J : Int) := by omega
          have j4 : (0 : Int) ≤ (i : Int) := by omega
          have i1 : (i : Int) < (N : Int) := by omega
          obtain ⟨x1, x2⟩ := hx
          have xP : x < P := by omega
          have q1 : x % 2 ≤ 1 := by omega
          have x3 : ((x : Int) == 0) = false := by rw [beq_eq_false_iff_ne]; omega
          have x4 : (0 : Int) ≤ (x : Int) := by omega
          have x5 : (x : Int) < (P : Int) := by omega
          obtain ⟨A, hA⟩ : ∃ A, Q i = A := ⟨_, rfl⟩
          rw [hA] at hq hql ⊢
          obtain ⟨p, hp⟩ : ∃ p, x % 2 = p := ⟨_, rfl⟩
          rw [hp] at hq q1
          have m2 : (x : Int) % 2 = (p : Int) := by omega
          have A9 : A ≤ 255 := by clear m2; omega
          have m3 : (x : Int).tmod 2 = (p : Int) := by rw [Int.tmod_eq_emod_of_nonneg (by clear m2; omega)]; exact m2
          have HQN := Lib.hid hq
          have HC := Lib.hid hc
          clear ex hA hp hJ hzz hPN hvm hq hql hc
          go_wp2_with fail
          refine (HC.out _).mono ?_
          rintro e w33 ⟨rfl, hb34⟩
          have O35 := rB.below hb34
          clear rB
          have b36 := below_then rb (Nat.le_refl _) hb34
          clear rb hb34
          clear HC hz j1 j2 j3 j4
          have ng := O35.2.2
          obtain ⟨V37, hb39, F40, hV41⟩ : ∃ V, Below w33.heap.size w33 V ∧ RegAt V w33.heap.size s t x ∧ w33.alloc (.cells #[.int .i64 s, .int .i64 t, .int .i64 x] 57) = V := ⟨_, (Below.refl _ w33).alloc (Nat.le_refl _) _, RegAt.new w33 _ s t x, rfl⟩
          have O43 := O35.below hb39
          clear O35
          have b44 := below_then b36 (Nat.le_refl _) hb39
          clear b36 hb39
          obtain ⟨k38, hk42⟩ : ∃ k, w33.heap.size = k := ⟨_, rfl⟩
          rw [hk42] at F40
          rw [hk42] at ng
          have cb := O43.1 x xP
          rw [ha] at cb
          have fb := O43.2.1 x
          have B2 := O43.set (f' := E (i + 1)) x true (fun v _ => hm v) xP
          have F2 := F40.kept (grown_set V37 gb x (.bool true)) (by simp; omega)
          have b2 := b44.setCell (p := ⟨gb, x, none⟩) kb (.bool true)
          obtain ⟨V2, hV2⟩ : ∃ V2, V37.setCell ⟨gb, x, none⟩ (.bool true) = V2 := ⟨_, rfl⟩
          rw [hV2] at B2 F2 b2
          obtain ⟨c0, c1, c2, cl⟩ := id F40
          obtain ⟨d0, d1, d2, dl⟩ := id F2
          clear O43 F40 b44 hm ha F2
          go_wp2
          go_roundw
          case rel => exact ⟨i + 1, by omega, by rw [HQN.out]; go_num, by go_num, B2, b2⟩
          case measure => simp [intOf]; omega
        · skip
          obtain rfl : N = i := by omega
          have ho := HON.out
          obtain ⟨A, hA⟩ : ∃ A, Q N = A := ⟨_, rfl⟩
          rw [hA] at ho hql ⊢
          have hPN := HPN.out
          have o1 : 2 * (A : Int) = (P : Int) := by omega
          have o2 : (N : Int) + 1 = (P : Int) := by omega
          have A9 : A ≤ 255 := by omega
          clear ho hA hPN rB
          go_wp2_with fail
          refine (HPA.out _).mono ?_
          rintro e w' ⟨rfl, rfl⟩
          go_wp2
          go_ret
          exact ⟨rfl, rb⟩
  · skip
    obtain ⟨hs, hi⟩ := tapsNone S hS
    have HS := Lib.hid hs
    have HI := Lib.hid hi
    clear hs hi
    go_wp2_with fail
    refine (HI.out _).mono ?_
    rintro e w45 ⟨v48, rfl, O47, hb46⟩
    have b49 := below_then bc (Nat.le_refl _) hb46
    clear bc hb46
    obtain ⟨lal, lpl, rfl, lhl⟩ := O47.form
    go_wp2_with fail
    refine (HS.out _).mono ?_
    rintro e w50 ⟨v53, rfl, O52, hb51⟩
    have O54 := O47.below hb51
    clear O47
    have b55 := below_then b49 (Nat.le_refl _) hb51
    clear b49 hb51
    obtain ⟨laq, lpq, rfl, lhq⟩ := O52.form
    go_wp2_with fail
    refine (ssInts_same _ _ _ _ 0 (fun _ => 0) _ O54 O52 (by omega)).mono ?_
    rintro e w' ⟨rfl, m56, rfl⟩
    have hb58 := below_drewN (Below.refl w50.heap.size w50) m56
    have O59 := O54.below hb58
    clear O54
    have O60 := O52.below hb58
    clear O52
    have b61 := below_then b55 (Nat.le_refl _) hb58
    clear b55 hb58
    obtain ⟨w57, hW⟩ : ∃ W, w50.drewN m56 = W := ⟨_, rfl⟩
    rw [hW] at O59 O60  b61 ⊢
    clear hW
    clear O60
    go_wp2_with fail
    refine (HS.out _).mono ?_
    rintro e w62 ⟨v65, rfl, O64, hb63⟩
    have O66 := O59.below hb63
    clear O59
    have b67 := below_then b61 (Nat.le_refl _) hb63
    clear b61 hb63
    obtain ⟨lau, lpu, rfl, lhu⟩ := O64.form
    go_wp2_with fail
    refine (ssInts_same _ _ _ _ 0 (fun _ => 0) _ O66 O64 (by omega)).mono ?_
    rintro e w' ⟨rfl, m68, rfl⟩
    have hb70 := below_drewN (Below.refl w62.heap.size w62) m68
    have O71 := O66.below hb70
    clear O66
    have O72 := O64.below hb70
    clear O64
    have b73 := below_then b67 (Nat.le_refl _) hb70
    clear b67 hb70
    obtain ⟨w69, hW⟩ : ∃ W, w62.drewN m68 = W := ⟨_, rfl⟩
    rw [hW] at O71 O72  b73 ⊢
    clear hW
    go_wp2
    go_ret
    exact ⟨rfl, b73⟩
end Go.Proofs.Ytkkakfkebjdkeaa
