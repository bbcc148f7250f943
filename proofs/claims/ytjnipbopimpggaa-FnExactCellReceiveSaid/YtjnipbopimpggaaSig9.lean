/- Correlations in the model; DespreadSignal and ReceiveUser of both sides. -/
import Derived.Test.YtjnipbopimpggaaSig8
namespace Go.Proofs.Ytjnipbopimpggaa
open Go.RowKit
set_option linter.unusedVariables false
set_option maxRecDepth 100000
set_option maxHeartbeats 1600000 in
set_option maxRecDepth 100000 in
theorem l4Dot_any (v : Value) (n : Nat) (z : Nat → Int) (q : ByteArray) (at_ : Nat) (w : World) (h : IntsR w v n z) (hA : allM n z = true) (h3 : n ≤ 3000) (hq : seqB q = true) (hat : at_ ≤ 160000) :
    Calls Try.prog 102 #[v, .int .i64 (at_ : Int), .string q] w fun e w' => e = .returned (.int .i64 (coF n z q at_)) ∧ ∃ m, w' = w.drewN m := by
  obtain ⟨hk, q1, q2⟩ := (seqB_iff q).1 hq
  have HBD := Lib.hid (fun m h1 h2 => coR_bd hA hk at_ m h1 h2)
  have HZ := Lib.hid (fun k (hk : k < n) => allM_at hA hk)
  have HOK := Lib.hid (okB_zb q hk)
  have HCB := Lib.hid (fun k (h : k < q.size) => chF_bd hk h)
  obtain ⟨a, cap, rfl, hc⟩ := h
  have HC := Lib.hid hc
  have HCO : Hid (coF n z q at_ = coR z q at_ (min q.size (n - at_))) := Lib.hid rfl
  clear hA hk hq hc
  go_enter Try.func102, Try.ntmps102
  go_wp2
  go_loopw [7, 8] (fun s i wr => ∃ k m : Nat, k ≤ q.size ∧ (0 < k → at_ + k ≤ n) ∧ i = .int .i64 k ∧ s = .int .i64 (coR z q at_ k) ∧ wr = w.drewN m) (fun _ i _ => q.size - (intOf i).toNat)
  case atStart => exact ⟨0, 0, by omega, by omega, rfl, rfl, rfl⟩
  case round =>
    obtain ⟨k, m, hk, hkn, rfl, rfl, rfl⟩ := hrel
    obtain ⟨J, hJ⟩ : ∃ J, at_ + k = J := ⟨_, rfl⟩
    have hJi : (at_ : Int) + (k : Int) = (J : Int) := by omega
    have k0 : (0 : Int) ≤ (k : Int) := by omega
    by_cases hlt : k < q.size
    · have k1 : (k : Int) < (q.size : Int) := by omega
      by_cases hjn : J < n
      · obtain ⟨x, rfl, hx, hcc⟩ := HC.out J hjn
        have c1 : (w.drewN m).cell? (x.add J) = some (.int .i64 (z J)) := hcc
        obtain ⟨e1, e2⟩ := HBD.out k (by omega) (by omega)
        obtain ⟨t1, t2⟩ := HZ.out J hjn
        obtain ⟨p1, p2⟩ := chip_bd t1 t2 (HCB.out k hlt)
        have hst := coR_succ z q at_ k
        rw [hJ] at hst
        obtain ⟨b, hb, hbe⟩ := isBit _ (HOK.out k hlt)
        have hch := chF_of hbe
        have hzb := zb_at q k hlt
        rw [hbe] at hzb
        obtain ⟨S, hS⟩ : ∃ S, coR z q at_ k = S := ⟨_, rfl⟩
        rw [hS] at e1 e2 hst ⊢
        obtain ⟨y, hy⟩ : ∃ y, z J = y := ⟨_, rfl⟩
        rw [hy] at c1 t1 t2 p1 p2 hst
        obtain ⟨C, hC⟩ : ∃ C, chF q k = C := ⟨_, rfl⟩
        rw [hC] at p1 p2 hst hch
        obtain ⟨P, hP⟩ : ∃ P, y * C = P := ⟨_, rfl⟩
        rw [hP] at p1 p2 hst
        obtain ⟨T, hT⟩ : ∃ T, S + P = T := ⟨_, rfl⟩
        rw [hT] at hst
        obtain ⟨B2, hB2⟩ : ∃ B2 : Int, 2 * (b : Int) = B2 := ⟨_, rfl⟩
        rw [hB2] at hch
        have u0 : IntKind.i64.wrap ((q[k].toNat : Nat) : Int) = ((q[k].toNat : Nat) : Int) := IntWalk.i64_in _ (by omega)
        have u1 : IntKind.i64.wrap (((q[k].toNat : Nat) : Int) - 48) = (b : Int) := by rw [hzb]; rw [show ((48 + b : Nat) : Int) - 48 = (b : Int) by omega]; exact IntWalk.i64_in _ (by omega)
        have u2 : IntKind.i64.wrap (2 * (b : Int)) = B2 := by rw [hB2]; exact IntWalk.i64_in _ (by omega)
        have u3 : IntKind.i64.wrap (1 - B2) = C := by rw [← hch]; exact IntWalk.i64_in _ (by omega)
        have u4 : IntKind.i64.wrap (y * C) = P := by rw [hP]; exact IntWalk.i64_in _ (by omega)
        have k255 : k ≤ 255 := by omega
        have u5 : IntKind.i64.wrap (S + P) = T := by rw [hT]; exact IntWalk.i64_in _ (by omega)
        have u6 : IntKind.i64.wrap ((at_ : Int) + (k : Int)) = (J : Int) := by rw [hJi]; exact IntWalk.i64_in _ (by omega)
        have j0 : (0 : Int) ≤ (J : Int) := by omega
        have j1 : (J : Int) < (n : Int) := by omega
        obtain ⟨W, hW⟩ : ∃ W, w.drewN m = W := ⟨_, rfl⟩
        rw [hW] at c1 ⊢
        have HW := Lib.hid hW
        have HS := Lib.hid hst
        have HJN : Hid (at_ + k = J) := Lib.hid hJ
        have U := Lib.hid (And.intro u0 (And.intro u1 (And.intro u2 (And.intro u3 (And.intro u4 (And.intro u5 u6))))))
        clear u0 u1 u2 u3 u4 u5 u6 hW hst hT hP hC hy hS hch hzb hbe hB2 hcc hx e1 e2 t1 t2 p1 p2 hJ
        go_wp2_with fail
        clear hJi
        obtain ⟨u0, u1, u2, u3, u4, u5, u6⟩ := U.out
        go_quiet (fail)
        clear u0 u1 u2 u3 u4 u5 u6 c1
        go_wp2
        go_roundw
        case rel => exact ⟨k + 1, m + nq, by omega, by have := HJN.out; omega, by go_num, by rw [HS.out], by rw [← HW.out, World.drewN_drewN]⟩
        case measure => simp [intOf]; omega
      · have hmin : min q.size (n - at_) = k := by omega
        have HR := Lib.hid (show coR z q at_ k = coF n z q at_ by rw [HCO.out, hmin])
        have l1 : ¬ ((J : Int) < (n : Int)) := by omega
        clear hJ
        go_wp2
        go_ret
        exact ⟨ret_int HR.out, m, rfl⟩
    · obtain rfl : k = q.size := by omega
      have hmin : min q.size (n - at_) = q.size := by have := hkn (by omega); omega
      have HR := Lib.hid (show coR z q at_ q.size = coF n z q at_ by rw [HCO.out, hmin])
      clear hmin hJ
      go_wp2
      go_ret
      exact ⟨ret_int HR.out, m, rfl⟩
set_option maxHeartbeats 1600000 in
set_option maxRecDepth 100000 in
theorem l4Despread_any (v : Value) (n : Nat) (z : Nat → Int) (q : ByteArray) (d c : Nat) (w : World) (h : IntsR w v n z) (hs : sigB n z = true) (hq : seqB q = true) (hd : d ≤ 3000) (hc : c ≤ 600) :
    Calls Try.prog 83 #[v, .string q, .int .i64 (d : Int), .int .i64 (c : Int)] w fun e w' => ∃ u, e = .returned u ∧ OF w' w.heap.size u c (coL n z q d) ∧ Below w.heap.size w w' := by
  obtain ⟨hA, h3⟩ := (sigB_iff n z).1 hs
  obtain ⟨hk, q1, q2⟩ := (seqB_iff q).1 hq
  have HD := Lib.hid (fun at_ w h hat => l4Dot_any v n z q at_ w h hA h3 hq hat)
  have HV := Lib.hid h
  have HCO : Hid (∀ i, coL n z q d i = coF n z q (d + i * q.size)) := Lib.hid (fun i => rfl)
  have HQB : Hid (∀ i, i < c → i * q.size ≤ 153000) := Lib.hid (fun i hi => Nat.mul_le_mul (show i ≤ 600 by omega) q2)
  have O0 := Lib.hid (OF.empty0 w (coL n z q d))
  clear h hs hq hA hk
  go_enter Try.func83, Try.ntmps83
  go_wp2
  go_loopw [9, 10] (fun o t wr => ∃ i : Nat, i ≤ c ∧ t = .int .i64 i ∧ OF wr w.heap.size o i (coL n z q d) ∧ Below w.heap.size w wr) (fun _ t _ => c - (intOf t).toNat)
  case atStart => exact ⟨0, by omega, rfl, O0.out, (Below.refl _ _).alloc (Nat.le_refl _) _⟩
  case round =>
    obtain ⟨i, hi, rfl, rO, rb⟩ := hrel
    by_cases hlt : i < c
    · have hqb := HQB.out i hlt
      have hco := HCO.out i
      obtain ⟨Q, hQ⟩ : ∃ Q, i * q.size = Q := ⟨_, rfl⟩
      have hQi : (i : Int) * (q.size : Int) = (Q : Int) := by rw [← hQ, Int.natCast_mul]
      rw [hQ] at hqb hco
      obtain ⟨A, hA⟩ : ∃ A, d + Q = A := ⟨_, rfl⟩
      have hAi : (d : Int) + (Q : Int) = (A : Int) := by omega
      rw [hA] at hco
      have hAb : A ≤ 160000 := by omega
      have hV1 := HV.out.below rb
      have hDD := HD.out A wr hV1 hAb
      obtain ⟨X, hX⟩ : ∃ X, coF n z q A = X := ⟨_, rfl⟩
      rw [hX] at hco hDD
      have HDD := Lib.hid hDD
      have HE := Lib.hid hco
      have i0 : (0 : Int) ≤ (i : Int) := by omega
      have i1 : (i : Int) < (c : Int) := by omega
      clear hQ hA hDD hco hX hV1
      go_wp2_with fail
      refine HDD.out.mono ?_
      rintro e w' ⟨rfl, m, rfl⟩
      have O2 := rO.drewN m
      have c2 := below_drewN rb m
      obtain ⟨V, hV⟩ : ∃ V, wr.drewN m = V := ⟨_, rfl⟩
      rw [hV] at O2 c2 ⊢
      have bs := c2.size
      clear hV rO rb HDD
      go_wp2_with (at_builtin; refine wpList_append_int rfl (.tmp 17) (.tmp 27) rfl w.heap.size _ i (coL n z q d) rfl (O2.alloc _) V.heap.size 1 X rfl (by simp) (by omega) (by simp; omega) ?_; intro v' w3 O3 g3; have c3 : Below w.heap.size w w3 := (c2.alloc bs _).grown g3 (by simp; omega) (fun q hq => (O2.lt q hq).1); have O4 := Lib.hid (OF.congr (g := coL n z q d) O3 (fun j hj => by by_cases e : j < i; (simp only [if_pos e]); (have e2 : j = i := by omega); (subst e2); (simp only [if_neg e]); exact HE.out.symm)); clear O2 g3 c2 O3)
      go_roundw
      case rel => exact ⟨i + 1, by omega, by go_num, O4.out, c3⟩
      case measure => simp [intOf]; omega
    · obtain rfl : i = c := by omega
      go_wp2
      go_ret
      exact ⟨_, rfl, rO, rb⟩
def dspN (n : Nat) (f : Nat → Int) (q : ByteArray) (c : Int) : Nat := if rcB n f q 0 c then c.toNat else 0
theorem dspN_le6 (n : Nat) (f : Nat → Int) (q : ByteArray) (c : Int) : dspN n f q c ≤ 1000000 := by
  unfold dspN
  split
  · rename_i h
    have := ((rcB_iff _ _ _ _ _).1 h).2.2.2
    omega
  · omega
def rvAns (n : Nat) (f : Nat → Int) (q : ByteArray) (d c : Int) : ByteArray × Bool := if rcB n f q d c then (sgS c.toNat (coL n f q d.toNat), true) else noS
set_option maxRecDepth 100000 in
theorem iRecv_any (v : Value) (n : Nat) (z : Nat → Int) (q : ByteArray) (d c : Int) (w : World) (h : IntsC w v n z) (hn : n ≤ 1048576) (hq : q.size ≤ 1048576) :
    Calls Try.prog 66 #[v, .string q, .int .i64 d, .int .i64 c] w fun e w' => e = .returned (.tuple #[.string (rvAns n z q d c).1, .bool (rvAns n z q d c).2]) ∧ Below w.heap.size w w' := by
  have hb := fun w h => iRecep_any v n z q d c w h hn hq
  have HH := Lib.hid h.ints
  cases hr : rcB n z q d c with
  | true =>
    rw [hr] at hb
    obtain ⟨r1, r2, r3, r4⟩ := (rcB_iff _ _ _ _ _).1 hr
    obtain ⟨p, rfl⟩ : ∃ p : Nat, c = p := ⟨c.toNat, by omega⟩
    obtain ⟨s, rfl⟩ : ∃ s : Nat, d = s := ⟨d.toNat, by omega⟩
    rw [show rvAns n z q s p = (sgS p (coL n z q s), true) by unfold rvAns; rw [hr]; simp]
    have HB := Lib.hid hb
    have HV := Lib.hid h
    have HC := Lib.hid (fun w h => iCorr_any v n z q s p w h r1 r2 (by omega) (by omega))
    have HG := Lib.hid (fun u w h => iSigns_any u p (coL n z q s) w h (by omega))
    clear hb h hr r1 r2
    go_enter Try.func66, Try.ntmps66
    go_wp2_with fail
    refine (HB.out _ HH.out).mono ?_
    rintro e w' ⟨rfl, rfl⟩
    go_wp2_with fail
    refine (HC.out _ HV.out).mono ?_
    rintro e w1 ⟨u, rfl, O1, b1⟩
    go_wp2_with fail
    refine (HG.out _ _ O1.ints).mono ?_
    rintro e w2 ⟨rfl, b2⟩
    have c2 := below_then b1 (Nat.le_refl _) b2
    go_wp2
    go_ret2
    exact ⟨rfl, c2⟩
  | false =>
    rw [hr] at hb
    rw [show rvAns n z q d c = noS by unfold rvAns; rw [hr]; rfl]
    have HB := Lib.hid hb
    clear hb h hr
    go_enter Try.func66, Try.ntmps66
    go_wp2_with fail
    refine (HB.out _ HH.out).mono ?_
    rintro e w' ⟨rfl, rfl⟩
    go_wp2
    go_ret2
    exact ⟨rfl, Below.refl _ _⟩
set_option maxRecDepth 100000 in
theorem sRecv_any (v : Value) (n : Nat) (z : Nat → Int) (q : ByteArray) (d c : Int) (w : World) (h : IntsR w v n z) (hn : n ≤ 1048576) (hq : q.size ≤ 1048576) :
    Calls Try.prog 63 #[v, .string q, .int .i64 d, .int .i64 c] w fun e w' => e = .returned (.tuple #[.string (rvAns n z q d c).1, .bool (rvAns n z q d c).2]) ∧ Below w.heap.size w w' := by
  have hb := fun w h => sRecep_any v n z q d c w h hn hq
  have HH := Lib.hid h
  cases hr : rcB n z q d c with
  | true =>
    rw [hr] at hb
    obtain ⟨r1, r2, r3, r4⟩ := (rcB_iff _ _ _ _ _).1 hr
    obtain ⟨p, rfl⟩ : ∃ p : Nat, c = p := ⟨c.toNat, by omega⟩
    obtain ⟨s, rfl⟩ : ∃ s : Nat, d = s := ⟨d.toNat, by omega⟩
    rw [show rvAns n z q s p = (sgS p (coL n z q s), true) by unfold rvAns; rw [hr]; simp]
    have HB := Lib.hid hb
    have HV := Lib.hid h
    have HC := Lib.hid (fun w h => l4Despread_any v n z q s p w h r1 r2 (by omega) (by omega))
    have HG := Lib.hid (fun u w h => sSigns_any u p (coL n z q s) w h (by omega))
    clear hb h hr r1 r2
    go_enter Try.func63, Try.ntmps63
    go_wp2_with fail
    refine (HB.out _ HH.out).mono ?_
    rintro e w' ⟨rfl, rfl⟩
    go_wp2_with fail
    refine (HC.out _ HV.out).mono ?_
    rintro e w1 ⟨u, rfl, O1, b1⟩
    go_wp2_with fail
    refine (HG.out _ _ O1.ints).mono ?_
    rintro e w2 ⟨rfl, b2⟩
    have c2 := below_then b1 (Nat.le_refl _) b2
    go_wp2
    go_ret2
    exact ⟨rfl, c2⟩
  | false =>
    rw [hr] at hb
    rw [show rvAns n z q d c = noS by unfold rvAns; rw [hr]; rfl]
    have HB := Lib.hid hb
    clear hb h hr
    go_enter Try.func63, Try.ntmps63
    go_wp2_with fail
    refine (HB.out _ HH.out).mono ?_
    rintro e w' ⟨rfl, rfl⟩
    go_wp2
    go_ret2
    exact ⟨rfl, Below.refl _ _⟩
end Go.Proofs.Ytjnipbopimpggaa
