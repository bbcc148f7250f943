/- The walk of the law FnReceiveBits. -/
import Derived.Test.YthfcfnamaedffaaDrawUser4
import Derived.Test.YthfcfnamaedffaaRake2
import Derived.Test.YthfcfnamaedffaaSig4
import Derived.Test.YthfcfnamaedffaaSigMath
import Derived.BigQuiet
namespace Go.Proofs.Ythfcfnamaedffaa
open Go.RowKit
set_option linter.unusedVariables false
set_option maxRecDepth 100000
theorem co_part (n : Nat) (f : Nat → Int) (q : ByteArray) (D i : Nat) : coL (n - D) (fun k => f (D + k)) q 0 i = coL n f q D i := by
  unfold coL coF coR
  obtain ⟨A, hA⟩ : ∃ A, i * q.size = A := ⟨_, rfl⟩
  rw [hA, show n - D - (0 + A) = n - (D + A) by omega]
  exact sumI_congr _ (fun j _ => by show f (D + (0 + A + j)) * chF q j = _; rw [show D + (0 + A + j) = D + A + j by omega])
theorem part_sig {n : Nat} {f : Nat → Int} (h : sigB n f = true) (D : Nat) : sigB (n - D) (fun k => f (D + k)) = true := by
  obtain ⟨h1, h2⟩ := (sigB_iff _ _).1 h
  exact (sigB_iff _ _).2 ⟨allM_of fun i hi => allM_at h1 (show D + i < n by omega), by omega⟩
theorem rk_twice {n : Nat} {f : Nat → Int} {q : ByteArray} {D p : Nat} (h : rcB n f q D p = true) : rkAns n f q 2 (fun _ => (D : Int)) p = (sgS p (coL n f q D), true) := by
  rw [rk_yes ⟨⟨by omega, by omega⟩, fun k _ => h⟩]
  have e : sgS p (rkS n f q (fun _ => (D : Int)) 2) = sgS p (coL n f q D) := strF_congr fun j hj => by
    have e2 : rkS n f q (fun _ => (D : Int)) 2 j = 0 + coL n f q D j + coL n f q D j := rfl
    unfold sgF
    rw [e2]
    obtain ⟨x, hx⟩ : ∃ x, coL n f q D j = x := ⟨_, rfl⟩
    rw [hx]
    by_cases c : x < 0
    · rw [if_pos (by omega), if_pos c]
    · rw [if_neg (by omega), if_neg c]
  rw [show ((p : Int)).toNat = p from rfl, e]
theorem IntsC.two (w : World) (x : Int) : IntsC (w.alloc (.cells #[.int .i64 x, .int .i64 x] 3)) (.slice (some ⟨w.heap.size, 0, none⟩) 2 2) 2 (fun _ => x) := by
  refine ⟨_, 2, rfl, Nat.le_refl _, fun i hi => ⟨⟨w.heap.size, 0, none⟩, rfl, by simp, ?_⟩⟩
  rcases i with _ | _ | i
  · go_simp
  · go_simp
  · omega
set_option maxHeartbeats 3200000 in
theorem fnReceiveBits_walk (a0 : Option Addr) (len0 cap0 : Nat) (z0 : List Int) (w : World) (w0 : IsBytes w a0 len0 cap0 z0) :
    Calls Try.prog 5 #[.slice a0 len0 cap0] w fun e w' => e = .returned (.bool true) ∧ Below w.heap.size w w' := by
  by_cases hl0 : 1048576 < len0
  · go_enter Try.func5, Try.ntmps5
    go_wp2
    go_ret
    exact ⟨rfl, Below.refl _ _⟩
  go_enter Try.func5, Try.ntmps5
  go_wp2_with fail
  refine (drawReceive_any a0 len0 cap0 z0 _ w0).mono ?_
  rintro e W1 ⟨v, n, f, z, d, c, rfl, O0, hn, hz, hd, hc, bc⟩
  clear w0
  have hi := fun w h => iRecv_any v n f z d c w h (by omega) (by omega)
  have hs := fun w h => sRecv_any v n f z d c w h (by omega) (by omega)
  obtain ⟨sa, sc, rfl, -⟩ := O0.form
  cases hv : rcB n f z d c with
  | false =>
    rw [show rvAns n f z d c = noS by unfold rvAns; rw [hv]; rfl] at hi hs
    have HI := Lib.hid hi
    have HS := Lib.hid hs
    clear hi hs hv
    go_wp2_with fail
    refine (HI.out _ O0.intsC).mono ?_
    rintro e W2 ⟨rfl, h2⟩
    have O2 := O0.below h2
    have b2 := below_then bc (Nat.le_refl _) h2
    clear O0 bc h2
    go_wp2_with fail
    refine (HS.out _ O2.ints).mono ?_
    rintro e W3 ⟨rfl, h3⟩
    have b3 := below_then b2 (Nat.le_refl _) h3
    go_wp2
    go_ret
    exact ⟨rfl, b3⟩
  | true =>
    obtain ⟨r1, r2, r3, r4⟩ := (rcB_iff _ _ _ _ _).1 hv
    obtain ⟨D, rfl⟩ : ∃ D : Nat, d = D := ⟨d.toNat, by omega⟩
    obtain ⟨p, rfl⟩ : ∃ p : Nat, c = p := ⟨c.toNat, by omega⟩
    rw [show rvAns n f z D p = (sgS p (coL n f z D), true) by unfold rvAns; rw [hv]; simp] at hi hs
    have hX := sgS_size p (coL n f z D)
    have hbit : ∀ i, i < p → zb (sgS p (coL n f z D)) i = sgF (coL n f z D) i := fun i hi => zb_sgS hi
    have hrv : rcB (n - D) (fun k => f (D + k)) z 0 p = true := (rcB_iff _ _ _ _ _).2 ⟨part_sig r1 D, r2, by omega, r4⟩
    have hp := fun u w h => iDesp_any u (n - D) (fun k => f (D + k)) z p w h (by omega) (by omega)
    rw [hrv, show dsN (n - D) (fun k => f (D + k)) z p = p by unfold dsN; rw [hrv]; simp] at hp
    have hrk := fun u w h h' => iRakeG (.slice sa n sc) n f z u 2 (fun _ => (D : Int)) p w h (by omega) (by omega) h' (by omega)
    rw [rk_twice hv] at hrk
    have HCO := Lib.hid (fun i => co_part n f z D i)
    obtain ⟨X, hXX⟩ : ∃ X, sgS p (coL n f z D) = X := ⟨_, rfl⟩
    rw [hXX] at hi hs hX hbit hrk
    obtain ⟨C, hC⟩ : ∃ C, coL n f z D = C := ⟨_, rfl⟩
    rw [hC] at hbit HCO
    clear hC
    have HI := Lib.hid hi
    have HS := Lib.hid hs
    have HP := Lib.hid hp
    have HR := Lib.hid hrk
    have HX := Lib.hid hX
    have HB := Lib.hid hbit
    have p6 : p ≤ 600 := by omega
    clear hi hs hv r1 r2 r3 r4 hX hbit hrv hp hrk hXX
    by_cases h60 : 60 < p
    · have l60 : (60 : Int) < (p : Int) := by omega
      go_wp2_with fail
      refine (HI.out _ O0.intsC).mono ?_
      rintro e W2 ⟨rfl, h2⟩
      have O2 := O0.below h2
      have b2 := below_then bc (Nat.le_refl _) h2
      clear O0 bc h2
      go_wp2_with fail
      refine (HS.out _ O2.ints).mono ?_
      rintro e W3 ⟨rfl, h3⟩
      have b3 := below_then b2 (Nat.le_refl _) h3
      go_wp2
      go_ret
      exact ⟨rfl, b3⟩
    · have l60 : ¬ (60 : Int) < (p : Int) := by omega
      go_wp2_with fail
      refine (HI.out _ O0.intsC).mono ?_
      rintro e W2 ⟨rfl, h2⟩
      have O2 := O0.below h2
      have b2 := below_then bc (Nat.le_refl _) h2
      clear O0 bc h2
      go_wp2_with fail
      refine (HS.out _ O2.ints).mono ?_
      rintro e W3 ⟨rfl, h3⟩
      have O3 := O2.below h3
      have b3 := below_then b2 (Nat.le_refl _) h3
      clear O2 b2 h3
      have hal := (Below.refl W3.heap.size W3).alloc (Nat.le_refl _) (.cells #[] 3)
      have O4 := O3.alloc (.cells #[] 3)
      have b4 := b3.alloc b3.size (.cells #[] 3)
      by_cases hD : D < n
      · skip
        have lD : (D : Int) < (n : Int) := by omega
        obtain ⟨a', cap', hcut, hpart⟩ := tailC O3.intsC D (by omega)
        have hP := hpart.below hal
        clear hpart O3 b3 hal hD
        go_wp2_with fail
        clear hcut
        refine (HP.out _ _ hP).mono ?_
        rintro e W5 ⟨l1, rfl, O5, h5⟩
        have O6 := O4.below h5
        have b5 := below_then b4 (Nat.le_refl _) h5
        have L5 := O5.congr (fun i _ => HCO.out i)
        obtain ⟨la, lc, rfl, -⟩ := L5.form
        have h2i := IntsC.two W5 (D : Int)
        have O7 := O6.alloc (.cells #[.int .i64 (D : Int), .int .i64 (D : Int)] 3)
        have L7 := L5.alloc (.cells #[.int .i64 (D : Int), .int .i64 (D : Int)] 3)
        have b7 := b5.alloc b5.size (.cells #[.int .i64 (D : Int), .int .i64 (D : Int)] 3)
        clear O4 b4 h5 O5 O6 L5 b5 hP lD
        go_wp2_with fail
        refine (HR.out _ _ O7.intsC h2i).mono ?_
        rintro e W8 ⟨rfl, h8⟩
        have L8 := Lib.hid (L7.below h8)
        have b8 := Lib.hid (below_then b7 (Nat.le_refl _) h8)
        clear O7 L7 b7 h8 h2i
        go_wp2
        go_loopw [16] (fun t wr => ∃ i m : Nat, i ≤ p ∧ t = .int .i64 i ∧ wr = W8.drewN m) (fun t _ => p - (intOf t).toNat)
        case atStart => exact ⟨0, 0, by omega, rfl, rfl⟩
        case round =>
          obtain ⟨i, m, hi, rfl, rfl⟩ := hrel
          by_cases hip : i < p
          · obtain ⟨x, rfl, hx, c0⟩ := IntsR.cells (L8.out.drewN m).ints i hip
            have his : i < X.size := by rw [HX.out]; exact hip
            have hz := (zb_at X i his).trans (HB.out i hip)
            obtain ⟨Wn, hW⟩ : ∃ Wn, W8.drewN m = Wn := ⟨_, rfl⟩
            rw [hW] at c0 ⊢
            have HW := Lib.hid hW
            have i0 : (0 : Int) ≤ (i : Int) := by omega
            have i1 : (i : Int) < (p : Int) := by omega
            have i2 : (i : Int) < (X.size : Int) := by omega
            obtain ⟨Y, hY⟩ : ∃ Y, C i = Y := ⟨_, rfl⟩
            rw [hY] at c0
            unfold sgF at hz
            rw [hY] at hz
            clear hW hx hY
            by_cases hneg : Y < 0
            · rw [if_pos hneg] at hz
              have ht : (((X[i].toNat : Nat) : Int) == 49) = true := by rw [hz]; rfl
              clear hz
              go_wp2_with fail
              go_quiet (fail)
              go_wp2
              go_roundw
              case rel => exact ⟨i + 1, m + nq, by omega, by go_num, by rw [← HW.out, World.drewN_drewN]⟩
              case measure => simp [intOf]; omega
            · rw [if_neg hneg] at hz
              have ht : (((X[i].toNat : Nat) : Int) == 49) = false := by rw [hz]; rfl
              clear hz
              go_wp2_with fail
              go_quiet (fail)
              go_wp2
              go_roundw
              case rel => exact ⟨i + 1, m + nq, by omega, by go_num, by rw [← HW.out, World.drewN_drewN]⟩
              case measure => simp [intOf]; omega
          · obtain rfl : i = p := by omega
            have hX := HX.out
            go_wp2
            go_ret
            exact ⟨rfl, below_drewN b8.out m⟩
      · skip
        have lD : ¬ (D : Int) < (n : Int) := by omega
        have hP : IntsC (W3.alloc (.cells #[] 3)) (.slice (some ⟨W3.heap.size, 0, none⟩) 0 0) (n - D) (fun k => f (D + k)) := by
          rw [show n - D = 0 by omega]
          exact ⟨_, 0, rfl, Nat.le_refl _, fun i hi => absurd hi (Nat.not_lt_zero _)⟩
        clear O3 b3 hal hD
        go_wp2_with fail
        refine (HP.out _ _ hP).mono ?_
        rintro e W5 ⟨l1, rfl, O5, h5⟩
        have O6 := O4.below h5
        have b5 := below_then b4 (Nat.le_refl _) h5
        have L5 := O5.congr (fun i _ => HCO.out i)
        obtain ⟨la, lc, rfl, -⟩ := L5.form
        have h2i := IntsC.two W5 (D : Int)
        have O7 := O6.alloc (.cells #[.int .i64 (D : Int), .int .i64 (D : Int)] 3)
        have L7 := L5.alloc (.cells #[.int .i64 (D : Int), .int .i64 (D : Int)] 3)
        have b7 := b5.alloc b5.size (.cells #[.int .i64 (D : Int), .int .i64 (D : Int)] 3)
        clear O4 b4 h5 O5 O6 L5 b5 hP lD
        go_wp2_with fail
        refine (HR.out _ _ O7.intsC h2i).mono ?_
        rintro e W8 ⟨rfl, h8⟩
        have L8 := Lib.hid (L7.below h8)
        have b8 := Lib.hid (below_then b7 (Nat.le_refl _) h8)
        clear O7 L7 b7 h8 h2i
        go_wp2
        go_loopw [16] (fun t wr => ∃ i m : Nat, i ≤ p ∧ t = .int .i64 i ∧ wr = W8.drewN m) (fun t _ => p - (intOf t).toNat)
        case atStart => exact ⟨0, 0, by omega, rfl, rfl⟩
        case round =>
          obtain ⟨i, m, hi, rfl, rfl⟩ := hrel
          by_cases hip : i < p
          · obtain ⟨x, rfl, hx, c0⟩ := IntsR.cells (L8.out.drewN m).ints i hip
            have his : i < X.size := by rw [HX.out]; exact hip
            have hz := (zb_at X i his).trans (HB.out i hip)
            obtain ⟨Wn, hW⟩ : ∃ Wn, W8.drewN m = Wn := ⟨_, rfl⟩
            rw [hW] at c0 ⊢
            have HW := Lib.hid hW
            have i0 : (0 : Int) ≤ (i : Int) := by omega
            have i1 : (i : Int) < (p : Int) := by omega
            have i2 : (i : Int) < (X.size : Int) := by omega
            obtain ⟨Y, hY⟩ : ∃ Y, C i = Y := ⟨_, rfl⟩
            rw [hY] at c0
            unfold sgF at hz
            rw [hY] at hz
            clear hW hx hY
            by_cases hneg : Y < 0
            · rw [if_pos hneg] at hz
              have ht : (((X[i].toNat : Nat) : Int) == 49) = true := by rw [hz]; rfl
              clear hz
              go_wp2_with fail
              go_quiet (fail)
              go_wp2
              go_roundw
              case rel => exact ⟨i + 1, m + nq, by omega, by go_num, by rw [← HW.out, World.drewN_drewN]⟩
              case measure => simp [intOf]; omega
            · rw [if_neg hneg] at hz
              have ht : (((X[i].toNat : Nat) : Int) == 49) = false := by rw [hz]; rfl
              clear hz
              go_wp2_with fail
              go_quiet (fail)
              go_wp2
              go_roundw
              case rel => exact ⟨i + 1, m + nq, by omega, by go_num, by rw [← HW.out, World.drewN_drewN]⟩
              case measure => simp [intOf]; omega
          · obtain rfl : i = p := by omega
            have hX := HX.out
            go_wp2
            go_ret
            exact ⟨rfl, below_drewN b8.out m⟩
end Go.Proofs.Ythfcfnamaedffaa
