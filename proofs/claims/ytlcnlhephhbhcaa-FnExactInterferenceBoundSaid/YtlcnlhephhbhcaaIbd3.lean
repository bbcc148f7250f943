/- InterferenceBound of the program. -/
import Derived.Test.YtlcnlhephhbhcaaIbd2
namespace Go.Proofs.Ytlcnlhephhbhcaa
open Go.RowKit
set_option linter.unusedVariables false
set_option maxRecDepth 100000
theorem boundFor_any (c : ByteArray) (w : World) :
    Calls Try.prog 93 #[.string c] w fun e w' => e = .returned (.func (.func 119) #[] #[.pointer (some ⟨w.heap.size, 0, none⟩)]) ∧ w' = w.alloc (.cells #[.string c] 9) := by
  go_enter Try.func93, Try.ntmps93
  go_wp2
  go_ret
  exact ⟨rfl, rfl⟩
set_option maxHeartbeats 1600000 in
theorem bound_any (c p : ByteArray) (g d : Int) (bx : Nat) (c0 : ByteArray) (w : World) (hb : w.cell? ⟨bx, 0, none⟩ = some (.string c0)) (hx : bx < w.heap.size) (hp : pairB c c0 = true) (g0 : 0 ≤ g) (g1 : g ≤ 1000) :
    Calls Try.prog 119 #[.agg #[.string c, .string p, .int .i64 g, .int .i64 d], .pointer (some ⟨bx, 0, none⟩)] w fun e w' => e = .returned (.int .i64 (g * absX (crossN c c0 0))) ∧ Below w.heap.size w w' := by
  have hcb := crossN_bd c c0 0
  have hc3 := ((seqB_iff _).1 ((pairB_iff _ _).1 hp).1).2.2
  have hC := fun w => iCross_yes c c0 0 w hp
  rw [mod0] at hC
  obtain ⟨z, hz⟩ : ∃ z, crossN c c0 0 = z := ⟨_, rfl⟩
  rw [hz] at hC hcb ⊢
  have HC := Lib.hid hC
  have z1 : -255 ≤ z := by omega
  have z2 : z ≤ 255 := by omega
  have hab := absX_bd z1 z2
  have hg := gprod g0 g1 hab.1 hab.2
  obtain ⟨P, hP⟩ : ∃ P, g * absX z = P := ⟨_, rfl⟩
  rw [hP] at hg ⊢
  obtain ⟨q1, q2⟩ := hg
  have u0 := UsrAt.new w 26 c p g d
  have b0 := (Below.refl w.heap.size w).alloc (Nat.le_refl _) (.cells #[.string c, .string p, .int .i64 g, .int .i64 d] 26)
  have k0 : (w.alloc (.cells #[.string c, .string p, .int .i64 g, .int .i64 d] 26)).cell? ⟨bx, 0, none⟩ = some (.string c0) := (b0.cell (p := ⟨bx, 0, none⟩) hx).trans hb
  clear hz hC hcb hc3 hp hb
  go_enter Try.func119, Try.ntmps119
  go_wp2_with fail
  refine (HC.out _).mono ?_
  rintro e w1 ⟨rfl, n1⟩
  have b1 := below_then b0 (Nat.le_refl _) n1
  have u1 := u0.below n1 (by simp)
  clear n1 b0 u0 k0
  obtain ⟨x0, x1, x2, x3, x4⟩ := u1
  rcases Int.lt_trichotomy z 0 with zz | zz | zz
  · have hPP : g * -z = P := by rw [← absX_neg zz]; exact hP
    clear hP hab
    go_wp2
    all_goals
      go_ret
      exact ⟨rfl, b1⟩
  · subst zz
    have hPP : P = 0 := by rw [← hP]; unfold absX; simp
    subst hPP
    clear hP hab
    go_wp2
    all_goals
      go_ret
      exact ⟨rfl, b1⟩
  · have hPP : g * z = P := by rw [← hP, absX_pos zz]
    clear hP hab
    go_wp2
    all_goals
      go_ret
      exact ⟨rfl, b1⟩
set_option maxHeartbeats 3200000 in
theorem iInt_any (v : Value) (n : Nat) (f : Nat → Usr) (k : Int) (w : World) (h : UsrsR w v n f) (hn : n ≤ 1048576) (hf : UsrSz n f) :
    Calls Try.prog 34 #[v, .int .i64 k] w fun e w' => e = .returned (.int .i64 (ibAns n f k)) ∧ Below w.heap.size w w' := by
  have ht := iTog_any v n f w h hn hf
  obtain ⟨a, cap, rfl, hc⟩ := h
  have HC := Lib.hid hc
  clear hc
  by_cases k0 : k < 0
  · have HX := Lib.hid (ib_no (n := n) (f := f) (k := k) (by unfold ibB; rw [decide_eq_false (show ¬ 0 ≤ k by omega)]; rfl))
    clear ht hf
    go_enter Try.func34, Try.ntmps34
    go_wp2
    go_ret
    exact ⟨ret_int HX.out, Below.refl _ _⟩
  obtain ⟨r, rfl⟩ : ∃ r : Nat, k = r := ⟨k.toNat, by omega⟩
  clear k0
  have j0 : ¬ (r : Int) < 0 := by omega
  by_cases hr : r < n
  · have j1 : ¬ (n : Int) ≤ (r : Int) := by omega
    rw [same_any f hr] at ht
    cases hb : usrsB n f && sameN f r n with
    | false =>
      have HX := Lib.hid (ib_no (n := n) (f := f) (k := (r : Int)) (by unfold ibB; rw [Int.toNat_natCast, hb]; simp))
      rw [hb] at ht
      have HT := Lib.hid ht
      clear ht hb hf
      go_enter Try.func34, Try.ntmps34
      go_wp2_with fail
      refine HT.out.mono ?_
      rintro e w1 ⟨rfl, b1⟩
      go_wp2
      go_ret
      exact ⟨ret_int HX.out, b1⟩
    | true =>
      rw [hb] at ht
      have HT := Lib.hid ht
      have hb2 := hb
      rw [Bool.and_eq_true] at hb2
      obtain ⟨hu, hsm⟩ := hb2
      unfold usrsB at hu
      rw [Bool.and_eq_true, decide_eq_true_eq] at hu
      obtain ⟨hok, h8⟩ := hu
      have HX := Lib.hid (show ibAns n f (r : Int) = sumI (ibF f r) n by
        unfold ibAns ibB
        rw [Int.toNat_natCast, hb, decide_eq_true (show (0 : Int) ≤ (r : Int) by omega), decide_eq_true (show (r : Int) < (n : Int) by omega)]
        rfl)
      have HO := Lib.hid (fun i (hi : i < n) => okN_at n hok hi)
      have HS := Lib.hid (fun i (hi : i < n) => ((sameN_iff f r n).1 hsm i hi).1)
      obtain ⟨b, o, rfl, hx, hrr⟩ := HC.out r hr
      have HR := Lib.hid hrr
      obtain ⟨c0, c1, c2, c3⟩ := hrr
      have i0 : (0 : Int) ≤ (r : Int) := by omega
      have i1 : (r : Int) < (n : Int) := by omega
      obtain ⟨C0, hC0⟩ : ∃ C, (f r).code = C := ⟨_, rfl⟩
      rw [hC0] at c0
      have HC0 := Lib.hid hC0
      clear ht hb hf hok hsm hC0 c1 c2 c3
      go_enter Try.func34, Try.ntmps34
      go_wp2_with fail
      refine HT.out.mono ?_
      rintro e w1 ⟨rfl, b1⟩
      have d0 : w1.cell? ⟨b, o + r * 4, none⟩ = some (.string C0) := (b1.cell (p := ⟨b, o + r * 4, none⟩) hx).trans c0
      clear HT c0
      go_wp2_with fail
      refine (boundFor_any C0 _).mono ?_
      rintro e w2 ⟨rfl, rfl⟩
      have b2 := b1.alloc b1.size (.cells #[.string C0] 9)
      have hbw : w.heap.size ≤ w1.heap.size := b1.size
      obtain ⟨bx, hbx⟩ : ∃ b, w1.heap.size = b := ⟨_, rfl⟩
      have kx : (w1.alloc (.cells #[.string C0] 9)).cell? ⟨bx, 0, none⟩ = some (.string C0) := by rw [← hbx]; simp
      have hxx : bx < (w1.alloc (.cells #[.string C0] 9)).heap.size := by rw [← hbx]; simp
      have HBX := Lib.hid hbx
      obtain ⟨W2, hW2⟩ : ∃ W, w1.alloc (.cells #[.string C0] 9) = W := ⟨_, rfl⟩
      rw [hW2] at b2 kx hxx ⊢
      rw [hbx]
      clear hW2 hbx b1 d0 hbw
      go_wp2
      go_loopw [6, 30] (fun s i wr => ∃ k : Nat, k ≤ n ∧ i = .int .i64 k ∧ s = .int .i64 (sumI (ibF f r) k) ∧ wr.cell? ⟨bx, 0, none⟩ = some (.string C0) ∧ bx < wr.heap.size ∧ Below w.heap.size w wr) (fun _ i _ => n - (intOf i).toNat)
      case atStart => exact ⟨0, by omega, rfl, rfl, kx, hxx, b2⟩
      case round =>
        obtain ⟨k, hk, rfl, rfl, rk, rx, rb⟩ := hrel
        clear b2 kx hxx
        by_cases hlt : k < n
        · obtain ⟨b', o', e1, _, hcc⟩ := HC.out k hlt
          injection e1 with e1
          injection e1 with e1 e2
          subst e1 e2
          obtain ⟨c0, c1, c2, c3⟩ := hcc.below rb hx
          have i2 : (0 : Int) ≤ (k : Int) := by omega
          have i3 : (k : Int) < (n : Int) := by omega
          obtain ⟨p1, _, ⟨g0, g1, _, _⟩, _⟩ := (usrB_iff _ _ _ _).1 (HO.out k hlt)
          obtain ⟨p2, _, _, _⟩ := (usrB_iff _ _ _ _).1 (HO.out r hr)
          have hpr : pairB (f k).code (f r).code = true := (pairB_iff _ _).2 ⟨p1, p2, HS.out k hlt⟩
          have hsum : sumI (ibF f r) (k + 1) = sumI (ibF f r) k + ibF f r k := rfl
          have hsb := ibS_bd (f := f) (r := r) k (fun i hi => HO.out i (by omega))
          have hfb := ibF_bd (r := r) (HO.out k hlt)
          have hik : k = r → ibF f r k = 0 := fun e => by unfold ibF; rw [if_pos e]
          have hin : k ≠ r → (f k).gain * absX (crossN (f k).code (f r).code 0) = ibF f r k := fun e => by unfold ibF; rw [if_neg e]
          have hcl := fun w' bb hh => bound_any (f k).code (f k).data (f k).gain (f k).delay bx (f r).code w' hh bb hpr g0 g1
          rw [HC0.out] at hcl hin
          obtain ⟨C, hC⟩ : ∃ C, (f k).code = C := ⟨_, rfl⟩
          obtain ⟨D, hDD⟩ : ∃ C, (f k).data = C := ⟨_, rfl⟩
          obtain ⟨X, hX⟩ : ∃ C, (f k).gain = C := ⟨_, rfl⟩
          obtain ⟨Y, hY⟩ : ∃ C, (f k).delay = C := ⟨_, rfl⟩
          rw [hC] at c0 hcl hin
          rw [hDD] at c1 hcl
          rw [hX] at c2 hcl hin
          rw [hY] at c3 hcl
          obtain ⟨S, hS⟩ : ∃ S, sumI (ibF f r) k = S := ⟨_, rfl⟩
          rw [hS] at hsum hsb ⊢
          obtain ⟨F, hF⟩ : ∃ S, ibF f r k = S := ⟨_, rfl⟩
          rw [hF] at hsum hfb hik hin
          have HIK := Lib.hid hik
          have HIN := Lib.hid hin
          have HSM := Lib.hid hsum
          have HCL := Lib.hid hcl
          obtain ⟨s0, s1⟩ := hsb
          obtain ⟨s3, s4⟩ := hfb
          have s2 : S ≤ 2040000 := by omega
          clear hC hX hY hDD hcc hS hF hik hin hsum p1 p2 hpr s1 hcl g0 g1
          by_cases er : k = r
          · obtain ⟨t5, t6⟩ := eq_facts (show (k : Int) = (r : Int) by omega)
            have HZ := Lib.hid (show sumI (ibF f r) (k + 1) = S by rw [HSM.out, HIK.out er, Int.add_zero])
            have r5 := rb.alloc rb.size (.cells #[.string C, .string D, .int .i64 X, .int .i64 Y] 26)
            have hba := (Below.refl wr.heap.size wr).alloc (Nat.le_refl _) (.cells #[.string C, .string D, .int .i64 X, .int .i64 Y] 26)
            have k5 := (hba.cell (p := ⟨bx, 0, none⟩) rx).trans rk
            have x5 := Nat.lt_of_lt_of_le rx hba.size
            have R5 := Lib.hid r5
            have K5 := Lib.hid k5
            have X5 := Lib.hid x5
            clear er hba rk rx rb r5 k5 x5
            go_wp2
            go_roundw
            case rel => exact ⟨k + 1, by omega, by go_num, by rw [HZ.out], K5.out, X5.out, R5.out⟩
            case measure => simp [intOf]; omega
          · obtain ⟨t5, t6⟩ := neq_facts (show (k : Int) ≠ (r : Int) by omega)
            have HZ := Lib.hid (show sumI (ibF f r) (k + 1) = S + F from HSM.out)
            have hba := (Below.refl wr.heap.size wr).alloc (Nat.le_refl _) (.cells #[.string C, .string D, .int .i64 X, .int .i64 Y] 26)
            have k5 := (hba.cell (p := ⟨bx, 0, none⟩) rx).trans rk
            have x5 := Nat.lt_of_lt_of_le rx hba.size
            have HCC := Lib.hid (HCL.out _ x5 k5)
            rw [HIN.out er] at HCC
            have K5 := Lib.hid k5
            have X5 := Lib.hid x5
            clear er hba rk rx k5 x5
            go_wp2_with fail
            refine HCC.out.mono ?_
            rintro e w5 ⟨rfl, hb⟩
            have r5 := below_then (rb.alloc rb.size _) (Nat.le_refl _) hb
            have k6 := (hb.cell (p := ⟨bx, 0, none⟩) X5.out).trans K5.out
            have x6 := Nat.lt_of_lt_of_le X5.out hb.size
            clear hb rb c0 c1 c2 c3
            go_wp2
            go_roundw
            case rel => exact ⟨k + 1, by omega, by go_num, by rw [HZ.out], k6, x6, r5⟩
            case measure => simp [intOf]; omega
        · obtain rfl : n = k := by omega
          go_wp2
          go_ret
          exact ⟨ret_int HX.out.symm, rb⟩
  · have j1 : (n : Int) ≤ (r : Int) := by omega
    have HX := Lib.hid (ib_no (n := n) (f := f) (k := (r : Int)) (by unfold ibB; rw [decide_eq_false (show ¬ (r : Int) < (n : Int) by omega)]; simp))
    clear ht hf
    go_enter Try.func34, Try.ntmps34
    go_wp2
    go_ret
    exact ⟨ret_int HX.out, Below.refl _ _⟩
end Go.Proofs.Ytlcnlhephhbhcaa
