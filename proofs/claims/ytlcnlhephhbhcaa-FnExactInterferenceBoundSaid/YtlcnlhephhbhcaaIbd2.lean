/- InterferenceBound of both sides. -/
import Derived.Test.YtlcnlhephhbhcaaIbd
namespace Go.Proofs.Ytlcnlhephhbhcaa
open Go.RowKit
set_option linter.unusedVariables false
set_option maxRecDepth 100000
theorem absX_pos {c : Int} (h : 0 < c) : absX c = c := by unfold absX; omega
theorem absX_neg {c : Int} (h : c < 0) : absX c = -c := by unfold absX; omega
theorem absX_bd {c : Int} (h1 : -255 ≤ c) (h2 : c ≤ 255) : 0 ≤ absX c ∧ absX c ≤ 255 := by unfold absX; omega
theorem gprod {g x : Int} (g0 : 0 ≤ g) (g1 : g ≤ 1000) (h0 : 0 ≤ x) (h1 : x ≤ 255) : 0 ≤ g * x ∧ g * x ≤ 255000 := by
  have h5 := Int.mul_nonneg g0 h0
  have h6 : g * x ≤ 1000 * 255 := Int.mul_le_mul g1 h1 h0 (by omega)
  omega
theorem mod0 (n : Nat) : modN 0 n = 0 := by unfold modN; simp
set_option maxHeartbeats 6400000 in
theorem sInt_any (v : Value) (n : Nat) (f : Nat → Usr) (k : Int) (w : World) (h : UsrsR w v n f) (hn : n ≤ 1048576) (hf : UsrSz n f) :
    Calls Try.prog 33 #[v, .int .i64 k] w fun e w' => e = .returned (.int .i64 (ibAns n f k)) ∧ Below w.heap.size w w' := by
  have hu := sUsers_any v n f w h hn hf
  obtain ⟨a, cap, rfl, hc⟩ := h
  have HC := Lib.hid hc
  clear hc
  cases hb : usrsB n f with
  | false =>
    have HX := Lib.hid (ib_no (n := n) (f := f) (k := k) (by unfold ibB; rw [hb]; simp))
    rw [hb] at hu
    have HU := Lib.hid hu
    clear hu hb hf
    go_enter Try.func33, Try.ntmps33
    go_wp2_with fail
    refine HU.out.mono ?_
    rintro e w1 ⟨rfl, b1⟩
    go_wp2
    go_ret
    exact ⟨ret_int HX.out, b1⟩
  | true =>
    rw [hb] at hu
    have HU := Lib.hid hu
    clear hu hf
    by_cases hk : 0 ≤ k ∧ k ≤ (n : Int) - 1
    · obtain ⟨r, rfl⟩ : ∃ r : Nat, k = r := ⟨k.toNat, by omega⟩
      have hr : r < n := by omega
      have hIN := Lib.hid (fun w => l1In_yes (r : Int) 0 ((n : Int) - 1) w (by omega) (by omega))
      have hok : okN f n = true := by unfold usrsB at hb; rw [Bool.and_eq_true] at hb; exact hb.1
      have h8 : n ≤ 8 := by unfold usrsB at hb; rw [Bool.and_eq_true, decide_eq_true_eq] at hb; exact hb.2
      have hans : ∀ B, sameN f r n = B → ibAns n f (r : Int) = if B then sumI (ibF f r) n else -1 := fun B hB => by
        unfold ibAns ibB
        rw [hb, Int.toNat_natCast, hB, decide_eq_true (show (0 : Int) ≤ (r : Int) by omega), decide_eq_true (show (r : Int) < (n : Int) by omega)]
        cases B <;> rfl
      have HA := Lib.hid hans
      have HO := Lib.hid (fun i (hi : i < n) => okN_at n hok hi)
      have HBAD := Lib.hid (fun i (hi : i < n) h => hans false (sameN_bad (f := f) (r := r) (k := i) h n hi))
      clear hans hb hk hok
      go_enter Try.func33, Try.ntmps33
      go_wp2_with fail
      refine HU.out.mono ?_
      rintro e w1 ⟨rfl, b1⟩
      clear HU
      go_wp2_with fail
      refine (hIN.out _).mono ?_
      rintro e w' ⟨rfl, rfl⟩
      clear hIN
      go_wp2
      go_loopw [6, 5] (fun i s wr => ∃ k : Nat, k ≤ n ∧ i = .int .i64 k ∧ s = .int .i64 (sumI (ibF f r) k) ∧ Hid (sameN f r k = true) ∧ Below w.heap.size w wr) (fun i _ _ => n - (intOf i).toNat)
      case atStart => exact ⟨0, by omega, rfl, rfl, Lib.hid rfl, b1⟩
      case round =>
        obtain ⟨k, hk, rfl, rfl, rH, rb⟩ := hrel
        clear b1
        by_cases hlt : k < n
        · obtain ⟨b, o, rfl, hx, hcc⟩ := HC.out k hlt
          obtain ⟨b', o', e1, hx', hdd⟩ := HC.out r hr
          injection e1 with e1
          injection e1 with e1 e2
          subst e1 e2
          obtain ⟨c0, c1, c2, c3⟩ := hcc.below rb hx
          obtain ⟨d0, d1, d2, d3⟩ := hdd.below rb hx
          have i0 : (0 : Int) ≤ (k : Int) := by omega
          have i1 : (k : Int) < (n : Int) := by omega
          have j0 : (0 : Int) ≤ (r : Int) := by omega
          have j1 : (r : Int) < (n : Int) := by omega
          have hbad := HBAD.out k hlt
          have hnx : sameN f r (k + 1) = (decide ((f k).code.size = (f r).code.size) && decide ((f k).delay = (f r).delay)) := by simp only [sameN]; rw [rH.out]; rfl
          unfold sameU at hbad
          obtain ⟨p1, _, ⟨g0, g1, _, _⟩, _⟩ := (usrB_iff _ _ _ _).1 (HO.out k hlt)
          obtain ⟨p2, _, _, _⟩ := (usrB_iff _ _ _ _).1 (HO.out r hr)
          have hcb := crossN_bd (f k).code (f r).code 0
          have hc3 := ((seqB_iff _).1 p1).2.2
          have hsum : sumI (ibF f r) (k + 1) = sumI (ibF f r) k + ibF f r k := rfl
          have hsb := ibS_bd (f := f) (r := r) k (fun i hi => HO.out i (by omega))
          have hik : k = r → ibF f r k = 0 := fun e => by unfold ibF; rw [if_pos e]
          have hin : k ≠ r → ibF f r k = (f k).gain * absX (crossN (f k).code (f r).code 0) := fun e => by unfold ibF; rw [if_neg e]
          have hCr : ∀ w, (f k).code.size = (f r).code.size → Calls Try.prog 91 #[.string (f k).code, .string (f r).code, .int .i64 0] w fun e w' => e = .returned (.int .i64 (crossN (f k).code (f r).code 0)) ∧ Below w.heap.size w w' := fun w hs => by
            have := l2Cross_any (f k).code (f r).code 0 w ((pairB_iff _ _).2 ⟨p1, p2, hs⟩)
            rw [mod0] at this; exact this
          obtain ⟨C, hC⟩ : ∃ C, (f k).code = C := ⟨_, rfl⟩
          obtain ⟨X, hX⟩ : ∃ C, (f k).gain = C := ⟨_, rfl⟩
          obtain ⟨Y, hY⟩ : ∃ C, (f k).delay = C := ⟨_, rfl⟩
          obtain ⟨C0, hC0⟩ : ∃ C, (f r).code = C := ⟨_, rfl⟩
          obtain ⟨Y0, hY0⟩ : ∃ C, (f r).delay = C := ⟨_, rfl⟩
          rw [hC] at c0 hbad hnx hcb hc3 hin hCr
          rw [hX] at c2 g0 g1 hin
          rw [hY] at c3 hbad hnx
          rw [hC0] at d0 hbad hnx hcb hin hCr
          rw [hY0] at d3 hbad hnx
          obtain ⟨z, hz⟩ : ∃ z, crossN C C0 0 = z := ⟨_, rfl⟩
          rw [hz] at hcb hin hCr
          obtain ⟨S, hS⟩ : ∃ S, sumI (ibF f r) k = S := ⟨_, rfl⟩
          rw [hS] at hsum hsb ⊢
          have HIK := Lib.hid hik
          have HIN := Lib.hid hin
          have HSM := Lib.hid hsum
          have z1 : -255 ≤ z := by omega
          have z2 : z ≤ 255 := by omega
          obtain ⟨s0, s1'⟩ := hsb
          have s2 : S ≤ 2040000 := by omega
          clear hC hX hY hC0 hY0 hcc hdd rH hz hS hik hin hsum hcb hc3 p1 p2 s1' d1 d2 c1
          by_cases s1 : C.size = C0.size
          · obtain ⟨t1, t2⟩ := eq_facts (show (C.size : Int) = (C0.size : Int) by omega)
            by_cases sy : Y = Y0
            · obtain ⟨t3, t4⟩ := eq_facts sy
              have HX : Hid (sameN f r (k + 1) = true) := Lib.hid (by rw [hnx, decide_eq_true s1, decide_eq_true sy]; rfl)
              have HCR := Lib.hid (fun w => hCr w s1)
              clear hbad hnx s1 sy hCr
              go_wp2_with fail
              go_quiet (fail)
              obtain ⟨W1, hW1⟩ : ∃ W, wr.drewN nq = W := ⟨_, rfl⟩
              have r2 := below_drewN rb nq
              have e0 : W1.cell? ⟨b, o + k * 4, none⟩ = some (.string C) := by rw [← hW1]; exact c0
              have e2 : W1.cell? ⟨b, o + k * 4 + 2, none⟩ = some (.int .i64 X) := by rw [← hW1]; exact c2
              have f0 : W1.cell? ⟨b, o + r * 4, none⟩ = some (.string C0) := by rw [← hW1]; exact d0
              have hxW : b < W1.heap.size := by rw [← hW1]; exact Nat.lt_of_lt_of_le hx rb.size
              rw [hW1] at r2 ⊢
              clear hW1 c0 c2 c3 d0 d3 t1 t2 t3 t4 rb
              go_wp2_with fail
              go_still_tail 10, (by kernel_rfl)
              have r3 := below_drew r2
              have e3 : W1.drew.cell? ⟨b, o + k * 4 + 2, none⟩ = some (.int .i64 X) := e2
              have hxV : b < W1.drew.heap.size := hxW
              clear r2 e0 e2 f0 hxW
              go_wp2_with fail
              refine (HCR.out _).mono ?_
              rintro e w5 ⟨rfl, hb⟩
              have r5 := below_then r3 (Nat.le_refl _) hb
              have e5 : w5.cell? ⟨b, o + k * 4 + 2, none⟩ = some (.int .i64 X) := (hb.cell (p := ⟨b, o + k * 4 + 2, none⟩) hxV).trans e3
              clear hb r3 e3 hxV
              by_cases er : k = r
              · have t5 := eq_facts (show (k : Int) = (r : Int) by omega)
                obtain ⟨t5, t6⟩ := t5
                have HZ := Lib.hid (show sumI (ibF f r) (k + 1) = S by rw [HSM.out, HIK.out er, Int.add_zero])
                clear er e5
                go_wp2
                go_roundw
                case rel => exact ⟨k + 1, by omega, by go_num, by rw [HZ.out], HX, r5⟩
                case measure => simp [intOf]; omega
              · obtain ⟨t5, t6⟩ := neq_facts (show (k : Int) ≠ (r : Int) by omega)
                have hab := absX_bd z1 z2
                have hg := gprod g0 g1 hab.1 hab.2
                obtain ⟨P, hP⟩ : ∃ P, X * absX z = P := ⟨_, rfl⟩
                rw [hP] at hg
                obtain ⟨q1, q2⟩ := hg
                have HZ := Lib.hid (show sumI (ibF f r) (k + 1) = S + P by rw [HSM.out, HIN.out er, hP])
                rcases Int.lt_trichotomy z 0 with zz | zz | zz
                · have hPP : X * -z = P := by rw [← absX_neg zz]; exact hP
                  clear hP hab er
                  go_wp2
                  all_goals go_roundw
                  case rel => exact ⟨k + 1, by omega, by go_num, by rw [HZ.out], HX, r5⟩
                  case measure => simp [intOf]; omega
                · subst zz
                  have hPP : P = 0 := by rw [← hP]; unfold absX; simp
                  subst hPP
                  have HZ0 := Lib.hid (show sumI (ibF f r) (k + 1) = S by rw [HZ.out, Int.add_zero])
                  clear hP hab er
                  go_wp2
                  all_goals go_roundw
                  case rel => exact ⟨k + 1, by omega, by go_num, by rw [HZ0.out], HX, r5⟩
                  case measure => simp [intOf]; omega
                · have hPP : X * z = P := by rw [← hP, absX_pos zz]
                  clear hP hab er
                  go_wp2
                  all_goals go_roundw
                  case rel => exact ⟨k + 1, by omega, by go_num, by rw [HZ.out], HX, r5⟩
                  case measure => simp [intOf]; omega
            · obtain ⟨t3, t4⟩ := neq_facts sy
              have HX := Lib.hid (hbad (by rw [decide_eq_false sy, Bool.and_false]))
              clear hbad hnx s1 sy hCr
              go_wp2_with fail
              go_quiet (fail)
              have r2 := below_drewN rb nq
              clear c0 c2 c3 d0 d3 rb
              go_wp2
              go_ret
              exact ⟨ret_int HX.out.symm, r2⟩
          · obtain ⟨t1, t2⟩ := neq_facts (show (C.size : Int) ≠ (C0.size : Int) by omega)
            have HX := Lib.hid (hbad (by rw [decide_eq_false s1]; rfl))
            clear hbad hnx s1 hCr
            go_wp2_with fail
            go_quiet (fail)
            have r2 := below_drewN rb nq
            clear c0 c2 c3 d0 d3 rb
            go_wp2
            go_ret
            exact ⟨ret_int HX.out.symm, r2⟩
        · obtain rfl : n = k := by omega
          have HX := Lib.hid (HA.out true rH.out)
          clear rH
          go_wp2
          go_ret
          exact ⟨ret_int HX.out.symm, rb⟩
    · have HX := Lib.hid (ib_no (n := n) (f := f) (k := k) (by
        unfold ibB
        by_cases q : 0 ≤ k
        · rw [decide_eq_false (show ¬ k < (n : Int) by omega)]; simp
        · rw [decide_eq_false q]; rfl))
      have hIN := Lib.hid (fun w => l1In_no k 0 ((n : Int) - 1) w hk)
      clear hb hk
      go_enter Try.func33, Try.ntmps33
      go_wp2_with fail
      refine HU.out.mono ?_
      rintro e w1 ⟨rfl, b1⟩
      go_wp2_with fail
      refine (hIN.out _).mono ?_
      rintro e w' ⟨rfl, rfl⟩
      go_wp2
      go_ret
      exact ⟨ret_int HX.out, b1⟩
end Go.Proofs.Ytlcnlhephhbhcaa
