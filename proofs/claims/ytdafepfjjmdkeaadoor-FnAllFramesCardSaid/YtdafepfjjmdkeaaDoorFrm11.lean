/- ParseFrame, of both sides. -/
import Derived.Test.YtdafepfjjmdkeaaDoorFrm10
import Derived.BigQuiet
namespace Go.Proofs.YtdafepfjjmdkeaaDoor
open Go.RowKit
set_option linter.unusedVariables false
set_option maxRecDepth 100000
def noP : ByteArray × Int × Bool := (⟨#[]⟩, 0, false)
def parAns (z : ByteArray) (k : Int) : ByteArray × Int × Bool :=
  if bitsB z = true ∧ 0 ≤ k ∧ k ≤ z.size ∧ hitB z k.toNat = true then (parP z k.toNat, ((k.toNat + 23 + nAt z k.toNat : Nat) : Int), true) else noP
theorem par_no {z : ByteArray} {k : Int} (h : ¬ (bitsB z = true ∧ 0 ≤ k ∧ k ≤ z.size ∧ hitB z k.toNat = true)) : parAns z k = noP := by unfold parAns; rw [if_neg h]
theorem par_yes {z : ByteArray} {a : Nat} (hb : bitsB z = true) (h : hitB z a = true) : parAns z a = (parP z a, ((a + 23 + nAt z a : Nat) : Int), true) := by
  have := ((hitB_iff z a).1 h).1
  unfold parAns
  rw [Int.toNat_natCast, if_pos ⟨hb, by omega, by omega, h⟩]
theorem ret_P {A : ByteArray × Int × Bool} {x : ByteArray} {i : Int} {c : Bool} (h : A = (x, i, c)) : Ending.returned (.tuple #[.string x, .int .i64 i, .bool c]) = .returned (.tuple #[.string A.1, .int .i64 A.2.1, .bool A.2.2]) := by rw [h]
set_option maxHeartbeats 800000 in
theorem iParse_any (z : ByteArray) (k : Int) (w : World) (hs : z.size ≤ 1048576) :
    Calls Tryd.prog 20 #[.string z, .int .i64 k] w fun e w' => e = .returned (.tuple #[.string (parAns z k).1, .int .i64 (parAns z k).2.1, .bool (parAns z k).2.2]) ∧ Below w.heap.size w w' := by
  have HV := Lib.hid (fun w => bitsValid_any z w (by omega))
  cases hb : bitsB z with
  | false =>
    have HX := Lib.hid (par_no (z := z) (k := k) (by rw [hb]; simp))
    rw [hb] at HV
    clear hb
    go_enter Tryd.func20, Tryd.ntmps20
    go_wp2_with fail
    refine (HV.out _).mono ?_
    rintro e w1 ⟨rfl, rfl⟩
    go_wp2
    refine bodyPost_ret (v := .tuple #[.string ⟨#[]⟩, .int .i64 0, .bool false]) (by simp [results, Tryd.results20, go_sem]) rfl ?_
    exact ⟨ret_P HX.out, Below.refl _ _⟩
  | true =>
    rw [hb] at HV
    by_cases h0 : k < 0
    · have HX := Lib.hid (par_no (z := z) (k := k) (fun h => by omega))
      clear hb
      go_enter Tryd.func20, Tryd.ntmps20
      go_wp2_with fail
      refine (HV.out _).mono ?_
      rintro e w1 ⟨rfl, rfl⟩
      go_wp2
      refine bodyPost_ret (v := .tuple #[.string ⟨#[]⟩, .int .i64 0, .bool false]) (by simp [results, Tryd.results20, go_sem]) rfl ?_
      exact ⟨ret_P HX.out, Below.refl _ _⟩
    · obtain ⟨a, rfl⟩ : ∃ a : Nat, k = a := ⟨k.toNat, by omega⟩
      by_cases h1 : a ≤ z.size
      · have i1 : ¬ (z.size : Int) < (a : Int) := by omega
        have HR := Lib.hid (fun w => read_any z a w hb h1)
        cases hh : hitB z a with
        | false =>
          have HX := Lib.hid (par_no (z := z) (k := a) (fun h => by rw [Int.toNat_natCast, hh] at h; exact absurd h.2.2.2 (by simp)))
          have HH := Lib.hid hh
          clear hb hh
          go_enter Tryd.func20, Tryd.ntmps20
          go_wp2_with fail
          refine (HV.out _).mono ?_
          rintro e w1 ⟨rfl, rfl⟩
          go_wp2_with fail
          refine (HR.out _).mono ?_
          rintro e w1 ⟨b, _, hE, b1⟩
          obtain ⟨rfl, _, _⟩ := hE HH.out
          clear hE
          have b2 := b1.alloc b1.size (.cells #[.string ⟨#[]⟩, .int .i64 0, .int .i64 0] 41)
          obtain ⟨⟨d0, d1, d2⟩, dl, g0, g1, g2⟩ := FrmAt.new w1 41 ⟨#[]⟩ 0 0
          go_wp2_with fail
          obtain ⟨W, hW⟩ : ∃ W, w1.alloc (.cells #[.string ⟨#[]⟩, .int .i64 0, .int .i64 0] 41) = W := ⟨_, rfl⟩
          rw [hW] at b2 d0 d1 d2 ⊢
          clear hW
          go_quiet (fail)
          have b3 := below_drewN b2 nq
          go_wp2
          refine bodyPost_ret (v := .tuple #[.string ⟨#[]⟩, .int .i64 0, .bool false]) (by simp [results, Tryd.results20, go_sem]) rfl ?_
          exact ⟨ret_P HX.out, b3⟩
        | true =>
          have HX := Lib.hid (par_yes hb hh)
          have HH := Lib.hid hh
          obtain ⟨P, hP⟩ : ∃ P, parP z a = P := ⟨_, rfl⟩
          obtain ⟨E, hE2⟩ : ∃ P, a + 23 + nAt z a = P := ⟨_, rfl⟩
          rw [hP, hE2] at HX
          have HP := Lib.hid hP
          have HE := Lib.hid hE2
          clear hb hh hP hE2
          go_enter Tryd.func20, Tryd.ntmps20
          go_wp2_with fail
          refine (HV.out _).mono ?_
          rintro e w1 ⟨rfl, rfl⟩
          go_wp2_with fail
          refine (HR.out _).mono ?_
          rintro e w1 ⟨b, hE, _, b1⟩
          have hE' := hE HH.out
          rw [HP.out, HE.out] at hE'
          subst hE'
          clear hE
          have b2 := b1.alloc b1.size (.cells #[.string P, .int .i64 a, .int .i64 E] 41)
          obtain ⟨⟨d0, d1, d2⟩, dl, g0, g1, g2⟩ := FrmAt.new w1 41 P a E
          go_wp2_with fail
          obtain ⟨W, hW⟩ : ∃ W, w1.alloc (.cells #[.string P, .int .i64 a, .int .i64 E] 41) = W := ⟨_, rfl⟩
          rw [hW] at b2 d0 d1 d2 ⊢
          clear hW
          go_quiet (fail)
          have b3 := below_drewN b2 nq
          go_wp2
          refine bodyPost_ret (v := .tuple #[.string P, .int .i64 E, .bool true]) (by simp [results, Tryd.results20, go_sem]) rfl ?_
          exact ⟨ret_P HX.out, b3⟩
      · have HX := Lib.hid (par_no (z := z) (k := a) (fun h => by omega))
        have i1 : (z.size : Int) < (a : Int) := by omega
        clear hb
        go_enter Tryd.func20, Tryd.ntmps20
        go_wp2_with fail
        refine (HV.out _).mono ?_
        rintro e w1 ⟨rfl, rfl⟩
        go_wp2
        refine bodyPost_ret (v := .tuple #[.string ⟨#[]⟩, .int .i64 0, .bool false]) (by simp [results, Tryd.results20, go_sem]) rfl ?_
        exact ⟨ret_P HX.out, Below.refl _ _⟩
theorem num_part {z : ByteArray} {a : Nat} (h : a + 15 ≤ z.size) : numF (zb (z.extract (a + 8) (a + 15))) 7 = nAt z a := by
  refine numF_congr 7 fun i hi => ?_
  rw [zb_extract _ _ _ _ (by omega) (by omega)]
set_option maxHeartbeats 1600000 in
theorem sParse_far (z : ByteArray) (a : Nat) (w : World) (hb : bitsB z = true) (ha : a + 23 ≤ z.size) :
    Calls Tryd.prog 21 #[.string z, .int .i64 a] w fun e w' => e = .returned (.tuple #[.string (parAns z a).1, .int .i64 (parAns z a).2.1, .bool (parAns z a).2.2]) ∧ Below w.heap.size w w' := by
  obtain ⟨ho, hz⟩ := bits_of hb
  have HV := Lib.hid (fun w => l1Bits_any z w (by omega))
  rw [hb] at HV
  have hlt := nAt_lt ho (show a + 15 ≤ z.size by omega)
  have hk7 := size_extract z (a + 8) (a + 15) (by omega)
  have HN := Lib.hid (fun w => sNum_any (z.extract (a + 8) (a + 15)) w (ok_part ho _ _ (by omega)) (by rw [hk7]; omega))
  rw [num_part (by omega)] at HN
  have hyes := fun h => par_yes (z := z) (a := a) hb h
  have hno := fun (h : ¬ (a + 23 ≤ z.size ∧ nAt z a ≤ 100 ∧ a + 23 + nAt z a ≤ z.size ∧ frmS (parP z a) = z.extract a (a + 23 + nAt z a))) => par_no (z := z) (k := a) (fun hh => by rw [Int.toNat_natCast, hit_no h] at hh; exact absurd hh.2.2.2 (by simp))
  have hpo := fun h => ok_part ho (a + 15) (a + 15 + nAt z a) h
  have hpd : parP z a = z.extract (a + 15) (a + 15 + nAt z a) := rfl
  have hiff := (hitB_iff z a).2
  obtain ⟨n, hn⟩ : ∃ n, nAt z a = n := ⟨_, rfl⟩
  rw [hn] at hlt HN hyes hno hpo hpd hiff
  obtain ⟨A8, h8⟩ : ∃ n, a + 8 = n := ⟨_, rfl⟩
  obtain ⟨A15, h15⟩ : ∃ n, a + 15 = n := ⟨_, rfl⟩
  rw [h8, h15] at HN
  rw [h15] at hpo hpd
  obtain ⟨AE, hAE⟩ : ∃ m, A15 + n = m := ⟨_, rfl⟩
  rw [hAE] at hpo hpd
  obtain ⟨A23, h23⟩ : ∃ m, a + 23 = m := ⟨_, rfl⟩
  obtain ⟨AF, hAF⟩ : ∃ m, A23 + n = m := ⟨_, rfl⟩
  rw [h23, hAF] at hyes hno hiff
  have v8 : (a : Int) + 8 = (A8 : Int) := by omega
  have v15 : (a : Int) + 15 = (A15 : Int) := by omega
  have vE : (A15 : Int) + (n : Int) = (AE : Int) := by omega
  have v23 : (a : Int) + 23 = (A23 : Int) := by omega
  have vF : (A23 : Int) + (n : Int) = (AF : Int) := by omega
  have u23 : IntKind.i64.wrap ((a : Int) + 23) = (A23 : Int) := by rw [v23]; exact IntWalk.i64_in _ (by omega)
  have uF : IntKind.i64.wrap ((A23 : Int) + (n : Int)) = (AF : Int) := by rw [vF]; exact IntWalk.i64_in _ (by omega)
  have y23 : IntKind.i64.wrap (A23 : Int) = (A23 : Int) := IntWalk.i64_in _ (by omega)
  have yF : IntKind.i64.wrap (AF : Int) = (AF : Int) := IntWalk.i64_in _ (by omega)
  have i0 : (0 : Int) ≤ (a : Int) := by omega
  have j0 : ¬ (a : Int) < 0 := by omega
  have j1 : ¬ (z.size : Int) < (a : Int) := by omega
  have j2 : ¬ ((z.size : Int) - (a : Int) < 23) := by omega
  have i1 : (0 : Int) ≤ (A8 : Int) := by omega
  have i2 : (A8 : Int) ≤ (A15 : Int) := by omega
  have i3 : (A15 : Int) ≤ (z.size : Int) := by omega
  have z6 : (z.size : Int) ≤ 600 := by omega
  by_cases h100 : n ≤ 100
  · have j3 : ¬ (100 : Int) < (n : Int) := by omega
    by_cases hfit : AF ≤ z.size
    · have j4 : ¬ ((z.size : Int) - (a : Int) < 23 + (n : Int)) := by omega
      have hpo2 := hpo (by omega)
      have hps := size_extract z A15 AE (by omega)
      have HFR := Lib.hid (fun w => sFrm_any (z.extract A15 AE) w hpo2 (by rw [hps]; omega))
      rw [hpd] at hyes hno hiff
      obtain ⟨P, hP⟩ : ∃ P, z.extract A15 AE = P := ⟨_, rfl⟩
      rw [hP] at HFR hyes hno hiff
      obtain ⟨F, hF⟩ : ∃ F, frmS P = F := ⟨_, rfl⟩
      rw [hF] at HFR hno hiff
      obtain ⟨G, hG⟩ : ∃ G, z.extract a AF = G := ⟨_, rfl⟩
      rw [hG] at hno hiff
      have i4 : (0 : Int) ≤ (A15 : Int) := by omega
      have i5 : (A15 : Int) ≤ (AE : Int) := by omega
      have i6 : (AE : Int) ≤ (z.size : Int) := by omega
      have i7 : (a : Int) ≤ (AF : Int) := by omega
      have i8 : (AF : Int) ≤ (z.size : Int) := by omega
      have n6 : (n : Int) ≤ 200 := by omega
      have b0 := Below.refl w.heap.size w
      by_cases hFG : F = G
      · subst hFG
        have HX := Lib.hid (hyes (hiff ⟨by omega, h100, hfit, rfl⟩))
        clear hyes hno hiff hpo hpd hpo2 hps hF h8 h15 hAE h23 hAF hk7 ho hb hn hfit h100 hlt ha hz
        go_enter Tryd.func21, Tryd.ntmps21
        go_wp2_with fail
        refine (HV.out _).mono ?_
        rintro e w1 ⟨rfl, rfl⟩
        go_wp2_with fail
        refine (HN.out _).mono ?_
        rintro e w1 ⟨rfl, rfl⟩
        go_wp2_with fail
        go_region_held3 (fun wx => Below w.heap.size w wx) (first | exact c1 | exact b0.drew) (first | (go_at_call 45; refine (HFR.out _).mono ?_; rintro e w5 ⟨rfl, hB⟩; have c1 := below_then b0.drew (Nat.le_refl _) hB))
        all_goals
          go_wp2
          refine bodyPost_ret (v := .tuple #[.string P, .int .i64 AF, .bool true]) (by simp [results, Tryd.results21, go_sem]) rfl ?_
          exact ⟨ret_P HX.out, c1⟩
      · have HX := Lib.hid (hno (fun hh => hFG hh.2.2.2))
        have e1 := str_ne hFG
        have e2 := str_ne' hFG
        clear hyes hno hiff hpo hpd hpo2 hps hF h8 h15 hAE h23 hAF hk7 ho hb hn hfit h100 hlt ha hz hFG
        go_enter Tryd.func21, Tryd.ntmps21
        go_wp2_with fail
        refine (HV.out _).mono ?_
        rintro e w1 ⟨rfl, rfl⟩
        go_wp2_with fail
        refine (HN.out _).mono ?_
        rintro e w1 ⟨rfl, rfl⟩
        go_wp2_with fail
        go_region_held3 (fun wx => Below w.heap.size w wx) (first | exact c1 | exact b0.drew) (first | (go_at_call 45; refine (HFR.out _).mono ?_; rintro e w5 ⟨rfl, hB⟩; have c1 := below_then b0.drew (Nat.le_refl _) hB))
        all_goals
          go_wp2
          refine bodyPost_ret (v := .tuple #[.string ⟨#[]⟩, .int .i64 0, .bool false]) (by simp [results, Tryd.results21, go_sem]) rfl ?_
          exact ⟨ret_P HX.out, c1⟩
    · have j4 : (z.size : Int) - (a : Int) < 23 + (n : Int) := by omega
      have HX := Lib.hid (hno (fun hh => hfit hh.2.2.1))
      clear hyes hno hiff hpo hpd h8 h15 hAE h23 hAF hk7 ho hb hn hfit h100 hlt ha hz
      go_enter Tryd.func21, Tryd.ntmps21
      go_wp2_with fail
      refine (HV.out _).mono ?_
      rintro e w1 ⟨rfl, rfl⟩
      go_wp2_with fail
      refine (HN.out _).mono ?_
      rintro e w1 ⟨rfl, rfl⟩
      go_wp2
      refine bodyPost_ret (v := .tuple #[.string ⟨#[]⟩, .int .i64 0, .bool false]) (by simp [results, Tryd.results21, go_sem]) rfl ?_
      exact ⟨ret_P HX.out, Below.refl _ _⟩
  · have j3 : (100 : Int) < (n : Int) := by omega
    have HX := Lib.hid (hno (fun hh => h100 hh.2.1))
    clear hyes hno hiff hpo hpd h8 h15 hAE h23 hAF hk7 ho hb hn h100 hlt ha hz
    go_enter Tryd.func21, Tryd.ntmps21
    go_wp2_with fail
    refine (HV.out _).mono ?_
    rintro e w1 ⟨rfl, rfl⟩
    go_wp2_with fail
    refine (HN.out _).mono ?_
    rintro e w1 ⟨rfl, rfl⟩
    go_wp2
    refine bodyPost_ret (v := .tuple #[.string ⟨#[]⟩, .int .i64 0, .bool false]) (by simp [results, Tryd.results21, go_sem]) rfl ?_
    exact ⟨ret_P HX.out, Below.refl _ _⟩
theorem sParse_any (z : ByteArray) (k : Int) (w : World) (hs : z.size ≤ 1048576) :
    Calls Tryd.prog 21 #[.string z, .int .i64 k] w fun e w' => e = .returned (.tuple #[.string (parAns z k).1, .int .i64 (parAns z k).2.1, .bool (parAns z k).2.2]) ∧ Below w.heap.size w w' := by
  have HV := Lib.hid (fun w => l1Bits_any z w (by omega))
  cases hb : bitsB z with
  | false =>
    have HX := Lib.hid (par_no (z := z) (k := k) (by rw [hb]; simp))
    rw [hb] at HV
    clear hb
    go_enter Tryd.func21, Tryd.ntmps21
    go_wp2_with fail
    refine (HV.out _).mono ?_
    rintro e w1 ⟨rfl, rfl⟩
    go_wp2
    refine bodyPost_ret (v := .tuple #[.string ⟨#[]⟩, .int .i64 0, .bool false]) (by simp [results, Tryd.results21, go_sem]) rfl ?_
    exact ⟨ret_P HX.out, Below.refl _ _⟩
  | true =>
    by_cases hf : 0 ≤ k ∧ k + 23 ≤ z.size
    · obtain ⟨a, rfl⟩ : ∃ a : Nat, k = a := ⟨k.toNat, by omega⟩
      exact sParse_far z a w hb (by omega)
    · rw [hb] at HV
      have HX := Lib.hid (par_no (z := z) (k := k) (fun h => hf ⟨h.2.1, by have := ((hitB_iff z k.toNat).1 h.2.2.2).1; omega⟩))
      clear hb
      by_cases h0 : k < 0
      · clear hf
        go_enter Tryd.func21, Tryd.ntmps21
        go_wp2_with fail
        refine (HV.out _).mono ?_
        rintro e w1 ⟨rfl, rfl⟩
        go_wp2
        refine bodyPost_ret (v := .tuple #[.string ⟨#[]⟩, .int .i64 0, .bool false]) (by simp [results, Tryd.results21, go_sem]) rfl ?_
        exact ⟨ret_P HX.out, Below.refl _ _⟩
      · by_cases h1 : (z.size : Int) < k
        · clear hf
          go_enter Tryd.func21, Tryd.ntmps21
          go_wp2_with fail
          refine (HV.out _).mono ?_
          rintro e w1 ⟨rfl, rfl⟩
          go_wp2
          refine bodyPost_ret (v := .tuple #[.string ⟨#[]⟩, .int .i64 0, .bool false]) (by simp [results, Tryd.results21, go_sem]) rfl ?_
          exact ⟨ret_P HX.out, Below.refl _ _⟩
        · have j2 : (z.size : Int) - k < 23 := by omega
          clear hf
          go_enter Tryd.func21, Tryd.ntmps21
          go_wp2_with fail
          refine (HV.out _).mono ?_
          rintro e w1 ⟨rfl, rfl⟩
          go_wp2
          refine bodyPost_ret (v := .tuple #[.string ⟨#[]⟩, .int .i64 0, .bool false]) (by simp [results, Tryd.results21, go_sem]) rfl ?_
          exact ⟨ret_P HX.out, Below.refl _ _⟩
end Go.Proofs.YtdafepfjjmdkeaaDoor
