/- The walk of the law FnPreferredPairs. -/
import Derived.Test.YtmlmpekhcnjehaaPairUse
import Derived.StillTailTactics
import Derived.BigQuiet
namespace Go.Proofs.Ytmlmpekhcnjehaa
open Go.RowKit
set_option linter.unusedVariables false
set_option maxRecDepth 100000
theorem drewN_cell (w : World) (x : Nat) (a : Addr) : (w.drewN x).cell? a = w.cell? a := rfl
set_option maxHeartbeats 3200000 in
theorem fnPreferredPairs_walk (a0 : Option Addr) (len0 cap0 : Nat) (z0 : List Int) (w : World) (w0 : IsBytes w a0 len0 cap0 z0) :
    Calls Try.prog 4 #[.slice a0 len0 cap0] w fun e w' => e = .returned (.bool true) ∧ Below w.heap.size w w' := by
  by_cases hl0 : 1048576 < len0
  · go_enter Try.func4, Try.ntmps4
    go_wp2
    go_ret
    exact ⟨rfl, Below.refl _ _⟩
  go_enter Try.func4, Try.ntmps4
  go_wp2_with fail
  refine (drawPP_any a0 len0 cap0 z0 _ w0).mono ?_
  rintro e w1 ⟨S, rfl, s1, s7, b1⟩
  clear w0
  obtain ⟨n, F, T, hn, hup, hs, hi, hm, hpr, hno⟩ := bothPairs2 S
  obtain ⟨l, hl⟩ : ∃ l, allL F T n n = l := ⟨_, rfl⟩
  obtain ⟨hlt, hle⟩ := all_facts hup hl.symm
  have htot := all_tot F T n
  rw [hl] at hs hi hno htot
  obtain ⟨L, hL⟩ : ∃ L, l.length = L := ⟨_, rfl⟩
  obtain ⟨f, hF⟩ : ∃ f, LP l = f := ⟨_, rfl⟩
  have hL9 : L ≤ 90000 := by have h1 := allL_len F T n hn n; rw [hl, hL] at h1; omega
  have hno2 : 6 < S → L = 0 := fun h => by rw [← hL, hno h]; rfl
  rw [hL] at hs hi htot hlt hle
  rw [hF] at hs hi hlt hle
  have HS := Lib.hid hs
  have HI := Lib.hid hi
  have HM := Lib.hid hm
  have HPR := Lib.hid hpr
  have HNO := Lib.hid hno2
  have HLT := Lib.hid hlt
  have HLE := Lib.hid hle
  have HTT := Lib.hid htot
  have HTN := Lib.hid (fun i h => totN_le T i h)
  have HCN := Lib.hid (fun i k => colN_le T i k)
  clear hs hi hm hpr hno hno2 hlt hle htot hup hl hL hF
  go_wp2_with fail
  refine (HI.out _).mono ?_
  rintro e w2 ⟨v, rfl, P2, hb⟩
  have b2 := below_then b1 (Nat.le_refl _) hb
  clear b1 hb
  go_wp2_with fail
  refine (HS.out _).mono ?_
  rintro e w3 ⟨u, rfl, Q3, hb⟩
  have b3 := below_then b2 (Nat.le_refl _) hb
  have P3 := P2.below hb
  clear b2 hb P2
  obtain ⟨va, vc, rfl, hva⟩ := P3.form
  obtain ⟨ua, uc, rfl, hua⟩ := Q3.form
  have HC : Hid (∀ k, k < L → ∃ g h, va = some ⟨g, 0, none⟩ ∧ ua = some ⟨h, 0, none⟩ ∧ w3.cell? ⟨g, k * 2, none⟩ = some (.int .i64 (f k).1) ∧ w3.cell? ⟨g, k * 2 + 1, none⟩ = some (.int .i64 (f k).2) ∧ w3.cell? ⟨h, k * 2, none⟩ = some (.int .i64 (f k).1) ∧ w3.cell? ⟨h, k * 2 + 1, none⟩ = some (.int .i64 (f k).2)) := Lib.hid (fun k hk => by
    obtain ⟨g, rfl, -, -⟩ := hva (by omega)
    obtain ⟨h, rfl, -, -⟩ := hua (by omega)
    exact ⟨g, h, rfl, rfl, (P3.cells k hk).1, (P3.cells k hk).2, (Q3.cells k hk).1, (Q3.cells k hk).2⟩)
  clear P3 Q3 hva hua HS HI
  go_wp2
  go_loopw [6] (fun i wr => ∃ k x : Nat, k ≤ L ∧ i = .int .i64 k ∧ wr = w3.drewN x) (fun i _ => L - (intOf i).toNat)
  case atStart => exact ⟨0, 0, Nat.zero_le _, rfl, rfl⟩
  case round =>
    obtain ⟨k, x, hk, rfl, rfl⟩ := hrel
    by_cases hkl : k < L
    · obtain ⟨g, h, rfl, rfl, c0', c1', d0', d1'⟩ := HC.out k hkl
      have c0 := (drewN_cell w3 x _).trans c0'
      have c1 := (drewN_cell w3 x _).trans c1'
      have d0 := (drewN_cell w3 x _).trans d0'
      have d1 := (drewN_cell w3 x _).trans d1'
      clear c0' c1' d0' d1'
      have hAD := HLT.out k hkl
      obtain ⟨A, hA⟩ : ∃ A, (f k).1 = A := ⟨_, rfl⟩
      obtain ⟨D, hD⟩ : ∃ A, (f k).2 = A := ⟨_, rfl⟩
      have HA := Lib.hid hA
      have HD := Lib.hid hD
      rw [hA] at c0 d0 hAD
      rw [hD] at c1 d1 hAD
      have i0 : (0 : Int) ≤ (k : Int) := by omega
      have i1 : (k : Int) < (L : Int) := by omega
      have q0 : ¬ (D ≤ A) := by omega
      have q1 : decide (D ≤ A) = false := decide_eq_false q0
      clear hA hD hAD
      cases k with
      | zero =>
        obtain ⟨W, hW⟩ : ∃ W, w3.drewN x = W := ⟨_, rfl⟩
        rw [hW] at c0 c1 d0 d1 ⊢
        have HW := Lib.hid hW
        clear hW
        go_wp2_with fail
        go_quiet (fail)
        clear c0 c1 d0 d1
        go_wp2
        go_roundw
        case rel => exact ⟨1, x + nq, by omega, by go_num, by rw [← HW.out, World.drewN_drewN]⟩
        case measure => simp [intOf]; omega
      | succ m =>
        obtain ⟨g', h', e1, -, x0', x1', -, -⟩ := HC.out m (by omega)
        have x0 := (drewN_cell w3 x _).trans x0'
        have x1 := (drewN_cell w3 x _).trans x1'
        clear x0' x1'
        injection e1 with e1
        injection e1 with e1
        subst e1
        have hlx := HLE.out m hkl
        unfold lexP at hlx
        rw [HA.out, HD.out] at hlx
        obtain ⟨A', hA'⟩ : ∃ A, (f m).1 = A := ⟨_, rfl⟩
        obtain ⟨D', hD'⟩ : ∃ A, (f m).2 = A := ⟨_, rfl⟩
        rw [hA'] at x0 hlx
        rw [hD'] at x1 hlx
        have m0 : ((m + 1 : Nat) : Int) - 1 = (m : Int) := by omega
        have m1 : (0 : Int) ≤ (m : Int) := by omega
        have m2 : (m : Int) < (L : Int) := by omega
        have m3 : (0 : Int) < ((m + 1 : Nat) : Int) := by omega
        obtain ⟨K, hK⟩ : ∃ K, m + 1 = K := ⟨_, rfl⟩
        rw [hK] at c0 c1 d0 d1 i0 i1 m0 m3 hkl hk ⊢
        clear hA' hD' HA HD
        have HKK := Lib.hid hK
        have hm90 : m ≤ 90000 := by omega
        clear hK
        have m4 : decide ((0 : Int) < (K : Int)) = true := decide_eq_true m3
        have m6 : decide (0 < K) = true := decide_eq_true (by omega)
        have m7 : 0 < K := by omega
        have m5 : IntKind.i64.wrap ((K : Int) - 1) = (m : Int) := by rw [m0]; exact IntWalk.i64_in _ (by omega)
        obtain ⟨W, hW⟩ : ∃ W, w3.drewN x = W := ⟨_, rfl⟩
        rw [hW] at c0 c1 d0 d1 x0 x1 ⊢
        have HW := Lib.hid hW
        clear hW
        rcases hlx with hx | ⟨hx, hy⟩
        · have t1 : ¬ A < A' := by omega
          have t2 : (A == A') = false := by rw [beq_eq_false_iff_ne]; omega
          have t3 : ¬ A = A' := by omega
          have t4 : decide (A < A') = false := decide_eq_false t1
          clear hx
          go_wp2_with fail
          go_quiet (fail)
          clear c0 c1 d0 d1 x0 x1 m0 m5
          go_wp2
          go_roundw
          case rel => exact ⟨K + 1, x + nq, by omega, by go_num, by rw [← HW.out, World.drewN_drewN]⟩
          case measure => simp [intOf]; omega
        · subst hx
          have t1 : ¬ D ≤ D' := by omega
          have t4 : decide (D ≤ D') = false := decide_eq_false t1
          have t5 : (A' == A') = true := by simp
          have t6 : decide (A' < A') = false := by simp
          clear hy
          go_wp2_with fail
          go_quiet (fail)
          clear c0 c1 d0 d1 x0 x1 m0 m5
          go_wp2
          go_roundw
          case rel => exact ⟨K + 1, x + nq, by omega, by go_num, by rw [← HW.out, World.drewN_drewN]⟩
          case measure => simp [intOf]; omega
    · obtain rfl : k = L := by omega
      have b3' := below_drewN b3 x
      obtain ⟨W, hW⟩ : ∃ W, w3.drewN x = W := ⟨_, rfl⟩
      rw [hW] at b3' ⊢
      clear HC HLT HLE hW b3
      go_wp2_with fail
      refine (HM.out _).mono ?_
      rintro e w4 ⟨tv, rfl, O4, hb⟩
      have b4 := below_then b3' (Nat.le_refl _) hb
      clear b3' hb HM
      obtain ⟨ta, tc, rfl, hta⟩ := O4.form
      have HTC : Hid (∀ j, j < n → ∃ g, ta = some ⟨g, 0, none⟩ ∧ g < w4.heap.size ∧ w4.cell? ⟨g, j, none⟩ = some (.int .i64 (F j))) := Lib.hid (fun j hj => by
        obtain ⟨g, e, -, h2, h3⟩ := hta (by omega)
        exact ⟨g, e, h2, (h3 j hj).1⟩)
      clear hta O4
      by_cases h6 : S ≤ 6
      · have HPP := Lib.hid (HPR.out h6)
        clear HPR HNO
        go_wp2
        go_loopw [8, 9] (fun c i wr => ∃ (j C : Nat), j ≤ n ∧ Hid (C = totN T j) ∧ C ≤ 90000 ∧ c = .int .i64 C ∧ i = .int .i64 j ∧ Below w4.heap.size w4 wr) (fun _ i _ => n - (intOf i).toNat)
        case atStart => exact ⟨0, 0, Nat.zero_le _, Lib.hid rfl, Nat.zero_le _, rfl, rfl, Below.refl _ _⟩
        case round =>
          obtain ⟨j, C, hj, HC, hC9, rfl, rfl, rc⟩ := hrel
          by_cases hjn : j < n
          · have j0 : (0 : Int) ≤ (j : Int) := by omega
            have j1 : (j : Int) < (n : Int) := by omega
            have hCj : C ≤ j * 300 := by rw [HC.out]; exact HTN.out j (by omega)
            go_wp2
            go_loopw [8, 10] (fun c i wr => ∃ (m E : Nat), m ≤ j ∧ Hid (E = totN T j + colN T j m) ∧ E ≤ 100000 ∧ c = .int .i64 E ∧ i = .int .i64 m ∧ Below w4.heap.size w4 wr) (fun _ i _ => j - (intOf i).toNat)
            case atStart => exact ⟨0, C, Nat.zero_le _, Lib.hid (by rw [HC.out]; rfl), by omega, rfl, rfl, rc⟩
            case round =>
              clear rc
              obtain ⟨m, E, hm, HE, hE9, rfl, rfl, rc⟩ := hrel
              by_cases hmj : m < j
              · obtain ⟨g, rfl, hg, c0⟩ := HTC.out j hjn
                obtain ⟨g', e1, -, c1⟩ := HTC.out m (by omega)
                injection e1 with e1
                injection e1 with e1
                subst e1
                have d0 := (rc.cell (p := ⟨g, j, none⟩) hg).trans c0
                have d1 := (rc.cell (p := ⟨g, m, none⟩) hg).trans c1
                have hpf := fun w => HPP.out j m hmj hjn w
                obtain ⟨A, hA⟩ : ∃ A, F j = A := ⟨_, rfl⟩
                obtain ⟨D, hD⟩ : ∃ A, F m = A := ⟨_, rfl⟩
                obtain ⟨y, hy⟩ : ∃ y, T m j = y := ⟨_, rfl⟩
                rw [hA] at d0
                rw [hD] at d1
                simp only [hA, hD, hy] at hpf
                have HPF := Lib.hid hpf
                have HY := Lib.hid hy
                have m0 : (0 : Int) ≤ (m : Int) := by omega
                have m1 : (m : Int) < (n : Int) := by omega
                have m2 : (m : Int) < (j : Int) := by omega
                have hEc : E ≤ 91000 := by have h1 := HE.out; have h2 := HCN.out j m; have h3 := HTN.out j (by omega); omega
                have hrg := Below.refl wr.heap.size wr
                clear hpf hy hA hD c0 c1
                go_wp2_with fail
                go_still_tail 9, (by kernel_rfl)
                repeat still_step
                repeat still_step
                try refine wpStill_nil ?_
                change wpList _ _ _ _ _ wr.drew
                have g1 := below_drew hrg
                obtain ⟨W, hW⟩ : ∃ W, wr.drew = W := ⟨_, rfl⟩
                rw [hW] at g1 ⊢
                have HW := Lib.hid hW
                clear hrg d0 d1 hW
                go_wp2_with fail
                refine (HPF.out _).mono ?_
                rintro e w5 ⟨rfl, hb⟩
                have g5 := below_then g1 (Nat.le_refl _) hb
                have rc5 := below_then rc (Nat.le_refl _) g5
                clear g1 hb g5 rc HW HPF
                cases y with
                | false =>
                  have HE2 : Hid (E = totN T j + colN T j (m + 1)) := Lib.hid (by rw [HE.out]; simp only [colN]; rw [if_neg (by rw [HY.out]; simp)]; rfl)
                  clear HE HY
                  go_wp2
                  go_roundw
                  case rel => exact ⟨m + 1, E, by omega, HE2, hE9, rfl, by go_num, rc5⟩
                  case measure => simp [intOf]; omega
                | true =>
                  have HE2 : Hid (E + 1 = totN T j + colN T j (m + 1)) := Lib.hid (by rw [HE.out]; simp only [colN]; rw [if_pos HY.out]; omega)
                  clear HE HY
                  go_wp2
                  go_roundw
                  case rel => exact ⟨m + 1, E + 1, by omega, HE2, by omega, by go_num, by go_num, rc5⟩
                  case measure => simp [intOf]; omega
              · obtain rfl : m = j := by omega
                have HE2 : Hid (E = totN T (m + 1)) := Lib.hid (by rw [HE.out]; rfl)
                have hE8 : E ≤ 90000 := by rw [HE2.out]; have := HTN.out (m + 1) (by omega); omega
                clear HE
                go_wp2
                go_roundw
                case rel => exact ⟨m + 1, E, by omega, HE2, hE8, rfl, by go_num, rc⟩
                case measure => simp [intOf]; omega
          · obtain rfl : j = n := by omega
            have hCL : C = k := by rw [HC.out]; exact HTT.out.symm
            subst hCL
            have bz := below_then b4 (Nat.le_refl _) rc
            clear HC HTT
            go_wp2
            go_ret
            exact ⟨rfl, bz⟩
      · obtain rfl := HNO.out (by omega)
        have h6' : ¬ S ≤ 6 := h6
        clear HPR HNO HTT
        go_wp2
        go_loopw [8, 9] (fun c i wr => c = .int .i64 (0 : Nat) ∧ i = .int .i64 (0 : Nat) ∧ wr = w4) (fun _ i _ => (intOf i).toNat)
        case atStart => exact ⟨rfl, rfl, rfl⟩
        case round =>
          obtain ⟨rfl, rfl, rfl⟩ := hrel
          by_cases hn0 : 0 < n
          · have n1 : (0 : Int) < (n : Int) := by omega
            go_wp2
            go_ret
            exact ⟨rfl, b4⟩
          · have n1 : ¬ (0 : Int) < (n : Int) := by omega
            go_wp2
            go_ret
            exact ⟨rfl, b4⟩
end Go.Proofs.Ytmlmpekhcnjehaa
