/- IsPreferred of both sides, and the walk of its exact law. -/
import Derived.Test.YtmlmpekhcnjehaaFamMax
namespace Go.Proofs.Ytmlmpekhcnjehaa
open Go.RowKit
set_option linter.unusedVariables false
def bothB (M : Int → Int → Bool) (S a b : Int) : Bool := decide (S ≤ 6) && (M S a && M S b)
theorem bothB_iff (M : Int → Int → Bool) (S a b : Int) : bothB M S a b = true ↔ S ≤ 6 ∧ M S a = true ∧ M S b = true := by
  unfold bothB; simp only [Bool.and_eq_true, decide_eq_true_eq]
set_option maxRecDepth 100000 in
theorem family_any (M : Int → Int → Bool) (hM : MaxIs M) (S a b : Int) (w : World) :
    Calls Try.prog 29 #[.int .i64 S, .int .i64 a, .int .i64 b] w fun e w' => e = .returned (.bool (bothB M S a b)) ∧ Below w.heap.size w w' := by
  have ha := (hM S a).2.2
  have hb := (hM S b).2.2
  unfold bothB
  obtain ⟨A, hA⟩ : ∃ A, M S a = A := ⟨_, rfl⟩
  obtain ⟨B, hB⟩ : ∃ B, M S b = B := ⟨_, rfl⟩
  rw [hA] at ha ⊢
  rw [hB] at hb ⊢
  have HA := Lib.hid ha
  have HB := Lib.hid hb
  clear hA hB ha hb hM
  by_cases h6 : S ≤ 6
  · rw [decide_eq_true h6]
    cases A with
    | false =>
      go_enter Try.func29, Try.ntmps29
      go_wp2_with fail
      refine (HA.out _).mono ?_
      rintro e w1 ⟨rfl, b1⟩
      go_wp2
      go_ret
      exact ⟨rfl, b1⟩
    | true =>
      go_enter Try.func29, Try.ntmps29
      go_wp2_with fail
      refine (HA.out _).mono ?_
      rintro e w1 ⟨rfl, b1⟩
      go_wp2_with fail
      refine (HB.out _).mono ?_
      rintro e w2 ⟨rfl, hb2⟩
      have b2 := below_then b1 (Nat.le_refl _) hb2
      clear b1 hb2
      go_wp2
      go_ret
      exact ⟨rfl, b2⟩
  · rw [decide_eq_false h6]
    go_enter Try.func29, Try.ntmps29
    go_wp2
    go_ret
    exact ⟨rfl, Below.refl _ _⟩
/-- A correlation that a preferred pair may have. -/
def okV (t v : Int) : Bool := !(v != -1 && (v != -t && v != t - 2))
def okAll (t : Int) (n : Nat) (f : Nat → Int) : Bool := (List.range n).all fun j => okV t (f j)
theorem okAll_succ (t : Int) (n : Nat) (f : Nat → Int) : okAll t (n + 1) f = (okAll t n f && okV t (f n)) := by
  unfold okAll; rw [List.range_succ, List.all_append]; simp
theorem okAll_bad {t : Int} {n k : Nat} {f : Nat → Int} (hk : k < n) (h : okV t (f k) = false) : okAll t n f = false := by
  unfold okAll
  rw [List.all_eq_false]
  exact ⟨k, List.mem_range.2 hk, by rw [h]; simp⟩
def prefT (S a b : Int) : Bool := okAll (goldA S) (vlsN (perS S a) (perS S b)) (valF (perS S a) (perS S b))
def prefB (M : Int → Int → Bool) (S a b : Int) : Bool := bothB M S a b && (a != b && prefT S a b)
theorem goldA_bd {S : Int} (h2 : 2 ≤ S) (h8 : S ≤ 8) : 0 ≤ goldA S ∧ goldA S ≤ 1000 := by
  unfold goldA
  rw [if_pos ⟨h2, h8⟩]
  have := tw_le ((S.toNat + 2) / 2) (by omega)
  omega
set_option maxRecDepth 100000 in
theorem l3Pref_any (S a b : Int) (w : World) (ha : tapsB S a = true) (hb : tapsB S b = true) :
    Calls Try.prog 24 #[.int .i64 S, .int .i64 a, .int .i64 b] w fun e w' => e = .returned (.bool (prefT S a b)) ∧ Below w.heap.size w w' := by
  obtain ⟨s2, s8, -, -⟩ := (tapsB_iff S a).1 ha
  obtain ⟨g0, g1⟩ := goldA_bd s2 s8
  have z1 := perS_size ha
  have z2 := perS_size hb
  have HA := Lib.hid (fun w => l3Sequence_any S a w ha)
  have HB := Lib.hid (fun w => l3Sequence_any S b w hb)
  have HV := Lib.hid (fun w => sVals (perS S a) (perS S b) w (by omega) (by omega))
  have hn := valN_le6 (perS S a) (perS S b)
  have HG := Lib.hid (fun w => sGold_any S w)
  unfold prefT
  obtain ⟨n, hN⟩ : ∃ n, vlsN (perS S a) (perS S b) = n := ⟨_, rfl⟩
  obtain ⟨f, hF⟩ : ∃ f, valF (perS S a) (perS S b) = f := ⟨_, rfl⟩
  obtain ⟨t, ht⟩ : ∃ t, goldA S = t := ⟨_, rfl⟩
  obtain ⟨Z1, hZ1⟩ : ∃ Z, perS S a = Z := ⟨_, rfl⟩
  obtain ⟨Z2, hZ2⟩ : ∃ Z, perS S b = Z := ⟨_, rfl⟩
  rw [hN] at HV hn ⊢
  rw [hF] at HV ⊢
  rw [ht] at HG g0 g1 ⊢
  rw [hZ1] at HA HV
  rw [hZ2] at HB HV
  clear hN hF ht hZ1 hZ2 ha hb s2 s8 z1 z2
  go_enter Try.func24, Try.ntmps24
  go_wp2_with fail
  refine (HA.out _).mono ?_
  rintro e w1 ⟨rfl, b1⟩
  go_wp2_with fail
  refine (HB.out _).mono ?_
  rintro e w2 ⟨rfl, hb2⟩
  have b2 := below_then b1 (Nat.le_refl _) hb2
  clear b1 hb2
  go_wp2_with fail
  refine (HV.out _).mono ?_
  rintro e w3 ⟨v, rfl, O3, hb3⟩
  have b3 := below_then b2 (Nat.le_refl _) hb3
  clear b2 hb3
  obtain ⟨a0, cap, rfl, ha0⟩ := O3.form
  clear O3
  go_wp2_with fail
  refine (HG.out _).mono ?_
  rintro e w4 ⟨rfl, hb4⟩
  have b4 := below_then b3 (Nat.le_refl _) hb4
  have HC : Hid (∀ i, i < n → ∃ g, a0 = some ⟨g, 0, none⟩ ∧ w4.cell? ⟨g, i, none⟩ = some (.int .i64 (f i))) := Lib.hid (fun i hi => by
    obtain ⟨g, e, h1, h2, h3⟩ := ha0 (by omega)
    exact ⟨g, e, (hb4.cell (p := ⟨g, i, none⟩) h2).trans (h3 i hi).1⟩)
  clear ha0 b3 hb4
  go_wp2_with fail
  go_loopw [9] (fun i wr => ∃ k : Nat, k ≤ n ∧ i = .int .i64 k ∧ wr = w4 ∧ Hid (okAll t k f = true)) (fun i _ => n - (intOf i).toNat)
  case atStart => exact ⟨0, by omega, rfl, rfl, Lib.hid rfl⟩
  case round =>
    obtain ⟨k, hk, rfl, rfl, rI⟩ := hrel
    by_cases hlt : k < n
    · obtain ⟨g, rfl, hc⟩ := HC.out k hlt
      have hv := okAll_succ t k f
      have hbad := okAll_bad (t := t) (f := f) hlt
      obtain ⟨x, hx⟩ : ∃ x, f k = x := ⟨_, rfl⟩
      rw [hx] at hc hv hbad
      rw [rI.out, Bool.true_and] at hv
      have i0 : (0 : Int) ≤ (k : Int) := by omega
      have i1 : (k : Int) < (n : Int) := by omega
      unfold okV at hv hbad
      clear hx
      by_cases e1 : x = -1
      · have d1 : (x != -1) = false := by simp [e1]
        have HF := Lib.hid (show okAll t (k + 1) f = true by rw [hv, d1]; rfl)
        clear hv hbad e1 rI
        go_wp2
        go_roundw
        case rel => exact ⟨k + 1, by omega, by go_num, by first | rfl | trivial, HF⟩
        case measure => simp [intOf]; omega
      · have d1 : (x != -1) = true := by simpa using e1
        by_cases e2 : x = -t
        · have d2 : (x != -t) = false := by simp [e2]
          have HF := Lib.hid (show okAll t (k + 1) f = true by rw [hv, d1, d2]; rfl)
          clear hv hbad e1 e2 rI
          go_wp2
          go_roundw
          case rel => exact ⟨k + 1, by omega, by go_num, by first | rfl | trivial, HF⟩
          case measure => simp [intOf]; omega
        · have d2 : (x != -t) = true := by simpa using e2
          by_cases e3 : x = t - 2
          · have d3 : (x != t - 2) = false := by simp [e3]
            have HF := Lib.hid (show okAll t (k + 1) f = true by rw [hv, d1, d2, d3]; rfl)
            clear hv hbad e1 e2 e3 rI
            go_wp2
            go_roundw
            case rel => exact ⟨k + 1, by omega, by go_num, by first | rfl | trivial, HF⟩
            case measure => simp [intOf]; omega
          · have d3 : (x != t - 2) = true := by simpa using e3
            have HF := Lib.hid (hbad (by rw [d1, d2, d3]; rfl)).symm
            clear hv hbad e1 e2 e3 rI
            go_wp2
            go_ret
            exact ⟨ret_bool HF.out, b4⟩
    · obtain rfl : k = n := by omega
      go_wp2
      go_ret
      exact ⟨ret_bool rI.out.symm, b4⟩
set_option maxRecDepth 100000 in
theorem iPref_any (M : Int → Int → Bool) (hM : MaxIs M) (S a b : Int) (w : World) :
    Calls Try.prog 13 #[.int .i64 S, .int .i64 a, .int .i64 b] w fun e w' => e = .returned (.bool (prefB M S a b)) ∧ Below w.heap.size w w' := by
  have hB := fun w => family_any M hM S a b w
  unfold prefB
  cases hb : bothB M S a b with
  | false =>
    rw [hb] at hB
    have HB := Lib.hid hB
    clear hb hB hM
    go_enter Try.func13, Try.ntmps13
    go_wp2_with fail
    refine (HB.out _).mono ?_
    rintro e w1 ⟨rfl, b1⟩
    go_wp2
    go_ret
    exact ⟨rfl, b1⟩
  | true =>
    obtain ⟨h6, ma, mb⟩ := (bothB_iff M S a b).1 hb
    rw [hb] at hB
    have HB := Lib.hid hB
    by_cases he : a = b
    · have d1 : (a != b) = false := by simp [he]
      have d2 : (a == b) = true := by simp [he]
      rw [d1]
      clear he hb hB hM ma mb
      go_enter Try.func13, Try.ntmps13
      go_wp2_with fail
      refine (HB.out _).mono ?_
      rintro e w1 ⟨rfl, b1⟩
      go_wp2
      go_ret
      exact ⟨rfl, b1⟩
    · have d1 : (a != b) = true := by simpa using he
      have d2 : (a == b) = false := by simpa using he
      rw [d1, Bool.true_and, Bool.true_and]
      have ha := (hM S a).1 ma
      have hbb := (hM S b).1 mb
      obtain ⟨s2, s8, -, -⟩ := (tapsB_iff S a).1 ha
      obtain ⟨g0, g1⟩ := goldA_bd s2 s8
      have z1 := perS_size ha
      have z2 := perS_size hbb
      have hA := fun w => iMaxSeq_any M hM S a w
      have hBB := fun w => iMaxSeq_any M hM S b w
      unfold mseqAns at hA hBB
      rw [ma] at hA
      rw [mb] at hBB
      have HA := Lib.hid hA
      have HB2 := Lib.hid hBB
      have HV := Lib.hid (fun w => iVals (perS S a) (perS S b) w (by omega) (by omega))
      have hn := valN_le6 (perS S a) (perS S b)
      have HG := Lib.hid (fun w => iGold_any S w)
      unfold prefT
      obtain ⟨n, hN⟩ : ∃ n, vlsN (perS S a) (perS S b) = n := ⟨_, rfl⟩
      obtain ⟨f, hF⟩ : ∃ f, valF (perS S a) (perS S b) = f := ⟨_, rfl⟩
      obtain ⟨t, ht⟩ : ∃ t, goldA S = t := ⟨_, rfl⟩
      obtain ⟨Z1, hZ1⟩ : ∃ Z, perS S a = Z := ⟨_, rfl⟩
      obtain ⟨Z2, hZ2⟩ : ∃ Z, perS S b = Z := ⟨_, rfl⟩
      rw [hN] at HV hn ⊢
      rw [hF] at HV ⊢
      rw [ht] at HG g0 g1 ⊢
      rw [hZ1] at HA HV
      rw [hZ2] at HB2 HV
      clear hN hF ht hZ1 hZ2 ha hbb s2 s8 z1 z2 hA hBB hb hB hM ma mb he d1
      go_enter Try.func13, Try.ntmps13
      go_wp2_with fail
      refine (HB.out _).mono ?_
      rintro e w0 ⟨rfl, b0⟩
      go_wp2_with fail
      refine (HA.out _).mono ?_
      rintro e w1 ⟨rfl, hb1⟩
      have b1 := below_then b0 (Nat.le_refl _) hb1
      clear b0 hb1
      go_wp2_with fail
      refine (HB2.out _).mono ?_
      rintro e w2 ⟨rfl, hb2⟩
      have b2 := below_then b1 (Nat.le_refl _) hb2
      clear b1 hb2
      go_wp2_with fail
      refine (HG.out _).mono ?_
      rintro e w4 ⟨rfl, hb4⟩
      have b4 := below_then b2 (Nat.le_refl _) hb4
      clear b2 hb4
      go_wp2_with fail
      refine (HV.out _).mono ?_
      rintro e w3 ⟨v, rfl, O3, hb3⟩
      have b3 := below_then b4 (Nat.le_refl _) hb3
      clear b4 hb3
      obtain ⟨a0, cap, rfl, ha0⟩ := O3.form
      clear O3
      have HC : Hid (∀ i, i < n → ∃ g, a0 = some ⟨g, 0, none⟩ ∧ w3.cell? ⟨g, i, none⟩ = some (.int .i64 (f i))) := Lib.hid (fun i hi => by
        obtain ⟨g, e, h1, h2, h3⟩ := ha0 (by omega)
        exact ⟨g, e, (h3 i hi).1⟩)
      clear ha0
      go_wp2_with fail
      go_loopw [42] (fun i wr => ∃ k : Nat, k ≤ n ∧ i = .int .i64 k ∧ wr = w3 ∧ Hid (okAll t k f = true)) (fun i _ => n - (intOf i).toNat)
      case atStart => exact ⟨0, by omega, rfl, rfl, Lib.hid rfl⟩
      case round =>
        obtain ⟨k, hk, rfl, rfl, rI⟩ := hrel
        by_cases hlt : k < n
        · obtain ⟨g, rfl, hc⟩ := HC.out k hlt
          have hv := okAll_succ t k f
          have hbad := okAll_bad (t := t) (f := f) hlt
          obtain ⟨x, hx⟩ : ∃ x, f k = x := ⟨_, rfl⟩
          rw [hx] at hc hv hbad
          rw [rI.out, Bool.true_and] at hv
          have i0 : (0 : Int) ≤ (k : Int) := by omega
          have i1 : (k : Int) < (n : Int) := by omega
          unfold okV at hv hbad
          clear hx
          by_cases e1 : x = -1
          · have d1 : (x != -1) = false := by simp [e1]
            have HF := Lib.hid (show okAll t (k + 1) f = true by rw [hv, d1]; rfl)
            clear hv hbad e1 rI
            go_wp2
            go_roundw
            case rel => exact ⟨k + 1, by omega, by go_num, by first | rfl | trivial, HF⟩
            case measure => simp [intOf]; omega
          · have d1 : (x != -1) = true := by simpa using e1
            by_cases e2 : x = -t
            · have d2 : (x != -t) = false := by simp [e2]
              have HF := Lib.hid (show okAll t (k + 1) f = true by rw [hv, d1, d2]; rfl)
              clear hv hbad e1 e2 rI
              go_wp2
              go_roundw
              case rel => exact ⟨k + 1, by omega, by go_num, by first | rfl | trivial, HF⟩
              case measure => simp [intOf]; omega
            · have d2 : (x != -t) = true := by simpa using e2
              by_cases e3 : x = t - 2
              · have d3 : (x != t - 2) = false := by simp [e3]
                have HF := Lib.hid (show okAll t (k + 1) f = true by rw [hv, d1, d2, d3]; rfl)
                clear hv hbad e1 e2 e3 rI
                go_wp2
                go_roundw
                case rel => exact ⟨k + 1, by omega, by go_num, by first | rfl | trivial, HF⟩
                case measure => simp [intOf]; omega
              · have d3 : (x != t - 2) = true := by simpa using e3
                have HF := Lib.hid (hbad (by rw [d1, d2, d3]; rfl)).symm
                clear hv hbad e1 e2 e3 rI
                go_wp2
                go_ret
                exact ⟨ret_bool HF.out, b3⟩
        · obtain rfl : k = n := by omega
          go_wp2
          go_ret
          exact ⟨ret_bool rI.out.symm, b3⟩
end Go.Proofs.Ytmlmpekhcnjehaa
