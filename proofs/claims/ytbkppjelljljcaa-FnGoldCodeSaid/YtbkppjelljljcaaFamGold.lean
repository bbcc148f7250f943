/- GoldCode of both sides, and the walk of its exact law. -/
import Derived.Test.YtbkppjelljljcaaFamPref
namespace Go.Proofs.Ytbkppjelljljcaa
open Go.RowKit
set_option linter.unusedVariables false
def goldC (M : Int → Int → Bool) (S a b k : Int) : ByteArray × Bool := if bothB M S a b = true ∧ -2 ≤ k ∧ k ≤ (tw S.toNat : Nat) - 2 then (goldS S a b k, true) else noS
theorem goldC_no {M : Int → Int → Bool} {S a b k : Int} (h : ¬ (bothB M S a b = true ∧ -2 ≤ k ∧ k ≤ ((tw S.toNat : Nat) : Int) - 2)) : goldC M S a b k = noS := by unfold goldC; rw [if_neg h]
theorem goldC_yes {M : Int → Int → Bool} {S a b k : Int} (h : bothB M S a b = true ∧ -2 ≤ k ∧ k ≤ ((tw S.toNat : Nat) : Int) - 2) : goldC M S a b k = (goldS S a b k, true) := by unfold goldC; rw [if_pos h]
set_option maxRecDepth 100000 in
theorem sGoldC_any (M : Int → Int → Bool) (hM : MaxIs M) (S a b k : Int) (w : World) :
    Calls Try.prog 12 #[.int .i64 S, .int .i64 a, .int .i64 b, .int .i64 k] w fun e w' => e = .returned (.tuple #[.string (goldC M S a b k).1, .bool (goldC M S a b k).2]) ∧ Below w.heap.size w w' := by
  have hB := fun w => l3Both_any M hM S a b w
  cases hb : bothB M S a b with
  | false =>
    rw [goldC_no (by rw [hb]; simp)]
    rw [hb] at hB
    have HB := Lib.hid hB
    clear hb hB hM
    go_enter Try.func12, Try.ntmps12
    go_wp2_with fail
    refine (HB.out _).mono ?_
    rintro e w1 ⟨rfl, b1⟩
    go_wp2
    go_ret2
    exact ⟨rfl, b1⟩
  | true =>
    obtain ⟨h6, ma, mb⟩ := (bothB_iff M S a b).1 hb
    have ta := (hM S a).1 ma
    have tb := (hM S b).1 mb
    have HG := Lib.hid (fun w => l3Gold_any S a b k w ta tb)
    have hB' := hB
    rw [hb] at hB'
    have HB := Lib.hid hB'
    have HY := Lib.hid (fun h => goldC_yes (M := M) (S := S) (a := a) (b := b) (k := k) ⟨hb, h⟩)
    have HN := Lib.hid (fun h => goldC_no (M := M) (S := S) (a := a) (b := b) (k := k) h)
    obtain ⟨s, t, rfl, rfl, h2, h8, -⟩ := taps_nat ta
    have h2' := fun w => l1Two_any s w h8
    rw [Int.toNat_natCast] at HY HN
    have h4 := tw_four s h2
    have hl := tw_le s h8
    obtain ⟨T, hT⟩ : ∃ T, tw s = T := ⟨_, rfl⟩
    rw [hT] at h2' HY HN h4 hl
    have HT := Lib.hid h2'
    clear hB hB' hb hM ma mb ta tb h2' hT
    by_cases hk : -2 ≤ k ∧ k ≤ (T : Int) - 2
    · rw [HY.out hk]
      go_enter Try.func12, Try.ntmps12
      go_wp2_with fail
      refine (HB.out _).mono ?_
      rintro e w1 ⟨rfl, b1⟩
      go_wp2_with fail
      refine (HT.out _).mono ?_
      rintro e w' ⟨rfl, rfl⟩
      go_wp2_with fail
      refine (l1In_yes k (-2) ((T : Int) - 2) _ hk.1 hk.2).mono ?_
      rintro e w' ⟨rfl, rfl⟩
      go_wp2_with fail
      refine (HG.out _).mono ?_
      rintro e w2 ⟨rfl, hb2⟩
      have b2 := below_then b1 (Nat.le_refl _) hb2
      clear b1 hb2
      go_wp2
      go_ret2
      exact ⟨rfl, b2⟩
    · rw [HN.out (fun h => hk h.2)]
      go_enter Try.func12, Try.ntmps12
      go_wp2_with fail
      refine (HB.out _).mono ?_
      rintro e w1 ⟨rfl, b1⟩
      go_wp2_with fail
      refine (HT.out _).mono ?_
      rintro e w' ⟨rfl, rfl⟩
      go_wp2_with fail
      refine (l1In_no k (-2) ((T : Int) - 2) _ hk).mono ?_
      rintro e w' ⟨rfl, rfl⟩
      go_wp2
      go_ret2
      exact ⟨rfl, b1⟩
set_option maxRecDepth 100000 in
theorem iGoldC_any (M : Int → Int → Bool) (hM : MaxIs M) (S a b k : Int) (w : World) :
    Calls Try.prog 11 #[.int .i64 S, .int .i64 a, .int .i64 b, .int .i64 k] w fun e w' => e = .returned (.tuple #[.string (goldC M S a b k).1, .bool (goldC M S a b k).2]) ∧ Below w.heap.size w w' := by
  have hB := fun w => family_any M hM S a b w
  cases hb : bothB M S a b with
  | false =>
    rw [goldC_no (by rw [hb]; simp)]
    rw [hb] at hB
    have HB := Lib.hid hB
    clear hb hB hM
    go_enter Try.func11, Try.ntmps11
    go_wp2_with fail
    refine (HB.out _).mono ?_
    rintro e w1 ⟨rfl, b1⟩
    go_wp2
    go_ret2
    exact ⟨rfl, b1⟩
  | true =>
    obtain ⟨h6, ma, mb⟩ := (bothB_iff M S a b).1 hb
    have ta := (hM S a).1 ma
    have tb := (hM S b).1 mb
    have hA := fun w => iMaxSeq_any M hM S a w
    have hB2 := fun w => iMaxSeq_any M hM S b w
    unfold mseqAns at hA hB2
    rw [ma] at hA
    rw [mb] at hB2
    have HA := Lib.hid hA
    have HB2 := Lib.hid hB2
    have hB' := hB
    rw [hb] at hB'
    have HB := Lib.hid hB'
    have HY := Lib.hid (fun h => goldC_yes (M := M) (S := S) (a := a) (b := b) (k := k) ⟨hb, h⟩)
    have HN := Lib.hid (fun h => goldC_no (M := M) (S := S) (a := a) (b := b) (k := k) h)
    have s1 := perS_seq ta
    have s2 := perS_seq tb
    have s3 : (perS S a).size = (perS S b).size := perS_len
    obtain ⟨s, t, rfl, rfl, h2, h8, -⟩ := taps_nat ta
    have hw := wrap_tw s h8
    rw [Int.toNat_natCast] at HY HN
    have h4 := tw_four s h2
    have hl := tw_le s h8
    obtain ⟨T, hT⟩ : ∃ T, tw s = T := ⟨_, rfl⟩
    rw [hT] at hw HY HN h4 hl
    unfold goldS at HY
    obtain ⟨Z1, hZ1⟩ : ∃ Z, perS s t = Z := ⟨_, rfl⟩
    obtain ⟨Z2, hZ2⟩ : ∃ Z, perS s b = Z := ⟨_, rfl⟩
    rw [hZ1] at HA HY s1 s3
    rw [hZ2] at HB2 HY s2 s3
    clear hB hB' hb hM ma mb ta tb hT hA hB2 hZ1 hZ2
    by_cases hk : -2 ≤ k ∧ k ≤ (T : Int) - 2
    · rw [HY.out hk]
      by_cases e2 : k = -2
      · subst e2
        rw [if_pos rfl]
        clear s1 s2 s3
        go_enter Try.func11, Try.ntmps11
        go_wp2_with fail
        refine (HB.out _).mono ?_
        rintro e w1 ⟨rfl, b1⟩
        go_wp2_with fail
        refine (HA.out _).mono ?_
        rintro e w2 ⟨rfl, hb2⟩
        have b2 := below_then b1 (Nat.le_refl _) hb2
        clear b1 hb2
        go_wp2
        go_ret2
        exact ⟨rfl, b2⟩
      · rw [if_neg e2]
        have d2 : (k == -2) = false := by simpa using e2
        have l2 : ¬ (k < -2) := by omega
        have l3 : ¬ ((T : Int) - 2 < k) := by omega
        by_cases e1 : k = -1
        · subst e1
          rw [if_pos rfl]
          clear s1 s2 s3
          go_enter Try.func11, Try.ntmps11
          go_wp2_with fail
          refine (HB.out _).mono ?_
          rintro e w1 ⟨rfl, b1⟩
          go_wp2_with fail
          refine (HB2.out _).mono ?_
          rintro e w2 ⟨rfl, hb2⟩
          have b2 := below_then b1 (Nat.le_refl _) hb2
          clear b1 hb2
          go_wp2
          go_ret2
          exact ⟨rfl, b2⟩
        · rw [if_neg e1]
          have d1 : (k == -1) = false := by simpa using e1
          obtain ⟨q1, q2, q3⟩ := (seqB_iff _).1 s2
          have hpair : pairB Z1 (shift Z2 k) = true := (pairB_iff _ _).2 ⟨s1, (seqB_iff _).2 ⟨shift_ok _ k q1, by rw [shift_size]; exact q2, by rw [shift_size]; exact q3⟩, by rw [shift_size]; exact s3⟩
          have HT := Lib.hid (fun w => turned_any Z2 k w q2 q3)
          have HS := Lib.hid (fun (w' : World) (g : Nat) hR cap => turned_str (w' := w') (g := g) (z := Z2) hR k q2 cap)
          have HD := Lib.hid (fun w => iAdd_yes Z1 (shift Z2 k) w hpair)
          clear s1 s2 s3 q1 hpair e1 e2
          obtain ⟨k1, k2⟩ := hk
          go_enter Try.func11, Try.ntmps11
          go_wp2_with fail
          refine (HB.out _).mono ?_
          rintro e w1 ⟨rfl, b1⟩
          go_wp2_with fail
          refine (HA.out _).mono ?_
          rintro e w2 ⟨rfl, hb2⟩
          have b2 := below_then b1 (Nat.le_refl _) hb2
          clear b1 hb2
          go_wp2_with fail
          refine (HB2.out _).mono ?_
          rintro e w3 ⟨rfl, hb3⟩
          have b3 := below_then b2 (Nat.le_refl _) hb3
          clear b2 hb3
          go_wp2_with fail
          refine (HT.out _).mono ?_
          rintro e w4 ⟨rfl, hR, hb4⟩
          have b4 := below_then b3 (Nat.le_refl _) hb4
          have hst := HS.out _ _ hR Z2.size
          clear b3 hb4 hR
          go_wp2_with fail
          refine (HD.out _).mono ?_
          rintro e w5 ⟨rfl, hb5⟩
          have b5 := below_then b4 (Nat.le_refl _) hb5
          clear b4 hb5 hst
          go_wp2
          go_ret2
          exact ⟨rfl, b5⟩
    · rw [HN.out (fun h => hk h.2)]
      by_cases e2 : k < -2
      · clear s1 s2 s3
        go_enter Try.func11, Try.ntmps11
        go_wp2_with fail
        refine (HB.out _).mono ?_
        rintro e w1 ⟨rfl, b1⟩
        go_wp2
        go_ret2
        exact ⟨rfl, b1⟩
      · have l3 : (T : Int) - 2 < k := by omega
        clear s1 s2 s3
        go_enter Try.func11, Try.ntmps11
        go_wp2_with fail
        refine (HB.out _).mono ?_
        rintro e w1 ⟨rfl, b1⟩
        go_wp2
        go_ret2
        exact ⟨rfl, b1⟩
end Go.Proofs.Ytbkppjelljljcaa
