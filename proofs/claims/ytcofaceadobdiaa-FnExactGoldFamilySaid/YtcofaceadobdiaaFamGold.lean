/- GoldCode of both sides, and the walk of its exact law. -/
import Derived.Test.YtcofaceadobdiaaFamPref
namespace Go.Proofs.Ytcofaceadobdiaa
open Go.RowKit
set_option linter.unusedVariables false
theorem perS_seq {S T : Int} (h : tapsB S T = true) : seqB (perS S T) = true := by
  obtain ⟨s, t, rfl, rfl, h2, h8, hR⟩ := taps_nat h
  have h4 := tw_four s h2
  have := tw_le s h8
  refine (seqB_iff _).2 ⟨okB_of_zb _ fun i hi => ?_, ?_, perS_size h⟩
  · unfold perS at hi ⊢
    rw [runS_size] at hi
    rw [runS, zb_strF hi (by omega)]
    omega
  · unfold perS; rw [runS_size, Int.toNat_natCast]; omega
theorem perS_len {S a b : Int} : (perS S a).size = (perS S b).size := by unfold perS; rw [runS_size, runS_size]
/-- The code of a Gold family. -/
def goldS (S a b k : Int) : ByteArray := if k = -2 then perS S a else if k = -1 then perS S b else addS (perS S a) (shift (perS S b) k)
def goldC (M : Int → Int → Bool) (S a b k : Int) : ByteArray × Bool := if bothB M S a b = true ∧ -2 ≤ k ∧ k ≤ (tw S.toNat : Nat) - 2 then (goldS S a b k, true) else noS
theorem goldC_no {M : Int → Int → Bool} {S a b k : Int} (h : ¬ (bothB M S a b = true ∧ -2 ≤ k ∧ k ≤ ((tw S.toNat : Nat) : Int) - 2)) : goldC M S a b k = noS := by unfold goldC; rw [if_neg h]
theorem goldC_yes {M : Int → Int → Bool} {S a b k : Int} (h : bothB M S a b = true ∧ -2 ≤ k ∧ k ≤ ((tw S.toNat : Nat) : Int) - 2) : goldC M S a b k = (goldS S a b k, true) := by unfold goldC; rw [if_pos h]
set_option maxRecDepth 100000 in
theorem l3Gold_any (S a b k : Int) (w : World) (ha : tapsB S a = true) (hb : tapsB S b = true) :
    Calls Try.prog 83 #[.int .i64 S, .int .i64 a, .int .i64 b, .int .i64 k] w fun e w' => e = .returned (.string (goldS S a b k)) ∧ Below w.heap.size w w' := by
  have HA := Lib.hid (fun w => l3Sequence_any S a w ha)
  have HB := Lib.hid (fun w => l3Sequence_any S b w hb)
  unfold goldS
  by_cases e2 : k = -2
  · subst e2
    rw [if_pos rfl]
    clear ha hb
    go_enter Try.func83, Try.ntmps83
    go_wp2_with fail
    refine (HA.out _).mono ?_
    rintro e w1 ⟨rfl, b1⟩
    go_wp2
    go_ret
    exact ⟨rfl, b1⟩
  · rw [if_neg e2]
    have d2 : (k == -2) = false := by simpa using e2
    by_cases e1 : k = -1
    · subst e1
      rw [if_pos rfl]
      clear ha hb
      go_enter Try.func83, Try.ntmps83
      go_wp2_with fail
      refine (HB.out _).mono ?_
      rintro e w1 ⟨rfl, b1⟩
      go_wp2
      go_ret
      exact ⟨rfl, b1⟩
    · rw [if_neg e1]
      have d1 : (k == -1) = false := by simpa using e1
      have s1 := (seqB_iff _).1 (perS_seq ha)
      have s2 := (seqB_iff _).1 (perS_seq hb)
      have HS := Lib.hid (fun w => l2Shift_any (perS S b) k w s2.2.1 s2.2.2)
      have HD := Lib.hid (fun w => l2Add_any (perS S a) (shift (perS S b) k) w s1.1 (shift_ok _ k s2.1) (by rw [shift_size]; exact perS_len) s1.2.2)
      obtain ⟨Z1, hZ1⟩ : ∃ Z, perS S a = Z := ⟨_, rfl⟩
      obtain ⟨Z2, hZ2⟩ : ∃ Z, perS S b = Z := ⟨_, rfl⟩
      rw [hZ1] at HA HD ⊢
      rw [hZ2] at HB HS HD ⊢
      clear hZ1 hZ2 ha hb s1 s2 e1 e2
      go_enter Try.func83, Try.ntmps83
      go_wp2_with fail
      refine (HA.out _).mono ?_
      rintro e w1 ⟨rfl, b1⟩
      go_wp2_with fail
      refine (HB.out _).mono ?_
      rintro e w2 ⟨rfl, hb2⟩
      have b2 := below_then b1 (Nat.le_refl _) hb2
      clear b1 hb2
      go_wp2_with fail
      refine (HS.out _).mono ?_
      rintro e w3 ⟨rfl, m, rfl⟩
      have b3 := below_drewN b2 m
      obtain ⟨W, hW⟩ : ∃ W, w2.drewN m = W := ⟨_, rfl⟩
      rw [hW] at b3 ⊢
      clear hW b2
      go_wp2_with fail
      refine (HD.out _).mono ?_
      rintro e w4 ⟨rfl, hb4⟩
      have b4 := below_then b3 (Nat.le_refl _) hb4
      clear b3 hb4
      go_wp2
      go_ret
      exact ⟨rfl, b4⟩
set_option maxRecDepth 100000 in
theorem sGoldC_any (M : Int → Int → Bool) (hM : MaxIs M) (S a b k : Int) (w : World) :
    Calls Try.prog 37 #[.int .i64 S, .int .i64 a, .int .i64 b, .int .i64 k] w fun e w' => e = .returned (.tuple #[.string (goldC M S a b k).1, .bool (goldC M S a b k).2]) ∧ Below w.heap.size w w' := by
  have hB := fun w => l3Both_any M hM S a b w
  cases hb : bothB M S a b with
  | false =>
    rw [goldC_no (by rw [hb]; simp)]
    rw [hb] at hB
    have HB := Lib.hid hB
    clear hb hB hM
    go_enter Try.func37, Try.ntmps37
    go_wp2_with fail
    refine (HB.out _).mono ?_
    rintro e w1 ⟨rfl, b1⟩
    go_wp2
    go_ret2
    exact ⟨rfl, b1⟩
  | true =>
    obtain ⟨h6, ma, mb⟩ := (bothB_iff M S a b).1 hb
    have ta := (hM S a).1 ma
    have tb := (hM S b).1 mb
    have HG := Lib.hid (fun w => l3Gold_any S a b k w ta tb)
    have hB' := hB
    rw [hb] at hB'
    have HB := Lib.hid hB'
    have HY := Lib.hid (fun h => goldC_yes (M := M) (S := S) (a := a) (b := b) (k := k) ⟨hb, h⟩)
    have HN := Lib.hid (fun h => goldC_no (M := M) (S := S) (a := a) (b := b) (k := k) h)
    obtain ⟨s, t, rfl, rfl, h2, h8, -⟩ := taps_nat ta
    have h2' := fun w => l1Two_any s w h8
    rw [Int.toNat_natCast] at HY HN
    have h4 := tw_four s h2
    have hl := tw_le s h8
    obtain ⟨T, hT⟩ : ∃ T, tw s = T := ⟨_, rfl⟩
    rw [hT] at h2' HY HN h4 hl
    have HT := Lib.hid h2'
    clear hB hB' hb hM ma mb ta tb h2' hT
    by_cases hk : -2 ≤ k ∧ k ≤ (T : Int) - 2
    · rw [HY.out hk]
      go_enter Try.func37, Try.ntmps37
      go_wp2_with fail
      refine (HB.out _).mono ?_
      rintro e w1 ⟨rfl, b1⟩
      go_wp2_with fail
      refine (HT.out _).mono ?_
      rintro e w' ⟨rfl, rfl⟩
      go_wp2_with fail
      refine (l1In_yes k (-2) ((T : Int) - 2) _ hk.1 hk.2).mono ?_
      rintro e w' ⟨rfl, rfl⟩
      go_wp2_with fail
      refine (HG.out _).mono ?_
      rintro e w2 ⟨rfl, hb2⟩
      have b2 := below_then b1 (Nat.le_refl _) hb2
      clear b1 hb2
      go_wp2
      go_ret2
      exact ⟨rfl, b2⟩
    · rw [HN.out (fun h => hk h.2)]
      go_enter Try.func37, Try.ntmps37
      go_wp2_with fail
      refine (HB.out _).mono ?_
      rintro e w1 ⟨rfl, b1⟩
      go_wp2_with fail
      refine (HT.out _).mono ?_
      rintro e w' ⟨rfl, rfl⟩
      go_wp2_with fail
      refine (l1In_no k (-2) ((T : Int) - 2) _ hk).mono ?_
      rintro e w' ⟨rfl, rfl⟩
      go_wp2
      go_ret2
      exact ⟨rfl, b1⟩
set_option maxRecDepth 100000 in
theorem iGoldC_any (M : Int → Int → Bool) (hM : MaxIs M) (S a b k : Int) (w : World) :
    Calls Try.prog 38 #[.int .i64 S, .int .i64 a, .int .i64 b, .int .i64 k] w fun e w' => e = .returned (.tuple #[.string (goldC M S a b k).1, .bool (goldC M S a b k).2]) ∧ Below w.heap.size w w' := by
  have hB := fun w => family_any M hM S a b w
  cases hb : bothB M S a b with
  | false =>
    rw [goldC_no (by rw [hb]; simp)]
    rw [hb] at hB
    have HB := Lib.hid hB
    clear hb hB hM
    go_enter Try.func38, Try.ntmps38
    go_wp2_with fail
    refine (HB.out _).mono ?_
    rintro e w1 ⟨rfl, b1⟩
    go_wp2
    go_ret2
    exact ⟨rfl, b1⟩
  | true =>
    obtain ⟨h6, ma, mb⟩ := (bothB_iff M S a b).1 hb
    have ta := (hM S a).1 ma
    have tb := (hM S b).1 mb
    have hA := fun w => iMaxSeq_any M hM S a w
    have hB2 := fun w => iMaxSeq_any M hM S b w
    unfold mseqAns at hA hB2
    rw [ma] at hA
    rw [mb] at hB2
    have HA := Lib.hid hA
    have HB2 := Lib.hid hB2
    have hB' := hB
    rw [hb] at hB'
    have HB := Lib.hid hB'
    have HY := Lib.hid (fun h => goldC_yes (M := M) (S := S) (a := a) (b := b) (k := k) ⟨hb, h⟩)
    have HN := Lib.hid (fun h => goldC_no (M := M) (S := S) (a := a) (b := b) (k := k) h)
    have s1 := perS_seq ta
    have s2 := perS_seq tb
    have s3 : (perS S a).size = (perS S b).size := perS_len
    obtain ⟨s, t, rfl, rfl, h2, h8, -⟩ := taps_nat ta
    have hw := wrap_tw s h8
    rw [Int.toNat_natCast] at HY HN
    have h4 := tw_four s h2
    have hl := tw_le s h8
    obtain ⟨T, hT⟩ : ∃ T, tw s = T := ⟨_, rfl⟩
    rw [hT] at hw HY HN h4 hl
    unfold goldS at HY
    obtain ⟨Z1, hZ1⟩ : ∃ Z, perS s t = Z := ⟨_, rfl⟩
    obtain ⟨Z2, hZ2⟩ : ∃ Z, perS s b = Z := ⟨_, rfl⟩
    rw [hZ1] at HA HY s1 s3
    rw [hZ2] at HB2 HY s2 s3
    clear hB hB' hb hM ma mb ta tb hT hA hB2 hZ1 hZ2
    by_cases hk : -2 ≤ k ∧ k ≤ (T : Int) - 2
    · rw [HY.out hk]
      by_cases e2 : k = -2
      · subst e2
        rw [if_pos rfl]
        clear s1 s2 s3
        go_enter Try.func38, Try.ntmps38
        go_wp2_with fail
        refine (HB.out _).mono ?_
        rintro e w1 ⟨rfl, b1⟩
        go_wp2_with fail
        refine (HA.out _).mono ?_
        rintro e w2 ⟨rfl, hb2⟩
        have b2 := below_then b1 (Nat.le_refl _) hb2
        clear b1 hb2
        go_wp2
        go_ret2
        exact ⟨rfl, b2⟩
      · rw [if_neg e2]
        have d2 : (k == -2) = false := by simpa using e2
        have l2 : ¬ (k < -2) := by omega
        have l3 : ¬ ((T : Int) - 2 < k) := by omega
        by_cases e1 : k = -1
        · subst e1
          rw [if_pos rfl]
          clear s1 s2 s3
          go_enter Try.func38, Try.ntmps38
          go_wp2_with fail
          refine (HB.out _).mono ?_
          rintro e w1 ⟨rfl, b1⟩
          go_wp2_with fail
          refine (HB2.out _).mono ?_
          rintro e w2 ⟨rfl, hb2⟩
          have b2 := below_then b1 (Nat.le_refl _) hb2
          clear b1 hb2
          go_wp2
          go_ret2
          exact ⟨rfl, b2⟩
        · rw [if_neg e1]
          have d1 : (k == -1) = false := by simpa using e1
          obtain ⟨q1, q2, q3⟩ := (seqB_iff _).1 s2
          have hpair : pairB Z1 (shift Z2 k) = true := (pairB_iff _ _).2 ⟨s1, (seqB_iff _).2 ⟨shift_ok _ k q1, by rw [shift_size]; exact q2, by rw [shift_size]; exact q3⟩, by rw [shift_size]; exact s3⟩
          have HT := Lib.hid (fun w => turned_any Z2 k w q2 q3)
          have HS := Lib.hid (fun (w' : World) (g : Nat) hR cap => turned_str (w' := w') (g := g) (z := Z2) hR k q2 cap)
          have HD := Lib.hid (fun w => iAdd_yes Z1 (shift Z2 k) w hpair)
          clear s1 s2 s3 q1 hpair e1 e2
          obtain ⟨k1, k2⟩ := hk
          go_enter Try.func38, Try.ntmps38
          go_wp2_with fail
          refine (HB.out _).mono ?_
          rintro e w1 ⟨rfl, b1⟩
          go_wp2_with fail
          refine (HA.out _).mono ?_
          rintro e w2 ⟨rfl, hb2⟩
          have b2 := below_then b1 (Nat.le_refl _) hb2
          clear b1 hb2
          go_wp2_with fail
          refine (HB2.out _).mono ?_
          rintro e w3 ⟨rfl, hb3⟩
          have b3 := below_then b2 (Nat.le_refl _) hb3
          clear b2 hb3
          go_wp2_with fail
          refine (HT.out _).mono ?_
          rintro e w4 ⟨rfl, hR, hb4⟩
          have b4 := below_then b3 (Nat.le_refl _) hb4
          have hst := HS.out _ _ hR Z2.size
          clear b3 hb4 hR
          go_wp2_with fail
          refine (HD.out _).mono ?_
          rintro e w5 ⟨rfl, hb5⟩
          have b5 := below_then b4 (Nat.le_refl _) hb5
          clear b4 hb5 hst
          go_wp2
          go_ret2
          exact ⟨rfl, b5⟩
    · rw [HN.out (fun h => hk h.2)]
      by_cases e2 : k < -2
      · clear s1 s2 s3
        go_enter Try.func38, Try.ntmps38
        go_wp2_with fail
        refine (HB.out _).mono ?_
        rintro e w1 ⟨rfl, b1⟩
        go_wp2
        go_ret2
        exact ⟨rfl, b1⟩
      · have l3 : (T : Int) - 2 < k := by omega
        clear s1 s2 s3
        go_enter Try.func38, Try.ntmps38
        go_wp2_with fail
        refine (HB.out _).mono ?_
        rintro e w1 ⟨rfl, b1⟩
        go_wp2
        go_ret2
        exact ⟨rfl, b1⟩
set_option maxRecDepth 100000 in
theorem fnExactGoldCode_walk (S a b k : Int) (w : World) (_ : (Lit.int .i64 S).wf = true) (_ : (Lit.int .i64 a).wf = true) (_ : (Lit.int .i64 b).wf = true) (_ : (Lit.int .i64 k).wf = true) :
    Calls Try.prog 10 #[.int .i64 S, .int .i64 a, .int .i64 b, .int .i64 k] w fun e w' => e = .returned (.bool true) ∧ Below w.heap.size w w' := by
  obtain ⟨M, hM⟩ := maxIs
  have hs := fun w => sGoldC_any M hM S a b k w
  have hi := fun w => iGoldC_any M hM S a b k w
  obtain ⟨X, hX⟩ : ∃ X, (goldC M S a b k).1 = X := ⟨_, rfl⟩
  obtain ⟨ok, hok⟩ : ∃ ok, (goldC M S a b k).2 = ok := ⟨_, rfl⟩
  rw [hX, hok] at hs hi
  have HS := Lib.hid hs
  have HI := Lib.hid hi
  clear hs hi hX hok hM
  go_enter Try.func10, Try.ntmps10
  go_wp2_with fail
  refine (HS.out _).mono ?_
  rintro e w1 ⟨rfl, b1⟩
  go_wp2_with fail
  refine (HI.out _).mono ?_
  rintro e w2 ⟨rfl, b2'⟩
  have b2 := below_then b1 (Nat.le_refl _) b2'
  clear b1 b2'
  cases ok
  all_goals
    go_wp2
    go_ret
    exact ⟨rfl, b2⟩
end Go.Proofs.Ytcofaceadobdiaa
