/- GoldFamily of both sides, and the walk of its exact law. -/
import Derived.Test.YtcofaceadobdiaaFamGold
import Derived.Test.YtcofaceadobdiaaStrs2
namespace Go.Proofs.Ytcofaceadobdiaa
open Go.RowKit
set_option linter.unusedVariables false
theorem SF.under {w w' : World} {B C : Nat} {v : Value} {n : Nat} {f : Nat → ByteArray} (h : SF w B v n f) (hC : ∀ k, v.ownBlock = some k → k < C) (hb : Below C w w') : SF w' B v n f := by
  obtain ⟨h1, ⟨rfl, rfl⟩ | ⟨g, cap, cur, rfl, hB, hg, hn, hm, hs, ht⟩⟩ := h
  · exact ⟨h1, .inl ⟨rfl, rfl⟩⟩
  · exact ⟨h1, .inr ⟨g, cap, cur, rfl, hB, (hb.block g (hC g rfl)).trans hg, hn, hm, hs, ht⟩⟩
theorem SF.snoc1 {w : World} {B : Nat} {v : Value} {i : Nat} {f : Nat → ByteArray} {y : ByteArray} (h : SF w B v (i + 1) (fun j => if j < i then f j else y)) (hy : f i = y) : SF w B v (i + 1) f :=
  h.congr fun j hj => by
    by_cases e : j < i
    · simp only [if_pos e]
    · obtain rfl : j = i := by omega
      simp only [if_neg e]; exact hy.symm
/-- The codes of a family. -/
def gfN (M : Int → Int → Bool) (S a b : Int) : Nat := if bothB M S a b then tw S.toNat + 1 else 0
def gfF (S a b : Int) (i : Nat) : ByteArray := goldS S a b ((i : Int) - 2)
theorem gfN_le {M : Int → Int → Bool} {S a b : Int} : gfN M S a b ≤ 1000000 := by
  unfold gfN
  split
  · rename_i h
    have h6 := ((bothB_iff M S a b).1 h).1
    have h7 : S.toNat ≤ 6 := by omega
    have : tw S.toNat ≤ 64 := Nat.pow_le_pow_right (n := 2) (by decide) h7
    omega
  · omega
theorem gf_yes {M : Int → Int → Bool} {S a b : Int} {i : Nat} (h : i < gfN M S a b) : goldC M S a b ((i : Int) - 2) = (gfF S a b i, true) := by
  unfold gfN at h
  split at h
  · rename_i hb
    exact goldC_yes ⟨hb, by omega, by omega⟩
  · omega
theorem gf_no {M : Int → Int → Bool} {S a b : Int} : goldC M S a b (((gfN M S a b : Nat) : Int) - 2) = noS := by
  apply goldC_no
  rintro ⟨hb, h1, h2⟩
  unfold gfN at h2
  rw [if_pos hb] at h2
  omega
set_option maxRecDepth 100000 in
theorem iGoldF_any (M : Int → Int → Bool) (hM : MaxIs M) (S a b : Int) (w : World) :
    Calls Try.prog 40 #[.int .i64 S, .int .i64 a, .int .i64 b] w fun e w' => ∃ v, e = .returned v ∧ SF w' w.heap.size v (gfN M S a b) (gfF S a b) ∧ Below w.heap.size w w' := by
  have HG := Lib.hid (fun k w => iGoldC_any M hM S a b k w)
  have hn := gfN_le (M := M) (S := S) (a := a) (b := b)
  have HY := Lib.hid (fun i h => gf_yes (M := M) (S := S) (a := a) (b := b) (i := i) h)
  have hno := gf_no (M := M) (S := S) (a := a) (b := b)
  obtain ⟨N, hN⟩ : ∃ N, gfN M S a b = N := ⟨_, rfl⟩
  rw [hN] at hn HY hno ⊢
  have HN := Lib.hid hno
  clear hno hN hM
  go_enter Try.func40, Try.ntmps40
  go_wp2
  go_loopw [7, 8] (fun o k wr => ∃ i : Nat, i ≤ N ∧ k = .int .i64 ((i : Int) - 2) ∧ SF wr w.heap.size o i (gfF S a b) ∧ Below w.heap.size w wr) (fun _ k _ => N + 1 - (intOf k + 2).toNat)
  case atStart => exact ⟨0, by omega, rfl, SF.nil _ _ _, Below.refl _ _⟩
  case round =>
    obtain ⟨i, hi, rfl, rO, rb⟩ := hrel
    have hG := fun w => HG.out ((i : Int) - 2) w
    by_cases hlt : i < N
    · rw [HY.out i hlt] at hG
      obtain ⟨y, hy⟩ : ∃ y, gfF S a b i = y := ⟨_, rfl⟩
      rw [hy] at hG
      have HI := Lib.hid hG
      have HE := Lib.hid hy
      clear hG hy
      go_wp2_with fail
      refine (HI.out _).mono ?_
      rintro e w2 ⟨rfl, hb⟩
      have b2 := below_then rb (Nat.le_refl _) hb
      have O2 := rO.below hb
      clear rO rb hb
      have bs := b2.size
      go_wp2_with (at_builtin; refine wpList_append_str rfl (.tmp 24) (.tmp 26) rfl w.heap.size _ i (gfF S a b) rfl (O2.alloc _) w2.heap.size 1 y rfl (by simp) (by omega) (by simp; omega) ?_; intro v' w3 O3 g3; have b3 : Below w.heap.size w w3 := (b2.alloc bs _).grown g3 (by simp; omega) (fun q hq => (O2.lt q hq).1); have O4 := SF.snoc1 O3 HE.out; clear O2 g3 b2 O3)
      go_roundw
      case rel => exact ⟨i + 1, by omega, by go_num, O4, b3⟩
      case measure => simp [intOf]; omega
    · obtain rfl : i = N := by omega
      rw [HN.out] at hG
      have HI := Lib.hid hG
      clear hG
      go_wp2_with fail
      refine (HI.out _).mono ?_
      rintro e w2 ⟨rfl, hb⟩
      have b2 := below_then rb (Nat.le_refl _) hb
      have O2 := rO.below hb
      clear rO rb hb
      go_wp2
      go_ret
      exact ⟨_, rfl, O2, b2⟩
set_option maxRecDepth 100000 in
theorem sGoldF_any (M : Int → Int → Bool) (hM : MaxIs M) (S a b : Int) (w : World) :
    Calls Try.prog 39 #[.int .i64 S, .int .i64 a, .int .i64 b] w fun e w' => ∃ v, e = .returned v ∧ SF w' w.heap.size v (gfN M S a b) (gfF S a b) ∧ Below w.heap.size w w' := by
  have hB := fun w => l3Both_any M hM S a b w
  unfold gfN
  cases hb : bothB M S a b with
  | false =>
    rw [hb] at hB
    have HB := Lib.hid hB
    clear hb hB hM
    go_enter Try.func39, Try.ntmps39
    go_wp2_with fail
    refine (HB.out _).mono ?_
    rintro e w1 ⟨rfl, hb1⟩
    have b1 := below_then ((Below.refl w.heap.size w).alloc (Nat.le_refl _) (.cells #[] 9)) (Nat.le_refl _) hb1
    have O1 := (SF.empty w (gfF S a b)).below hb1
    go_wp2
    go_ret
    exact ⟨_, rfl, O1, b1⟩
  | true =>
    obtain ⟨h6, ma, mb⟩ := (bothB_iff M S a b).1 hb
    have ta := (hM S a).1 ma
    have tb := (hM S b).1 mb
    have HG := Lib.hid (fun k w => l3Gold_any S a b k w ta tb)
    rw [hb] at hB
    have HB := Lib.hid hB
    have HF := Lib.hid (fun (i : Nat) => show goldS S a b ((i : Int) - 2) = gfF S a b i from rfl)
    obtain ⟨s, t, rfl, rfl, h2, h8, -⟩ := taps_nat ta
    have h2' := fun w => l1Two_any s w h8
    simp only [Int.toNat_natCast, if_true]
    have h4 := tw_four s h2
    have hl := tw_le s h8
    obtain ⟨T, hT⟩ : ∃ T, tw s = T := ⟨_, rfl⟩
    rw [hT] at h2' h4 hl ⊢
    have HT := Lib.hid h2'
    clear hB hb hM ma mb ta tb h2' hT
    go_enter Try.func39, Try.ntmps39
    go_wp2_with fail
    refine (HB.out _).mono ?_
    rintro e w1 ⟨rfl, hb1⟩
    have b1 := below_then ((Below.refl w.heap.size w).alloc (Nat.le_refl _) (.cells #[] 9)) (Nat.le_refl _) hb1
    have O1 := (SF.empty w (gfF s t b)).below hb1
    clear hb1
    go_wp2
    go_loopw [7, 8] (fun o k wr => ∃ i : Nat, i ≤ T + 1 ∧ k = .int .i64 ((i : Int) - 2) ∧ SF wr w.heap.size o i (gfF s t b) ∧ Below w.heap.size w wr) (fun _ k _ => T + 1 - (intOf k + 2).toNat)
    case atStart => exact ⟨0, by omega, rfl, O1, b1⟩
    case round =>
      obtain ⟨i, hi, rfl, rO, rb⟩ := hrel
      go_wp2_with fail
      refine (HT.out _).mono ?_
      rintro e w' ⟨rfl, rfl⟩
      by_cases hlt : i < T + 1
      · have hG := fun w => HG.out ((i : Int) - 2) w
        rw [HF.out i] at hG
        obtain ⟨y, hy⟩ : ∃ y, gfF s t b i = y := ⟨_, rfl⟩
        rw [hy] at hG
        have HI := Lib.hid hG
        have HE := Lib.hid hy
        clear hG hy
        go_wp2_with fail
        refine (HI.out _).mono ?_
        rintro e w2 ⟨rfl, hb⟩
        have b2 := below_then rb (Nat.le_refl _) hb
        have O2 := rO.below hb
        clear rO rb hb
        have bs := b2.size
        go_wp2_with (at_builtin; refine wpList_append_str rfl (.tmp 23) (.tmp 29) rfl w.heap.size _ i (gfF s t b) rfl (O2.alloc _) w2.heap.size 1 y rfl (by simp) (by omega) (by simp; omega) ?_; intro v' w3 O3 g3; have b3 : Below w.heap.size w w3 := (b2.alloc bs _).grown g3 (by simp; omega) (fun q hq => (O2.lt q hq).1); have O4 := SF.snoc1 O3 HE.out; clear O2 g3 b2 O3)
        go_roundw
        case rel => exact ⟨i + 1, by omega, by go_num, O4, b3⟩
        case measure => simp [intOf]; omega
      · obtain rfl : i = T + 1 := by omega
        go_wp2
        go_ret
        exact ⟨_, rfl, rO, rb⟩
set_option maxRecDepth 100000 in
theorem fnExactGoldFamily_walk (S a b : Int) (w : World) (_ : (Lit.int .i64 S).wf = true) (_ : (Lit.int .i64 a).wf = true) (_ : (Lit.int .i64 b).wf = true) :
    Calls Try.prog 11 #[.int .i64 S, .int .i64 a, .int .i64 b] w fun e w' => e = .returned (.bool true) ∧ Below w.heap.size w w' := by
  obtain ⟨M, hM⟩ := maxIs
  have hs := fun w => sGoldF_any M hM S a b w
  have hi := fun w => iGoldF_any M hM S a b w
  have hn := gfN_le (M := M) (S := S) (a := a) (b := b)
  obtain ⟨n, hN⟩ : ∃ n, gfN M S a b = n := ⟨_, rfl⟩
  obtain ⟨f, hF⟩ : ∃ f, gfF S a b = f := ⟨_, rfl⟩
  rw [hN] at hs hi hn
  rw [hF] at hs hi
  clear hN hF hM
  have HS := Lib.hid hs
  have HI := Lib.hid hi
  clear hs hi
  go_enter Try.func11, Try.ntmps11
  go_wp2_with fail
  refine (HS.out _).mono ?_
  rintro e w1 ⟨v0, rfl, O0, b1⟩
  go_wp2_with fail
  refine (HI.out _).mono ?_
  rintro e w2 ⟨v1, rfl, O1, hb2⟩
  have q0 := O0.below hb2
  have b2 := below_then b1 (Nat.le_refl _) hb2
  have hd0 : ∀ k, v0.ownBlock = some k → k < w1.heap.size := fun k hk => (O0.lt k hk).2
  have hw1 := b1.size
  have hw2 := hb2.size
  obtain ⟨C, hC⟩ : ∃ C, w1.heap.size = C := ⟨_, rfl⟩
  rw [hC] at O1 hd0 hw1 hw2
  clear O0 hb2 b1 hC
  go_wp2_with fail
  refine (eqStringS_same v1 v0 n f _ O1.strs q0.strs (by omega)).mono ?_
  rintro e w3 ⟨rfl, m, rfl⟩
  have r0 := q0.drewN m
  have r1 := O1.drewN m
  have b3 := below_drewN b2 m
  have hw3 : C ≤ (w2.drewN m).heap.size := hw2
  obtain ⟨W, hW⟩ : ∃ W, w2.drewN m = W := ⟨_, rfl⟩
  rw [hW] at r0 r1 b3 hw3 ⊢
  clear hW q0 O1 b2 hw2
  go_wp2_with fail
  refine (markStringS_any v1 C n f _ r1 hn hw3).mono ?_
  rintro e w4 ⟨rfl, t1, hb4⟩
  have t0 := r0.under hd0 hb4
  have b4 : Below w.heap.size w w4 := b3.trans (hb4.mono hw1)
  clear r0 r1 hb4 b3 hd0
  go_wp2_with fail
  refine (heldStringS_any v1 C n _ t1 hn).mono ?_
  rintro e w5 ⟨rfl, hb5⟩
  have u0 := t0.below hb5
  have u1 := t1.below hb5
  have b5 := below_then b4 (Nat.le_refl _) hb5
  clear t0 t1 b4 hb5
  go_wp2_with fail
  refine (HI.out _).mono ?_
  rintro e w6 ⟨v2, rfl, O2, hb6⟩
  have s0 := u0.below hb6
  have s1 := u1.below hb6
  have b6 := below_then b5 (Nat.le_refl _) hb6
  clear u0 u1 b5 hb6
  go_wp2_with fail
  refine (eqStringS_same v2 v0 n f _ O2.strs s0.strs (by omega)).mono ?_
  rintro e w7 ⟨rfl, m2, rfl⟩
  have p1 := s1.drewN m2
  have b7 := below_drewN b6 m2
  obtain ⟨W2, hW2⟩ : ∃ W2, w6.drewN m2 = W2 := ⟨_, rfl⟩
  rw [hW2] at p1 b7 ⊢
  clear hW2 s0 s1 O2 b6
  go_wp2_with fail
  refine (heldStringS_any v1 C n _ p1 hn).mono ?_
  rintro e w8 ⟨rfl, hb8⟩
  have b8 := below_then b7 (Nat.le_refl _) hb8
  go_wp2
  go_ret
  exact ⟨rfl, b8⟩
end Go.Proofs.Ytcofaceadobdiaa
