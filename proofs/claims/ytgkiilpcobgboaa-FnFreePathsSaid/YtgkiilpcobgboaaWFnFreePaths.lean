/- The walk of the law FnFreePaths. -/
import Derived.Test.YtgkiilpcobgboaaDrawTree
import Derived.Test.YtgkiilpcobgboaaFreeMath
import Derived.BigQuiet
namespace Go.Proofs.Ytgkiilpcobgboaa
open Go.RowKit
set_option linter.unusedVariables false
theorem fp_used {n : Nat} {f : Nat → ByteArray} {D : Int} (h : usedB n f D = true) : freeAns n f D = (((frL n f D.toNat (tw D.toNat)).length : Nat) : Int) := by unfold freeAns; rw [h]; rfl
theorem fp_facts {n : Nat} {f : Nat → ByteArray} {D : Int} (h0 : ¬ freeAns n f D < 0) (h6 : ¬ D = 6) : ∃ d : Nat, D = (d : Int) ∧ d ≤ 5 ∧ 0 ≤ freeAns n f D ∧ 2 * freeAns n f D ≤ freeAns n f (D + 1) ∧
    ((∀ j, j < n → (f j).size ≤ d) → freeAns n f (D + 1) = 2 * freeAns n f D) ∧ freeAns 0 f D = ((tw d : Nat) : Int) ∧ freeAns n f D ≤ ((tw d : Nat) : Int) ∧ freeAns n f (D + 1) ≤ 64 := by
  have hu : usedB n f D = true := by
    cases e : usedB n f D with
    | true => rfl
    | false => exact absurd (show freeAns n f D < 0 by unfold freeAns; rw [e, if_neg (by decide)]; decide) h0
  obtain ⟨hn, ⟨d0, d1⟩, hp⟩ := (usedB_iff _ _ _).1 hu
  obtain ⟨d, rfl⟩ : ∃ d : Nat, D = (d : Int) := ⟨D.toNat, by omega⟩
  have hu1 : usedB n f ((d : Int) + 1) = true := (usedB_iff _ _ _).2 ⟨hn, ⟨by omega, by omega⟩, hp⟩
  have hu0 : usedB 0 f (d : Int) = true := (usedB_iff _ _ _).2 ⟨by omega, ⟨by omega, by omega⟩, rfl⟩
  have ht : ((d : Int) + 1).toNat = d + 1 := by omega
  rw [fp_used hu, fp_used hu1, fp_used hu0, ht, Int.toNat_natCast, tw_succ, fr_none]
  have h5 : d ≤ 5 := by omega
  have a1 := fr_twice (n := n) (F := f) (d := d) (by omega) (tw d)
  have a2 := frL_len n f d (tw d)
  have a3 := frL_len n f (d + 1) (2 * tw d)
  have a4 : tw d ≤ 32 := by
    have : (2 : Nat) ^ d ≤ 2 ^ 5 := Nat.pow_le_pow_right (by omega) h5
    simpa [tw] using this
  refine ⟨d, rfl, h5, by omega, by omega, fun hF => ?_, rfl, by omega, by omega⟩
  have a5 := fr_same (n := n) (F := f) (d := d) (by omega) hF (tw d)
  omega
/-- Are the first k strings no longer than d? -/
def shpB (f : Nat → ByteArray) (d : Nat) : Nat → Bool
  | 0 => true
  | k + 1 => shpB f d k && decide ((f k).size ≤ d)
theorem shpB_at {f : Nat → ByteArray} {d : Nat} : ∀ k, shpB f d k = true → ∀ j, j < k → (f j).size ≤ d
  | 0, _, j, hj => absurd hj (Nat.not_lt_zero j)
  | k + 1, h, j, hj => by
    simp only [shpB, Bool.and_eq_true, decide_eq_true_eq] at h
    by_cases e : j = k
    · rw [e]; exact h.2
    · exact shpB_at k h.1 j (by omega)
set_option maxHeartbeats 6400000 in
set_option maxRecDepth 100000 in
theorem fnFreePaths_walk (a0 : Option Addr) (len0 cap0 : Nat) (z0 : List Int) (w : World) (w0 : IsBytes w a0 len0 cap0 z0) :
    Calls Try.prog 4 #[.slice a0 len0 cap0] w fun e w' => e = .returned (.bool true) ∧ Below w.heap.size w w' := by
  by_cases hl0 : 1048576 < len0
  · go_enter Try.func4, Try.ntmps4
    go_wp2
    go_ret
    exact ⟨rfl, Below.refl _ _⟩
  go_enter Try.func4, Try.ntmps4
  go_wp2_with fail
  refine (drawFree_any a0 len0 cap0 z0 _ w0).mono ?_
  rintro e w1 ⟨v, n, f, D, B, rfl, O1, hB, hn, hf, d0, d1, bc⟩
  have hff : ∀ i, i < n → (f i).size ≤ 1048576 := fun i hi => Nat.le_trans (hf i hi) (by omega)
  have HI := Lib.hid (fun D w h => iPaths_any v n f D w h (by omega) hff)
  have HS := Lib.hid (fun D w h => sPaths_any v n f D w h (by omega) hff)
  have HN := Lib.hid (fun D w h => iPaths_any (.slice none 0 0) 0 f D w h (by omega) (fun i hi => absurd hi (Nat.not_lt_zero i)))
  have HNS : Hid (∀ w, Strs w (.slice none 0 0) 0 f) := Lib.hid (fun w => ⟨none, 0, rfl, fun i hi => absurd hi (Nat.not_lt_zero i)⟩)
  have HFA := Lib.hid (fun h0 h6 => fp_facts (n := n) (f := f) (D := D) h0 h6)
  have HFS := Lib.hid hf
  have O1' := Lib.hid O1.strs
  obtain ⟨av, cv, rfl, -⟩ := id O1.strs
  obtain ⟨X, hX⟩ : ∃ X, freeAns n f D = X := ⟨_, rfl⟩
  have HIX := Lib.hid (fun w h => (hX ▸ HI.out D w h : Calls Try.prog 8 #[.slice av n cv, .int .i64 D] w fun e w' => e = .returned (.int .i64 X) ∧ Below w.heap.size w w'))
  have HSX := Lib.hid (fun w h => (hX ▸ HS.out D w h : Calls Try.prog 9 #[.slice av n cv, .int .i64 D] w fun e w' => e = .returned (.int .i64 X) ∧ Below w.heap.size w w'))
  rw [hX] at HFA
  clear hf w0 O1 hff hX HS
  go_wp2_with fail
  refine (HIX.out _ O1'.out).mono ?_
  rintro e w2 ⟨rfl, n2⟩
  have O2 := Lib.hid (O1'.out.below n2)
  have b2 := below_then bc (Nat.le_refl _) n2
  clear O1' bc n2
  go_wp2_with fail
  refine (HSX.out _ O2.out).mono ?_
  rintro e w3 ⟨rfl, n3⟩
  have O3 := Lib.hid (O2.out.below n3)
  have b3 := below_then b2 (Nat.le_refl _) n3
  clear O2 b2 n3
  have e0 : (X != X) = false := by simp
  have e9 : (X == X) = true := by simp
  by_cases hneg : X < 0
  · clear HFA
    go_wp2_with fail
    refine (HSX.out _ O3.out).mono ?_
    rintro e w4 ⟨rfl, n4⟩
    have b4 := below_then b3 (Nat.le_refl _) n4
    go_wp2
    go_ret
    exact ⟨rfl, b4⟩
  by_cases h6 : D = 6
  · clear HFA
    subst h6
    go_wp2_with fail
    refine (HSX.out _ O3.out).mono ?_
    rintro e w4 ⟨rfl, n4⟩
    have b4 := below_then b3 (Nat.le_refl _) n4
    go_wp2
    go_ret
    exact ⟨rfl, b4⟩
  obtain ⟨d, rfl, h5, x0, k1, k2, k3, k4, k5⟩ := HFA.out (by omega) (by omega)
  have e6 : ((d : Int) == 6) = false := by rw [beq_eq_false_iff_ne]; omega
  have HI1 := Lib.hid (fun w h => HI.out ((d : Int) + 1) w h)
  have HN1 := Lib.hid (fun w => HN.out (d : Int) w (HNS.out w))
  obtain ⟨Y, hY⟩ : ∃ Y, freeAns n f ((d : Int) + 1) = Y := ⟨_, rfl⟩
  rw [hY] at HI1 k1 k2 k5
  rw [k3] at HN1
  obtain ⟨T, hT⟩ : ∃ T, tw d = T := ⟨_, rfl⟩
  rw [hT] at HN1 k4
  have HK2 := Lib.hid k2
  have HTD := Lib.hid hT
  clear HFA hY hT k2 k3 HI HN HNS
  have v1 : IntKind.i64.wrap ((d : Int) + 1) = (d : Int) + 1 := IntWalk.i64_in _ (by omega)
  go_wp2_with fail
  refine (HI1.out _ O3.out).mono ?_
  rintro e w4 ⟨rfl, n4⟩
  have O4 := Lib.hid (O3.out.below n4)
  have b4 := below_then b3 (Nat.le_refl _) n4
  clear O3 b3 n4
  go_wp2_with fail
  refine (HN1.out _).mono ?_
  rintro e w5 ⟨rfl, n5⟩
  have O5 := Lib.hid (O4.out.below n5)
  have b5 := below_then b4 (Nat.le_refl _) n5
  clear O4 b4 n5
  go_wp2_with fail
  go_loop [8, 9] (fun s i => ∃ k : Nat, k ≤ n ∧ i = .int .i64 k ∧ s = .bool (shpB f d k)) (fun _ i => n - (intOf i).toNat)
  case atStart => exact ⟨0, by omega, rfl, rfl⟩
  case round =>
    obtain ⟨k, hk, rfl, rfl⟩ := hrel
    by_cases hlt : k < n
    · obtain ⟨a, c, e, hc⟩ := O5.out
      injection e with e1 _ e2
      subst e1 e2
      obtain ⟨x, rfl, hx, cx⟩ := hc k hlt
      have hsz := HFS.out k hlt
      have hsh : shpB f d (k + 1) = (shpB f d k && decide ((f k).size ≤ d)) := rfl
      obtain ⟨S, hS⟩ : ∃ S, shpB f d k = S := ⟨_, rfl⟩
      obtain ⟨Z, hZ⟩ : ∃ S, f k = S := ⟨_, rfl⟩
      rw [hS, hZ] at hsh
      rw [hZ] at cx hsz
      have i0 : (0 : Int) ≤ (k : Int) := by omega
      have i1 : (k : Int) < (n : Int) := by omega
      have HSH := Lib.hid hsh
      rw [hS]
      clear hc hS hZ hsh
      cases S with
      | false =>
        go_wp2
        go_round
        case rel => exact ⟨k + 1, by omega, by go_num, by rw [HSH.out]; rfl⟩
        case measure => simp [intOf]; omega
      | true =>
        by_cases q : Z.size ≤ d
        · have q' : (Z.size : Int) ≤ (d : Int) := by omega
          go_wp2
          go_round
          case rel => exact ⟨k + 1, by omega, by go_num, by rw [HSH.out, decide_eq_true q]; rfl⟩
          case measure => simp [intOf]; omega
        · have q' : ¬ (Z.size : Int) ≤ (d : Int) := by omega
          go_wp2
          go_round
          case rel => exact ⟨k + 1, by omega, by go_num, by rw [HSH.out, decide_eq_false q]; rfl⟩
          case measure => simp [intOf]; omega
    · obtain rfl : k = n := by omega
      have HEQ : Hid (shpB f d k = true → Y = 2 * X) := Lib.hid (fun h => HK2.out (shpB_at k h))
      obtain ⟨S, hS⟩ : ∃ S, shpB f d k = S := ⟨_, rfl⟩
      rw [hS] at HEQ ⊢
      have HB := Lib.hid b5
      clear hS HFS b5
      have hTd := HTD.out
      rcases (by omega : d = 0 ∨ d = 1 ∨ d = 2 ∨ d = 3 ∨ d = 4 ∨ d = 5) with rfl | rfl | rfl | rfl | rfl | rfl
      all_goals
        simp only [tw, Nat.reducePow] at hTd
        subst hTd
        cases S with
        | false =>
          go_wp2
          go_ret
          exact ⟨ret_bool (decide_eq_true (by omega)), HB.out⟩
        | true =>
          have he := HEQ.out rfl
          subst he
          go_wp2
          go_ret
          exact ⟨ret_bool (decide_eq_true (by omega)), HB.out⟩
end Go.Proofs.Ytgkiilpcobgboaa
