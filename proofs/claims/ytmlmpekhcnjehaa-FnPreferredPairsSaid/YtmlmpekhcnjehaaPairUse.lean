/- What both sides answer about preferred pairs; the draw of PreferredPairs. -/
import Derived.Test.YtmlmpekhcnjehaaPairMath
namespace Go.Proofs.Ytmlmpekhcnjehaa
open Go.RowKit
set_option linter.unusedVariables false
set_option maxRecDepth 100000
theorem colN_le (T : Nat → Nat → Bool) (i : Nat) : ∀ k, colN T i k ≤ k
  | 0 => Nat.le_refl _
  | k + 1 => by have := colN_le T i k; simp only [colN]; split <;> omega
theorem totN_le (T : Nat → Nat → Bool) : ∀ i, i ≤ 300 → totN T i ≤ i * 300
  | 0, _ => Nat.le_refl _
  | i + 1, h => by have := totN_le T i (by omega); have := colN_le T i i; simp only [totN]; omega
theorem bothPairs2 (S : Int) : ∃ (n : Nat) (F : Nat → Int) (T : Nat → Nat → Bool), n ≤ 300 ∧ (∀ i j, i < j → j < n → F i < F j) ∧
    (∀ w, Calls Try.prog 6 #[.int .i64 S] w fun e w' => ∃ v, e = .returned v ∧ PF w' w.heap.size v (allL F T n n).length (LP (allL F T n n)) ∧ Below w.heap.size w w') ∧
    (∀ w, Calls Try.prog 7 #[.int .i64 S] w fun e w' => ∃ v, e = .returned v ∧ PF w' w.heap.size v (allL F T n n).length (LP (allL F T n n)) ∧ Below w.heap.size w w') ∧
    (∀ w, Calls Try.prog 12 #[.int .i64 S] w fun e w' => ∃ v, e = .returned v ∧ OF w' w.heap.size v n F ∧ Below w.heap.size w w') ∧
    (S ≤ 6 → ∀ i k, k < i → i < n → ∀ w, Calls Try.prog 13 #[.int .i64 S, .int .i64 (F i), .int .i64 (F k)] w fun e w' => e = .returned (.bool (T k i)) ∧ Below w.heap.size w w') ∧
    (6 < S → allL F T n n = []) := by
  by_cases h28 : 2 ≤ S ∧ S ≤ 8
  · obtain ⟨s, rfl⟩ : ∃ s : Nat, S = s := ⟨S.toNat, by omega⟩
    obtain ⟨n, F, ⟨hn, hin, -, hup⟩, hs, hi⟩ := tapsL s (by omega) (by omega)
    obtain ⟨M, hM, hMP⟩ := maxIsP
    have htb : ∀ j, j < n → tapsB s (F j) = true ∧ M s (F j) = true := fun j hj => by
      obtain ⟨t, e, hp⟩ := hin j hj
      have h1 := hp.1
      have ht : tapsB s t = true := (tapsB_iff _ _).2 ⟨by have := h1.lo; omega, by have := h1.hi; omega, by have := h1.tap; omega, by rw [Int.toNat_natCast]; have := h1.tapLt; omega⟩
      rw [e]
      exact ⟨ht, (hMP s t ht).2 hp⟩
    by_cases h6 : s ≤ 6
    · have hpr : ∀ i j, i < n → j < n → i ≠ j → ∀ w, Calls Try.prog 13 #[.int .i64 s, .int .i64 (F i), .int .i64 (F j)] w fun e w' => e = .returned (.bool (prefT s (F i) (F j))) ∧ Below w.heap.size w w' := fun i j hi hj hij w => by
        have h := iPref_any M hM s (F i) (F j) w
        have hne : (F i != F j) = true := by
          rcases Nat.lt_or_gt_of_ne hij with h | h
          · have := hup i j h hj; simp; omega
          · have := hup j i h hi; simp; omega
        rw [show prefB M s (F i) (F j) = prefT s (F i) (F j) by unfold prefB; rw [(bothB_iff M s (F i) (F j)).2 ⟨by omega, (htb i hi).2, (htb j hj).2⟩, hne]; rfl] at h
        exact h
      refine ⟨n, F, fun i j => prefT s (F i) (F j), by omega, hup, fun w => sPairs_of s n F _ w (by omega) (by omega) hs (fun i j hi hj w => l3Pref_any s (F i) (F j) w (htb i hi).1 (htb j hj).1), fun w => iPairs_of s n F _ w (by omega) hi (fun i j hij hj w => hpr i j (by omega) hj (by omega) w), hi, fun _ i k hk hin w => ?_, fun h => by omega⟩
      have := hpr i k hin (by omega) (by omega) w
      rw [prefT_symm (htb k (by omega)).1 (htb i hin).1] at this
      exact this
    · have hnone := allL_none (F := F) (T := fun _ _ => false) (n := n) (fun _ _ _ _ => rfl) n
      refine ⟨n, F, fun _ _ => false, by omega, hup, fun w => sPairs_none s _ hnone w (by omega), fun w => iPairs_of s n F _ w (by omega) hi (fun i j hij hj w => ?_), hi, fun h => by omega, fun _ => hnone⟩
      have h := iPref_any M hM s (F i) (F j) w
      rw [show prefB M s (F i) (F j) = false by unfold prefB; cases hb : bothB M s (F i) (F j) with | false => rfl | true => exact absurd ((bothB_iff _ _ _ _).1 hb).1 (by omega)] at h
      exact h
  · obtain ⟨hs, hi⟩ := tapsNone S h28
    refine ⟨0, fun _ => 0, fun _ _ => false, by omega, fun i j _ h => absurd h (Nat.not_lt_zero j), fun w => ?_, fun w => iPairs_of S 0 _ _ w (by omega) hi (fun i j _ hj => absurd hj (Nat.not_lt_zero j)), hi, fun _ i k _ h => absurd h (Nat.not_lt_zero i), fun _ => rfl⟩
    by_cases h6 : S ≤ 6
    · exact sPairs_of S 0 _ _ w h6 (by omega) hs (fun i j hi => absurd hi (Nat.not_lt_zero i))
    · exact sPairs_none S _ rfl w (by omega)
theorem drawPP_any (a : Option Addr) (len cap : Nat) (zs : List Int) (w : World) (h : IsBytes w a len cap zs) :
    Calls Try.prog 11 #[.slice a len cap] w fun e w' => ∃ S : Int, e = .returned (.int .i64 S) ∧ -1 ≤ S ∧ S ≤ 7 ∧ Below w.heap.size w w' := by
  go_enter Try.func11, Try.ntmps11
  go_wp2_with fail
  refine (open_any a len cap zs _ h).mono ?_
  rintro e w1 ⟨b, ys, rfl, hr, hb, hlb⟩
  clear h
  go_wp2_with fail
  refine (num_any b 0 ys _ w1.heap.size 9 [3, 5, 4, 2, 3, 5, 1, 7, -1] (hr.alloc _) (IntsAt.new w1 3 [3, 5, 4, 2, 3, 5, 1, 7, -1]) rfl hr.1 (by omega) (by omega) (by omega)).mono ?_
  rintro e w2 ⟨v, hv, rfl, -, hg⟩
  have b2 := below_grown hb (Nat.le_refl _) ((World.grownBy_alloc w1 _ (some b)).trans hg) hlb
  have hb1 : -1 ≤ v ∧ v ≤ 7 := by
    simp only [List.mem_cons, List.not_mem_nil, or_false] at hv
    omega
  clear hr hg hb hv
  go_wp2
  go_ret
  exact ⟨v, rfl, hb1.1, hb1.2, b2⟩
end Go.Proofs.Ytmlmpekhcnjehaa
