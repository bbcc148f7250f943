/- What MaximalTaps lists: the taps of maximal registers, rising; what IsMaximal tells. -/
import Derived.Test.YtmlmpekhcnjehaaMaxMath
import Derived.Test.YtmlmpekhcnjehaaOrbUse
import Derived.Test.YtmlmpekhcnjehaaSeqTaps
namespace Go.Proofs.Ytmlmpekhcnjehaa
open Go.RowKit
set_option linter.unusedVariables false
theorem lstM_in {M : Nat → Bool} : ∀ K j, j < cntT M K → ∃ t, t < K ∧ M t = true ∧ lstF M K j = (t : Int)
  | 0, j, h => absurd h (Nat.not_lt_zero j)
  | K + 1, j, h => by
    cases hM : M K with
    | false =>
      obtain ⟨e1, e2⟩ := cntT_no hM
      rw [e1] at h
      obtain ⟨t, h1, h2, h3⟩ := lstM_in K j h
      exact ⟨t, by omega, h2, by rw [e2]; exact h3⟩
    | true =>
      obtain ⟨e1, e2⟩ := cntT_yes hM
      rw [e1] at h
      rw [e2]
      by_cases hj : j < cntT M K
      · obtain ⟨t, h1, h2, h3⟩ := lstM_in K j hj
        exact ⟨t, by omega, h2, by simp only [hj, if_true]; exact h3⟩
      · exact ⟨K, by omega, hM, by simp only [hj, if_false]⟩
theorem lstM_has {M : Nat → Bool} {t : Nat} (hM : M t = true) : ∀ K, t < K → ∃ j, j < cntT M K ∧ lstF M K j = (t : Int)
  | 0, h => absurd h (Nat.not_lt_zero t)
  | K + 1, h => by
    cases hK : M K with
    | false =>
      obtain ⟨e1, e2⟩ := cntT_no hK
      have hne : t ≠ K := fun e => by rw [e, hK] at hM; cases hM
      obtain ⟨j, h1, h2⟩ := lstM_has hM K (by omega)
      exact ⟨j, by rw [e1]; exact h1, by rw [e2]; exact h2⟩
    | true =>
      obtain ⟨e1, e2⟩ := cntT_yes hK
      by_cases e : t = K
      · subst e
        exact ⟨cntT M t, by rw [e1]; omega, by rw [e2]; simp only [Nat.lt_irrefl, if_false]⟩
      · obtain ⟨j, h1, h2⟩ := lstM_has hM K (by omega)
        exact ⟨j, by rw [e1]; omega, by rw [e2]; simp only [h1, if_true]; exact h2⟩
theorem lstM_up {M : Nat → Bool} : ∀ K i j, i < j → j < cntT M K → lstF M K i < lstF M K j
  | 0, i, j, _, h => absurd h (Nat.not_lt_zero j)
  | K + 1, i, j, hij, h => by
    cases hK : M K with
    | false =>
      obtain ⟨e1, e2⟩ := cntT_no hK
      rw [e1] at h
      rw [e2]
      exact lstM_up K i j hij h
    | true =>
      obtain ⟨e1, e2⟩ := cntT_yes hK
      rw [e1] at h
      rw [e2]
      by_cases hj : j < cntT M K
      · simp only [hj, if_true, show i < cntT M K by omega]
        exact lstM_up K i j hij hj
      · have hi : i < cntT M K := by omega
        obtain ⟨t, h1, -, h3⟩ := lstM_in K i hi
        simp only [hj, if_false, hi, if_true, h3]
        omega
theorem oneMaxP (s t : Nat) (h2 : 2 ≤ s) (h8 : s ≤ 8) (ht : t < tw s) : ∃ bb : Bool, (bb = true ↔ MaxP s t) ∧
    (1 ≤ t → ∀ w, Calls Try.prog 46 #[.int .i64 s, .int .i64 t] w fun e w' => e = .returned (.bool bb) ∧ Below w.heap.size w w') ∧
    (∀ w, Calls Try.prog 17 #[.int .i64 s, .int .i64 t] w fun e w' => e = .returned (.bool bb) ∧ Below w.heap.size w w') := by
  by_cases h0 : t = 0
  · exact ⟨false, ⟨fun h => (by cases h), fun h => absurd h.1.tap (by omega)⟩, fun h => absurd h (by omega), iMaximal_none _ _ (by
      cases hb : tapsB s t with
      | false => rfl
      | true => have h := (tapsB_iff _ _).1 hb; omega)⟩
  · have h4 := tw_four s h2
    have hr : RegN s t 1 := ⟨h2, h8, by omega, ht, by omega⟩
    obtain ⟨L, P, o, h256, ip, sp⟩ := per_all hr
    have hv : tapsB s t = true := (tapsB_iff _ _).2 ⟨by omega, by omega, by omega, by rw [Int.toNat_natCast]; omega⟩
    refine ⟨decide ((P : Int) = (tw s : Int) - 1), ⟨fun h => ?_, fun h => ?_⟩, fun _ => l1Maximal_from s t _ h8 sp, iMaximal_from s t _ h8 hv ip⟩
    · have e := of_decide_eq_true h
      obtain rfl : P = tw s - 1 := by omega
      exact ⟨hr, L, o⟩
    · obtain ⟨-, L', o'⟩ := h
      have e := (o.same o').2
      exact decide_eq_true (by omega)
theorem allMaxP (s : Nat) (h2 : 2 ≤ s) (h8 : s ≤ 8) : ∃ M : Nat → Bool, M 0 = false ∧ (∀ t, t < tw s → (M t = true ↔ MaxP s t)) ∧ ∀ t : Nat, t < tw s →
    (1 ≤ t → ∀ w, Calls Try.prog 46 #[.int .i64 s, .int .i64 t] w fun e w' => e = .returned (.bool (M t)) ∧ Below w.heap.size w w') ∧
    (∀ w, Calls Try.prog 17 #[.int .i64 s, .int .i64 t] w fun e w' => e = .returned (.bool (M t)) ∧ Below w.heap.size w w') := by
  have h : ∀ t : Nat, ∃ bb : Bool, t < tw s → (bb = true ↔ MaxP s t) ∧
      (1 ≤ t → ∀ w, Calls Try.prog 46 #[.int .i64 s, .int .i64 t] w fun e w' => e = .returned (.bool bb) ∧ Below w.heap.size w w') ∧
      (∀ w, Calls Try.prog 17 #[.int .i64 s, .int .i64 t] w fun e w' => e = .returned (.bool bb) ∧ Below w.heap.size w w') := fun t => by
    by_cases ht : t < tw s
    · obtain ⟨bb, h⟩ := oneMaxP s t h2 h8 ht; exact ⟨bb, fun _ => h⟩
    · exact ⟨false, fun h => absurd h ht⟩
  obtain ⟨M, hM⟩ := Classical.axiomOfChoice h
  refine ⟨M, ?_, fun t ht => (hM t ht).1, fun t ht => (hM t ht).2⟩
  cases e : M 0 with
  | false => rfl
  | true => exact absurd ((hM 0 (tw_pos s)).1.1 e).1.tap (by omega)
/-- The maximal taps of a size, rising. -/
def TapL (s n : Nat) (f : Nat → Int) : Prop := n ≤ 256 ∧ (∀ j, j < n → ∃ t : Nat, f j = t ∧ MaxP s t) ∧ (∀ t : Nat, MaxP s t → ∃ j, j < n ∧ f j = t) ∧ ∀ i j, i < j → j < n → f i < f j
theorem tapsL (s : Nat) (h2 : 2 ≤ s) (h8 : s ≤ 8) : ∃ (n : Nat) (f : Nat → Int), TapL s n f ∧
    (∀ w, Calls Try.prog 23 #[.int .i64 s] w fun e w' => ∃ v, e = .returned v ∧ OF w' w.heap.size v n f ∧ Below w.heap.size w w') ∧
    (∀ w, Calls Try.prog 12 #[.int .i64 s] w fun e w' => ∃ v, e = .returned v ∧ OF w' w.heap.size v n f ∧ Below w.heap.size w w') := by
  obtain ⟨M, h0, hP, hM⟩ := allMaxP s h2 h8
  have h1 := cntT_le M (tw s)
  have h3 := tw_le s (by omega)
  refine ⟨cntT M (tw s), lstF M (tw s), ⟨by omega, fun j hj => ?_, fun t ht => ?_, fun i j hij hj => lstM_up _ i j hij hj⟩, fun w => sTaps_of s M w h2 h8 h0 (fun t h1 h3 => (hM t h3).1 h1), fun w => iTaps_of s M w h2 h8 (fun t h3 => (hM t h3).2)⟩
  · obtain ⟨t, a, b, c⟩ := lstM_in (tw s) j hj
    exact ⟨t, c, (hP t a).1 b⟩
  · exact lstM_has ((hP t ht.1.tapLt).2 ht) _ ht.1.tapLt
set_option maxRecDepth 100000 in
theorem tapsNone (S : Int) (hS : ¬ (2 ≤ S ∧ S ≤ 8)) :
    (∀ w, Calls Try.prog 23 #[.int .i64 S] w fun e w' => ∃ v, e = .returned v ∧ OF w' w.heap.size v 0 (fun _ => 0) ∧ Below w.heap.size w w') ∧
    (∀ w, Calls Try.prog 12 #[.int .i64 S] w fun e w' => ∃ v, e = .returned v ∧ OF w' w.heap.size v 0 (fun _ => 0) ∧ Below w.heap.size w w') := by
  refine ⟨fun w => ?_, fun w => ?_⟩
  · have HN := Lib.hid (fun w => l1Taps_no S 1 w (by
      cases hb : tapsB S 1 with
      | false => rfl
      | true => exact absurd ⟨((tapsB_iff _ _).1 hb).1, ((tapsB_iff _ _).1 hb).2.1⟩ hS))
    go_enter Try.func23, Try.ntmps23
    go_wp2
    go_loop [3, 4] (fun v i => v = .slice (some ⟨w.heap.size, 0, none⟩) 0 0 ∧ i = .int .i64 (1 : Nat)) (fun _ i => (intOf i).toNat)
    case atStart => exact ⟨rfl, rfl⟩
    case round =>
      obtain ⟨rfl, rfl⟩ := hrel
      go_wp2_with fail
      refine (HN.out _).mono ?_
      rintro e w1 ⟨rfl, rfl⟩
      go_wp2
      go_ret
      exact ⟨_, rfl, OF.empty w _, (Below.refl _ _).alloc (Nat.le_refl _) _⟩
  · have HZ := Lib.hid (fun w => sizeValid_no S w hS)
    go_enter Try.func12, Try.ntmps12
    go_wp2_with fail
    refine (HZ.out _).mono ?_
    rintro e w1 ⟨rfl, rfl⟩
    go_wp2
    go_ret
    exact ⟨_, rfl, OF.nil _ _ _, Below.refl _ _⟩
end Go.Proofs.Ytmlmpekhcnjehaa
