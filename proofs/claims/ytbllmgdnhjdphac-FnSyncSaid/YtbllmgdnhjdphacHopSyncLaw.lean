/- What SyncHops answers: nothing, or the register with the smallest state. -/
import Derived.Test.YtbllmgdnhjdphacSsEq
namespace Go.Proofs.Ytbllmgdnhjdphac
set_option linter.unusedVariables false
theorem sy_cases (S T C : Int) (n : Nat) (f : Nat → Int) : syA S T C n f = .tuple #[.agg #[.int .i64 0, .int .i64 0, .int .i64 0], .bool false] ∨
    ∃ s t c x : Nat, S = s ∧ T = t ∧ C = c ∧ RegN s t x ∧ 1 ≤ c ∧ c ≤ 16 ∧ n ≤ 300 ∧ syA S T C n f = .tuple #[.agg #[.int .i64 (s : Nat), .int .i64 (t : Nat), .int .i64 (x : Nat)], .bool true] ∧ (∀ i, i < n → hsF s t x c i = f i) ∧ ∀ y : Nat, y < x → RegN s t y ∧ eqA (hsF s t y c) f n = false := by
  cases hb : syB S T C n f with
  | false => exact .inl (sy_no hb)
  | true =>
    have h2 := hb
    unfold syB at h2
    simp only [Bool.and_eq_true] at h2
    obtain ⟨ht, hh⟩ := h2
    obtain ⟨t1, t2, t3, t4⟩ := (tapsB_iff S T).1 ht
    obtain ⟨c1, c2, -⟩ := (hopB_iff _ _ _).1 hh
    obtain ⟨s, rfl⟩ : ∃ s : Nat, S = s := ⟨S.toNat, by omega⟩
    obtain ⟨t, rfl⟩ : ∃ s : Nat, T = s := ⟨T.toNat, by omega⟩
    obtain ⟨c, rfl⟩ : ∃ s : Nat, C = s := ⟨C.toNat, by omega⟩
    rw [Int.toNat_natCast] at t4
    have hreg : ∀ y : Nat, y < tw s → RegN s t y := fun y hy => ⟨by omega, by omega, by omega, by omega, hy⟩
    by_cases e : ∃ x, x < tw s ∧ syP s t c n f x = true
    · obtain ⟨x0, hx0, hp0⟩ := e
      obtain ⟨x, l1, l2, l3⟩ := least7 (syP s t c n f) x0 hp0
      exact .inr ⟨s, t, c, x, rfl, rfl, rfl, hreg x (by omega), by omega, by omega, c2, sy_some hb (by omega) l2 l3, (eqA_iff _ _ _).1 l2, fun y hy => ⟨hreg y (by omega), l3 y hy⟩⟩
    · refine .inl (sy_none hb fun x hx => ?_)
      cases hp : syP s t c n f x with
      | false => rfl
      | true => exact absurd ⟨x, hx, hp⟩ e
end Go.Proofs.Ytbllmgdnhjdphac
