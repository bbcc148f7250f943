/- ssInts of any two rows of the same length; registers in memory of their own. -/
import Derived.Test.YtbllmgdnhjdphacHop12
import Derived.Test.YtbllmgdnhjdphacSeqAlg
namespace Go.Proofs.Ytbllmgdnhjdphac
open Go.RowKit
set_option linter.unusedVariables false
set_option maxRecDepth 100000
theorem ssInts_eq (v u : Value) (n : Nat) (f g : Nat → Int) (w : World) (hv : IntsR w v n f) (hu : IntsR w u n g) (hn : n ≤ 1000000) :
    Calls Try.prog 14 #[v, u] w fun e w' => e = .returned (.bool (eqA f g n)) ∧ ∃ m, w' = w.drewN m := by
  obtain ⟨a, cap, rfl, ha⟩ := hv
  obtain ⟨b, cap', rfl, hb⟩ := hu
  have HA := Lib.hid ha
  have HB := Lib.hid hb
  have HNO := Lib.hid (fun k (hk : k < n) (h : ¬ f k = g k) => (eqA_no hk h).symm)
  clear ha hb
  go_enter Try.func14, Try.ntmps14
  go_wp2
  go_loopw [5] (fun i wr => ∃ k m : Nat, k ≤ n ∧ i = .int .i64 k ∧ Hid (eqA f g k = true) ∧ wr = w.drewN m) (fun i _ => n - (intOf i).toNat)
  case atStart => exact ⟨0, 0, by omega, rfl, Lib.hid rfl, rfl⟩
  case round =>
    obtain ⟨k, m, hk, rfl, rE, rfl⟩ := hrel
    by_cases hlt : k < n
    · obtain ⟨x1, rfl, -, h1⟩ := HA.out k hlt
      obtain ⟨x2, rfl, -, h2⟩ := HB.out k hlt
      have c1 : (w.drewN m).cell? (x1.add k) = some (.int .i64 (f k)) := h1
      have c2 : (w.drewN m).cell? (x2.add k) = some (.int .i64 (g k)) := h2
      clear h1 h2
      have i0 : (0 : Int) ≤ (k : Int) := by omega
      have i1 : (k : Int) < (n : Int) := by omega
      have HK := HNO.out k hlt
      obtain ⟨X, hX⟩ : ∃ X, f k = X := ⟨_, rfl⟩
      obtain ⟨Y, hY⟩ : ∃ Y, g k = Y := ⟨_, rfl⟩
      have nE : X = Y → eqA f g (k + 1) = true := fun e => by
        show (eqA f g k && decide (f k = g k)) = true
        rw [rE.out, hX, hY, decide_eq_true e]; rfl
      rw [hX] at c1 HK
      rw [hY] at c2 HK
      clear hX hY rE
      obtain ⟨W, hW⟩ : ∃ W, w.drewN m = W := ⟨_, rfl⟩
      rw [hW] at c1 c2 ⊢
      have HW := Lib.hid hW
      clear hW
      by_cases he : X = Y
      · have nE2 := Lib.hid (nE he)
        subst he
        clear HK nE
        go_wp2_with fail
        go_quiet (fail)
        clear c1 c2
        go_wp2
        go_roundw
        case rel => exact ⟨k + 1, m + nq, by omega, by go_num, nE2, by rw [← HW.out, World.drewN_drewN]⟩
        case measure => simp [intOf]; omega
      · have HE := Lib.hid (HK he)
        have e3 : (X == Y) = false := by simp; exact he
        have e4 : (X != Y) = true := by simp; exact he
        clear HK nE
        go_wp2_with fail
        go_quiet (fail)
        clear c1 c2
        go_wp2
        go_ret
        exact ⟨ret_bool HE.out, m + nq, by rw [← HW.out, World.drewN_drewN]⟩
    · obtain rfl : k = n := by omega
      have HE := Lib.hid rE.out.symm
      clear rE
      go_wp2
      go_ret
      exact ⟨ret_bool HE.out, m, rfl⟩
/-- A register in a block. -/
def BoxAt (w : World) (b : Nat) (S T X : Int) : Prop := RegAt w b S T X
theorem BoxAt.below {w w' : World} {b : Nat} {S T X : Int} (h : BoxAt w b S T X) (hb : Below w.heap.size w w') : BoxAt w' b S T X := RegAt.below h hb h.2.2.2
theorem BoxAt.drewN {w : World} {b : Nat} {S T X : Int} (h : BoxAt w b S T X) (m : Nat) : BoxAt (w.drewN m) b S T X := h.below (below_drewN (Below.refl _ _) m)
theorem BoxAt.alloc {w : World} {b : Nat} {S T X : Int} (h : BoxAt w b S T X) (o : Obj) : BoxAt (w.alloc o) b S T X := h.below ((Below.refl _ _).alloc (Nat.le_refl _) o)
theorem BoxAt.new (w : World) (t : TypeId) (S T X : Int) : BoxAt (w.alloc (.cells #[.int .i64 S, .int .i64 T, .int .i64 X] t)) w.heap.size S T X := RegAt.new w t S T X
theorem least7 (P : Nat → Bool) : ∀ x, P x = true → ∃ y, y ≤ x ∧ P y = true ∧ ∀ z, z < y → P z = false := by
  intro x
  induction x using Nat.strongRecOn with
  | ind x ih =>
    intro h
    by_cases e : ∃ z, z < x ∧ P z = true
    · obtain ⟨z, hz, hp⟩ := e
      obtain ⟨y, h1, h2, h3⟩ := ih z hz hp
      exact ⟨y, by omega, h2, h3⟩
    · refine ⟨x, Nat.le_refl _, h, fun z hz => ?_⟩
      cases hz2 : P z with
      | false => rfl
      | true => exact absurd ⟨z, hz, hz2⟩ e
theorem hsB_yes {s t x : Nat} (h : RegN s t x) {c k : Nat} (h1 : 1 ≤ c) (h2 : c ≤ 16) (hk : k ≤ 300) : hsB s t x c k = true ∧ hsN s t x c k = k := by
  have e : hsB s t x c k = true := (hsB_iff _ _ _ _ _).2 ⟨h.valid, by omega, by omega⟩
  exact ⟨e, by unfold hsN; rw [e]; simp⟩
theorem hsF_in {s t x c : Nat} (h1 : 1 ≤ c) (i : Nat) : 0 ≤ hsF s t x c i ∧ hsF s t x c i < c := by
  unfold hsF
  have := Nat.mod_lt (stepsN (s : Int).toNat (t : Int).toNat (i * (s : Int).toNat) (x : Int).toNat) (show 0 < (c : Int).toNat by omega)
  omega
theorem hs_jump (s t x c M i : Nat) : hsF s t (stepsN s t (M * s) x : Nat) c i = hsF s t x c (M + i) := by
  rw [hs_at, hs_at, ← steps_add, ← Nat.add_mul, Nat.add_comm i M]
/-- The register that is found. -/
theorem hs_found {s t x : Nat} (h : RegN s t x) {c k : Nat} (h1 : 1 ≤ c) (h2 : c ≤ 16) (hk : k ≤ 300) : hopB k (hsF s t x c) c = true ∧ ∃ y : Nat, y ≤ x ∧ RegN s t y ∧ syA s t c k (hsF s t x c) = .tuple #[.agg #[.int .i64 (s : Nat), .int .i64 (t : Nat), .int .i64 (y : Nat)], .bool true] ∧ ∀ i, i < k → hsF s t y c i = hsF s t x c i := by
  have hh : hopB k (hsF s t x c) c = true := (hopB_iff _ _ _).2 ⟨by omega, hk, fun i _ => hsF_in h1 i⟩
  refine ⟨hh, ?_⟩
  obtain ⟨y, l1, l2, l3⟩ := least7 (syP s t c k (hsF s t x c)) x ((eqA_iff _ _ _).2 fun i _ => rfl)
  have hy : y < tw s := Nat.lt_of_le_of_lt l1 h.lt
  have hb : syB s t c k (hsF s t x c) = true := by
    unfold syB
    have := (regB_iff _ _ _).1 h.valid
    rw [hh, Bool.and_true]
    exact (tapsB_iff _ _).2 ⟨this.1, this.2.1, this.2.2.1, this.2.2.2.1⟩
  exact ⟨y, l1, ⟨h.lo, h.hi, h.tap, h.tapLt, hy⟩, sy_some hb hy l2 l3, (eqA_iff _ _ _).1 l2⟩
end Go.Proofs.Ytbllmgdnhjdphac
