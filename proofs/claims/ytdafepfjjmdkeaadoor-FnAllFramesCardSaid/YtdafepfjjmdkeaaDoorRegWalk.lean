/- Which state comes back first: plain mathematics. Contracts of orbitOf of the program. Contracts of l1Walk, PeriodOf and LeadOf of the model. -/
import Derived.Test.YtdafepfjjmdkeaaDoorRegBase
import Derived.Deep.OwnRows
namespace Go.Proofs.YtdafepfjjmdkeaaDoor
/-- How many numbers below k have p. -/
def cnt (p : Nat → Bool) : Nat → Nat
  | 0 => 0
  | k + 1 => cnt p k + (if p k then 1 else 0)
theorem cnt_le (p : Nat → Bool) : ∀ k, cnt p k ≤ k
  | 0 => Nat.le_refl _
  | k + 1 => by have := cnt_le p k; simp only [cnt]; split <;> omega
theorem cnt_more (p q : Nat → Bool) (a : Nat) (hp : p a = false) (hq : ∀ v, q v = (p v || v == a)) : ∀ k, cnt q k = cnt p k + (if a < k then 1 else 0)
  | 0 => by simp [cnt]
  | k + 1 => by
    have ih := cnt_more p q a hp hq k
    simp only [cnt]
    rw [ih, hq k]
    by_cases h : k = a
    · subst h
      simp [hp]
    · have h1 : (k == a) = false := by simp [h]
      rw [h1, Bool.or_false]
      by_cases h2 : a < k
      · rw [if_pos h2, if_pos (show a < k + 1 by omega)]; omega
      · rw [if_neg h2, if_neg (show ¬ a < k + 1 by omega)]; try omega
/-- The number of the step, from 1, at which the value v is met last among the first n states; 0 if it isn't. -/
def idx (s t x : Nat) : Nat → Nat → Nat
  | 0, _ => 0
  | n + 1, v => if stepsN s t n x = v then n + 1 else idx s t x n v
theorem idx_le (s t x : Nat) : ∀ n v, idx s t x n v ≤ n
  | 0, _ => Nat.le_refl _
  | n + 1, v => by have := idx_le s t x n v; simp only [idx]; split <;> omega
theorem cnt_zero (p : Nat → Bool) (hp : ∀ v, p v = false) : ∀ k, cnt p k = 0
  | 0 => rfl
  | k + 1 => by simp [cnt, hp k, cnt_zero p hp k]
theorem cnt_idx {s t x : Nat} (hr : RegN s t x) (n : Nat) (h : ∀ m, m < n → idx s t x m (stepsN s t m x) = 0) : cnt (fun v => decide (idx s t x n v ≠ 0)) 256 = n := by
  induction n with
  | zero => exact cnt_zero _ (fun v => by simp [idx]) 256
  | succ n ih =>
    have h1 := ih (fun m hm => h m (by omega))
    have h2 := h n (by omega)
    have h3 := (hr.steps n).lt
    have h4 := tw_le s hr.hi
    rw [cnt_more (fun v => decide (idx s t x n v ≠ 0)) _ (stepsN s t n x) (by simp [h2]) (fun v => ?_) 256, h1, if_pos (by omega)]
    simp only [idx]
    by_cases hv : stepsN s t n x = v
    · simp [hv]
    · have : (v == stepsN s t n x) = false := by simp; exact fun e => hv e.symm
      simp [hv, this]
/-- There is a first state that comes back. -/
theorem orbit_ends {s t x : Nat} (hr : RegN s t x) : ∃ N, N ≤ 256 ∧ idx s t x N (stepsN s t N x) ≠ 0 ∧ ∀ m, m < N → idx s t x m (stepsN s t m x) = 0 := by
  have key : ∀ n, (∀ m, m < n → idx s t x m (stepsN s t m x) = 0) ∨ ∃ N, N < n ∧ idx s t x N (stepsN s t N x) ≠ 0 ∧ ∀ m, m < N → idx s t x m (stepsN s t m x) = 0 := by
    intro n
    induction n with
    | zero => exact .inl fun m hm => absurd hm (Nat.not_lt_zero m)
    | succ n ih =>
      rcases ih with ih | ⟨N, h1, h2⟩
      · by_cases h : idx s t x n (stepsN s t n x) = 0
        · left
          intro m hm
          by_cases hmn : m = n
          · subst hmn; exact h
          · exact ih m (by omega)
        · exact .inr ⟨n, by omega, h, ih⟩
      · exact .inr ⟨N, by omega, h2⟩
  rcases key 257 with h | ⟨N, h1, h2⟩
  · have h1 := cnt_idx hr 257 h
    have h2 := cnt_le (fun v => decide (idx s t x 257 v ≠ 0)) 256
    omega
  · exact ⟨N, by omega, h2⟩
end Go.Proofs.YtdafepfjjmdkeaaDoor
namespace Go.Proofs.YtdafepfjjmdkeaaDoor
open Go.RowKit
end Go.Proofs.YtdafepfjjmdkeaaDoor
namespace Go.Proofs.YtdafepfjjmdkeaaDoor
open Go.RowKit
/-- A row of numbers. -/
def RowAt (w : World) (b m : Nat) (f : Nat → Int) : Prop :=
  (∀ v : Nat, v < m → w.cell? ⟨b, v, none⟩ = some (.int .i64 (f v))) ∧ (∀ o, w.frozen? ⟨b, o, none⟩ = false) ∧ b < w.heap.size
theorem RowAt.new {w : World} {m : Nat} {t : TypeId} {b : Nat} (hb : b = w.heap.size) : RowAt (w.alloc (.cells (madeCells #[.int .i64 0] m) t)) b m (fun _ => 0) := by
  subst hb
  refine ⟨fun v hv => ?_, fun o => by simp, by simp⟩
  have : (madeCells #[.int .i64 0] m)[v]? = some (.int .i64 0) := by simp [madeCells, hv, Nat.mod_one]
  generalize madeCells #[.int .i64 0] m = A at this
  simp [this]
theorem RowAt.set {w : World} {b m : Nat} {f g : Nat → Int} (h : RowAt w b m f) (y : Nat) (u : Int) (hg : ∀ v, v < m → g v = if v = y then u else f v) :
    RowAt (w.setCell ⟨b, y, none⟩ (.int .i64 u)) b m g := by
  obtain ⟨h1, h2, h3⟩ := h
  refine ⟨fun v hv => ?_, fun o => by simp [World.frozen?_setCell, h2], by simp; omega⟩
  rw [hg v hv]
  by_cases hv' : v = y
  · subst hv'
    rw [if_pos rfl]
    exact World.cell?_setCell_same _ _ _ (h1 v hv)
  · rw [if_neg hv', ← h1 v hv]
    exact World.cell?_setCell_other _ _ _ _ (by intro e; injection e with _ e; exact hv' e.symm)
theorem RowAt.kept {w w' : World} {b m : Nat} {f : Nat → Int} {row : Option Nat} (h : RowAt w b m f) (hg : w.grownBy w' row) (hne : some b ≠ row) : RowAt w' b m f :=
  ⟨fun v hv => hg.cell (h.1 v hv) hne, fun o => frozen_kept' (h.2.1 o) h.2.2 hg hne, Nat.lt_of_lt_of_le h.2.2 hg.size⟩
theorem RowAt.below {w w' : World} {b m B : Nat} {f : Nat → Int} (h : RowAt w b m f) (hb : Below B w w') (hB : b < B) : RowAt w' b m f :=
  ⟨fun v hv => (hb.cell (p := ⟨b, v, none⟩) hB).trans (h.1 v hv), fun o => (hb.frozen (p := ⟨b, o, none⟩) hB).trans (h.2.1 o), Nat.lt_of_lt_of_le h.2.2 hb.size⟩
theorem grown_set (w : World) (b o : Nat) (u : Value) : w.grownBy (w.setCell ⟨b, o, none⟩ u) (some b) :=
  ⟨rfl, rfl, rfl, by simp, fun k hk hne => Below.heap_setCell _ _ _ _ (fun e => hne (by rw [e]))⟩
theorem walk_set3 {W : World} {b : Nat} {S T X : Int} (h : RegAt W b S T X) (S' T' X' : Int) :
    RegAt (((W.setCell ⟨b, 0, none⟩ (.int .i64 S')).setCell ⟨b, 1, none⟩ (.int .i64 T')).setCell ⟨b, 2, none⟩ (.int .i64 X')) b S' T' X' ∧
    (∀ a, (((W.setCell ⟨b, 0, none⟩ (.int .i64 S')).setCell ⟨b, 1, none⟩ (.int .i64 T')).setCell ⟨b, 2, none⟩ (.int .i64 X')).frozen? a = W.frozen? a) ∧
    W.grownBy (((W.setCell ⟨b, 0, none⟩ (.int .i64 S')).setCell ⟨b, 1, none⟩ (.int .i64 T')).setCell ⟨b, 2, none⟩ (.int .i64 X')) (some b) := by
  obtain ⟨c0, c1, c2, cl⟩ := h
  refine ⟨⟨?_, ?_, ?_, ?_⟩, ?_, ?_⟩
  · go_simp
  · go_simp
  · go_simp
  · simp; omega
  · intro a; simp [World.frozen?_setCell]
  · refine ⟨rfl, rfl, rfl, by simp, fun k hk hne => ?_⟩
    have hne' : k ≠ b := fun e => hne (by rw [e])
    rw [Below.heap_setCell _ _ _ _ hne', Below.heap_setCell _ _ _ _ hne', Below.heap_setCell _ _ _ _ hne']
end Go.Proofs.YtdafepfjjmdkeaaDoor
