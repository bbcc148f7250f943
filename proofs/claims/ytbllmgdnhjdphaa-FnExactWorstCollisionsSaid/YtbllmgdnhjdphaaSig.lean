/- Signals: which numbers are one, of both sides; marks from any number on. -/
import Derived.Test.YtbllmgdnhjdphaaIntsBig
import Derived.Test.YtbllmgdnhjdphaaSeqFun
namespace Go.Proofs.Ytbllmgdnhjdphaa
open Go.RowKit
set_option linter.unusedVariables false
set_option maxRecDepth 100000
def inM (x : Int) : Bool := decide (-1000000 ≤ x) && decide (x ≤ 1000000)
theorem inM_iff (x : Int) : inM x = true ↔ -1000000 ≤ x ∧ x ≤ 1000000 := by unfold inM; simp only [Bool.and_eq_true, decide_eq_true_eq]
def allM (n : Nat) (f : Nat → Int) : Bool := (List.range n).all fun j => inM (f j)
theorem allM_succ (n : Nat) (f : Nat → Int) : allM (n + 1) f = (allM n f && inM (f n)) := by unfold allM; rw [List.range_succ, List.all_append]; simp
theorem allM_bad {n k : Nat} {f : Nat → Int} (hk : k < n) (h : inM (f k) = false) : allM n f = false := by
  unfold allM
  rw [List.all_eq_false]
  exact ⟨k, List.mem_range.2 hk, by rw [h]; simp⟩
theorem allM_at {n k : Nat} {f : Nat → Int} (h : allM n f = true) (hk : k < n) : -1000000 ≤ f k ∧ f k ≤ 1000000 := by
  unfold allM at h
  exact (inM_iff _).1 (List.all_eq_true.1 h k (List.mem_range.2 hk))
theorem allM_of {n : Nat} {f : Nat → Int} (h : ∀ k, k < n → -1000000 ≤ f k ∧ f k ≤ 1000000) : allM n f = true := by
  unfold allM
  rw [List.all_eq_true]
  exact fun k hk => (inM_iff _).2 (h k (List.mem_range.1 hk))
theorem allM_congr {n : Nat} {f g : Nat → Int} (h : ∀ k, k < n → f k = g k) : allM n f = allM n g := by
  unfold allM
  rw [Bool.eq_iff_iff, List.all_eq_true, List.all_eq_true]
  constructor
  · intro e k hk; rw [← h k (List.mem_range.1 hk)]; exact e k hk
  · intro e k hk; rw [h k (List.mem_range.1 hk)]; exact e k hk
/-- A signal: at most 3000 samples, each within the limit. -/
def sigB (n : Nat) (f : Nat → Int) : Bool := allM n f && decide (n ≤ 3000)
theorem sigB_iff (n : Nat) (f : Nat → Int) : sigB n f = true ↔ allM n f = true ∧ n ≤ 3000 := by unfold sigB; simp only [Bool.and_eq_true, decide_eq_true_eq]
theorem sig_long {n : Nat} {f : Nat → Int} (h : ¬ n ≤ 3000) : false = sigB n f := by unfold sigB; rw [decide_eq_false h, Bool.and_false]
theorem sig_bad {n k : Nat} {f : Nat → Int} (hk : k < n) (h : inM (f k) = false) : false = sigB n f := by unfold sigB; rw [allM_bad hk h]; rfl
theorem apart_lo {u v : Value} {C : Nat} (h1 : ∀ k, u.ownBlock = some k → k < C) (h2 : ∀ k, v.ownBlock = some k → C ≤ k) : u.ownBlock = none ∨ u.ownBlock ≠ v.ownBlock := by
  cases h0 : u.ownBlock with
  | none => exact .inl rfl
  | some k0 =>
    right
    intro h
    have := h1 k0 h0
    have := h2 k0 h.symm
    omega
theorem apart_hi {u v : Value} {C : Nat} (h1 : ∀ k, u.ownBlock = some k → C ≤ k) (h2 : ∀ k, v.ownBlock = some k → k < C) : u.ownBlock = none ∨ u.ownBlock ≠ v.ownBlock := by
  cases h0 : u.ownBlock with
  | none => exact .inl rfl
  | some k0 =>
    right
    intro h
    have := h1 k0 h0
    have := h2 k0 h.symm
    omega
set_option maxRecDepth 100000 in
theorem markIntS_gen (v : Value) (B n s : Nat) (f : Nat → Int) (w : World) (hv : OF w B v n f) (hn : n ≤ 1048576) (hs : s ≤ 100000000) :
    Calls Try.prog 19 #[v, .int .i64 (s : Int)] w fun e w' => e = .returned (.int .i64 ((s : Int) + (n : Int))) ∧ OF w' B v n (fun j => (s : Int) + (j : Int)) ∧ w.grownBy w' v.ownBlock := by
  obtain ⟨a, cap, rfl, ha⟩ := hv.form
  by_cases h0 : 0 < n
  · obtain ⟨g, rfl, hBg, hgl, hg⟩ := ha h0
    clear ha hg
    have HV := Lib.hid hv
    clear hv
    go_enter Try.func19, Try.ntmps19
    go_wp2
    go_loopw [5, 1] (fun i q wr => ∃ k : Nat, k ≤ n ∧ i = .int .i64 k ∧ q = .int .i64 ((s : Int) + (k : Int)) ∧ OF wr B (.slice (some ⟨g, 0, none⟩) n cap) n (fun j => if j < k then (s : Int) + (j : Int) else f j) ∧ w.grownBy wr (some g)) (fun i _ _ => n - (intOf i).toNat)
    case atStart => exact ⟨0, by omega, rfl, by simp, HV.out.congr (fun j _ => by simp), ⟨rfl, rfl, rfl, Nat.le_refl _, fun _ _ _ => rfl⟩⟩
    case round =>
      obtain ⟨k, hk, rfl, rfl, rO, rg⟩ := hrel
      by_cases hlt : k < n
      · obtain ⟨a', cap', hf1, hf2⟩ := rO.form
        obtain ⟨g', rfl, _, _, hc⟩ := hf2 h0
        injection hf1 with e1
        injection e1 with e1
        injection e1 with e1
        subst e1
        obtain ⟨c1, c2⟩ := hc k hlt
        have i0 : (0 : Int) ≤ (k : Int) := by omega
        have i1 : (k : Int) < (n : Int) := by omega
        have nO : Hid (OF (wr.setCell ⟨g, k, none⟩ (.int .i64 ((s : Int) + (k : Int)))) B (.slice (some ⟨g, 0, none⟩) n cap) n (fun j => if j < k + 1 then (s : Int) + (j : Int) else f j)) :=
          Lib.hid (rO.set k ((s : Int) + (k : Int)) hlt (fun j hj => by
            by_cases e : j = k
            · subst e; rw [if_pos (by omega), if_pos rfl]
            · rw [if_neg e]
              by_cases e' : j < k
              · rw [if_pos (by omega), if_pos e']
              · rw [if_neg (by omega), if_neg e']))
        have ng : Hid (w.grownBy (wr.setCell ⟨g, k, none⟩ (.int .i64 ((s : Int) + (k : Int)))) (some g)) := Lib.hid (rg.trans ⟨rfl, rfl, rfl, by simp, fun k hk hne => Below.heap_setCell _ _ _ _ (fun e => hne (by rw [e]))⟩)
        clear rO rg hc hf2
        go_wp2
        go_roundw
        case rel => exact ⟨k + 1, by omega, by go_num, by go_num, nO.out, ng.out⟩
        case measure => simp [intOf]; omega
      · obtain rfl : k = n := by omega
        have nO := Lib.hid (rO.congr (g := fun j => (s : Int) + (j : Int)) (fun j hj => by simp [hj]))
        clear rO
        go_wp2
        go_ret
        exact ⟨rfl, nO.out, rg⟩
  · obtain rfl : n = 0 := by omega
    have HV := Lib.hid (hv.congr (g := fun j => (s : Int) + (j : Int)) (fun j hj => absurd hj (Nat.not_lt_zero j)))
    clear ha hv
    go_enter Try.func19, Try.ntmps19
    go_wp2
    go_loop [5, 1] (fun i q => i = .int .i64 (0 : Nat) ∧ q = .int .i64 (s : Int)) (fun i _ => (intOf i).toNat)
    case atStart => exact ⟨rfl, rfl⟩
    case round =>
      obtain ⟨rfl, rfl⟩ := hrel
      go_wp2
      go_ret
      exact ⟨by simp, HV.out, ⟨rfl, rfl, rfl, Nat.le_refl _, fun _ _ _ => rfl⟩⟩
end Go.Proofs.Ytbllmgdnhjdphaa
