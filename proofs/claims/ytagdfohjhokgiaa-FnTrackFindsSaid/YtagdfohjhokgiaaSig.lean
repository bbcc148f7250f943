/- Signals: which numbers are one, of both sides; marks from any number on. -/
import Derived.Test.YtagdfohjhokgiaaIntsBig
import Derived.Test.YtagdfohjhokgiaaSeqFun
namespace Go.Proofs.Ytagdfohjhokgiaa
open Go.RowKit
set_option linter.unusedVariables false
set_option maxRecDepth 100000
def inM (x : Int) : Bool := decide (-1000000 ≤ x) && decide (x ≤ 1000000)
theorem inM_iff (x : Int) : inM x = true ↔ -1000000 ≤ x ∧ x ≤ 1000000 := by unfold inM; simp only [Bool.and_eq_true, decide_eq_true_eq]
def allM (n : Nat) (f : Nat → Int) : Bool := (List.range n).all fun j => inM (f j)
theorem allM_succ (n : Nat) (f : Nat → Int) : allM (n + 1) f = (allM n f && inM (f n)) := by unfold allM; rw [List.range_succ, List.all_append]; simp
theorem allM_bad {n k : Nat} {f : Nat → Int} (hk : k < n) (h : inM (f k) = false) : allM n f = false := by
  unfold allM
  rw [List.all_eq_false]
  exact ⟨k, List.mem_range.2 hk, by rw [h]; simp⟩
theorem allM_at {n k : Nat} {f : Nat → Int} (h : allM n f = true) (hk : k < n) : -1000000 ≤ f k ∧ f k ≤ 1000000 := by
  unfold allM at h
  exact (inM_iff _).1 (List.all_eq_true.1 h k (List.mem_range.2 hk))
theorem allM_of {n : Nat} {f : Nat → Int} (h : ∀ k, k < n → -1000000 ≤ f k ∧ f k ≤ 1000000) : allM n f = true := by
  unfold allM
  rw [List.all_eq_true]
  exact fun k hk => (inM_iff _).2 (h k (List.mem_range.1 hk))
theorem allM_congr {n : Nat} {f g : Nat → Int} (h : ∀ k, k < n → f k = g k) : allM n f = allM n g := by
  unfold allM
  rw [Bool.eq_iff_iff, List.all_eq_true, List.all_eq_true]
  constructor
  · intro e k hk; rw [← h k (List.mem_range.1 hk)]; exact e k hk
  · intro e k hk; rw [h k (List.mem_range.1 hk)]; exact e k hk
/-- A signal: at most 3000 samples, each within the limit. -/
def sigB (n : Nat) (f : Nat → Int) : Bool := allM n f && decide (n ≤ 3000)
theorem sigB_iff (n : Nat) (f : Nat → Int) : sigB n f = true ↔ allM n f = true ∧ n ≤ 3000 := by unfold sigB; simp only [Bool.and_eq_true, decide_eq_true_eq]
theorem sig_long {n : Nat} {f : Nat → Int} (h : ¬ n ≤ 3000) : false = sigB n f := by unfold sigB; rw [decide_eq_false h, Bool.and_false]
theorem sig_bad {n k : Nat} {f : Nat → Int} (hk : k < n) (h : inM (f k) = false) : false = sigB n f := by unfold sigB; rw [allM_bad hk h]; rfl
set_option maxRecDepth 100000 in
theorem iSig_any (v : Value) (n : Nat) (z : Nat → Int) (w : World) (h : IntsR w v n z) (hn : n ≤ 1048576) :
    Calls Try.prog 57 #[v] w fun e w' => e = .returned (.bool (sigB n z)) ∧ w = w' := by
  obtain ⟨a, cap, rfl, hc⟩ := h
  have HC := Lib.hid hc
  have HB := Lib.hid (fun k (hk : k < n) h => sig_bad (f := z) hk h)
  have HS := Lib.hid (fun k => allM_succ k z)
  clear hc
  by_cases hl : n ≤ 3000
  · have HE := Lib.hid (show allM n z = sigB n z by unfold sigB; rw [decide_eq_true hl, Bool.and_true])
    have l0 : ¬ ((3000 : Int) < (n : Int)) := by omega
    go_enter Try.func57, Try.ntmps57
    go_wp2
    go_loop [10] (fun i => ∃ k : Nat, k ≤ n ∧ i = .int .i64 k ∧ Hid (allM k z = true)) (fun i => n - (intOf i).toNat)
    case atStart => exact ⟨0, by omega, rfl, Lib.hid rfl⟩
    case round =>
      obtain ⟨k, hk, rfl, rA⟩ := hrel
      by_cases hlt : k < n
      · obtain ⟨x, rfl, hx, hcc⟩ := HC.out k hlt
        have hb := HB.out k hlt
        have hs := HS.out k
        rw [rA.out, Bool.true_and] at hs
        have hi : inM (z k) = (decide (-1000000 ≤ z k) && decide (z k ≤ 1000000)) := rfl
        obtain ⟨y, hy⟩ : ∃ y, z k = y := ⟨_, rfl⟩
        rw [hy] at hcc hb hs hi
        have i0 : (0 : Int) ≤ (k : Int) := by omega
        have i1 : (k : Int) < (n : Int) := by omega
        clear hy hx rA
        by_cases h1 : -1000000 ≤ y
        · by_cases h2 : y ≤ 1000000
          · rw [decide_eq_true h1, decide_eq_true h2] at hi
            have l1 : ¬ (y < -1000000) := by omega
            have l2 : ¬ ((1000000 : Int) < y) := by omega
            have nA := Lib.hid (hs.trans hi)
            clear hb hs hi
            go_wp2
            go_round
            case rel => exact ⟨k + 1, by omega, by go_num, nA⟩
            case measure => simp [intOf]; omega
          · rw [decide_eq_true h1, decide_eq_false h2] at hi
            have l1 : ¬ (y < -1000000) := by omega
            have l2 : ((1000000 : Int) < y) := by omega
            have HA := Lib.hid (hb hi)
            clear hb hs hi
            go_wp2
            go_ret
            exact ⟨ret_bool HA.out, rfl⟩
        · rw [decide_eq_false h1] at hi
          have l1 : (y < -1000000) := by omega
          have HA := Lib.hid (hb hi)
          clear hb hs hi
          go_wp2
          go_ret
          exact ⟨ret_bool HA.out, rfl⟩
      · obtain rfl : k = n := by omega
        have HA := Lib.hid (rA.out.symm.trans HE.out)
        clear rA
        go_wp2
        go_ret
        exact ⟨ret_bool HA.out, rfl⟩
  · have HE := Lib.hid (sig_long (f := z) hl)
    have l0 : ((3000 : Int) < (n : Int)) := by omega
    go_enter Try.func57, Try.ntmps57
    go_wp2
    go_ret
    exact ⟨ret_bool HE.out, rfl⟩
set_option maxRecDepth 100000 in
theorem sSig_any (v : Value) (n : Nat) (z : Nat → Int) (w : World) (h : IntsR w v n z) (hn : n ≤ 1048576) :
    Calls Try.prog 49 #[v] w fun e w' => e = .returned (.bool (sigB n z)) ∧ w = w' := by
  obtain ⟨a, cap, rfl, hc⟩ := h
  have HC := Lib.hid hc
  have HB := Lib.hid (fun k (hk : k < n) h => sig_bad (f := z) hk h)
  have HS := Lib.hid (fun k => allM_succ k z)
  have HI := Lib.hid (fun x w => l1In_any x (-1000000) 1000000 w)
  clear hc
  go_enter Try.func49, Try.ntmps49
  go_wp2
  go_loop [3] (fun i => ∃ k : Nat, k ≤ n ∧ i = .int .i64 k ∧ Hid (allM k z = true)) (fun i => n - (intOf i).toNat)
  case atStart => exact ⟨0, by omega, rfl, Lib.hid rfl⟩
  case round =>
    obtain ⟨k, hk, rfl, rA⟩ := hrel
    by_cases hlt : k < n
    · obtain ⟨x, rfl, hx, hcc⟩ := HC.out k hlt
      have hb := HB.out k hlt
      have hs := HS.out k
      rw [rA.out, Bool.true_and] at hs
      have hi : inM (z k) = (decide (-1000000 ≤ z k) && decide (z k ≤ 1000000)) := rfl
      obtain ⟨y, hy⟩ : ∃ y, z k = y := ⟨_, rfl⟩
      rw [hy] at hcc hb hs hi
      have i0 : (0 : Int) ≤ (k : Int) := by omega
      have i1 : (k : Int) < (n : Int) := by omega
      have hI := fun w => HI.out y w
      rw [← hi] at hI
      clear hy hx rA hi
      cases hv : inM y with
      | true =>
        rw [hv] at hI
        have nA := Lib.hid (hs.trans hv)
        have HII := Lib.hid hI
        clear hb hs hI
        go_wp2_with fail
        refine (HII.out _).mono ?_
        rintro e w' ⟨rfl, rfl⟩
        go_wp2
        go_round
        case rel => exact ⟨k + 1, by omega, by go_num, nA⟩
        case measure => simp [intOf]; omega
      | false =>
        rw [hv] at hI
        have HA := Lib.hid (hb hv)
        have HII := Lib.hid hI
        clear hb hs hI
        go_wp2_with fail
        refine (HII.out _).mono ?_
        rintro e w' ⟨rfl, rfl⟩
        go_wp2
        go_ret
        exact ⟨ret_bool HA.out, rfl⟩
    · obtain rfl : k = n := by omega
      have HA := Lib.hid rA.out
      clear rA
      go_wp2
      go_ret
      exact ⟨ret_bool (by unfold sigB; rw [HA.out, Bool.true_and, Bool.eq_iff_iff]; simp; omega), rfl⟩
theorem iSig_b (v : Value) (n : Nat) (z : Nat → Int) (w : World) (h : IntsR w v n z) (hn : n ≤ 1048576) :
    Calls Try.prog 57 #[v] w fun e w' => e = .returned (.bool (sigB n z)) ∧ Below w.heap.size w w' :=
  (iSig_any v n z w h hn).mono fun e w' ⟨he, hw⟩ => ⟨he, hw ▸ Below.refl _ _⟩
theorem sSig_b (v : Value) (n : Nat) (z : Nat → Int) (w : World) (h : IntsR w v n z) (hn : n ≤ 1048576) :
    Calls Try.prog 49 #[v] w fun e w' => e = .returned (.bool (sigB n z)) ∧ Below w.heap.size w w' :=
  (sSig_any v n z w h hn).mono fun e w' ⟨he, hw⟩ => ⟨he, hw ▸ Below.refl _ _⟩
end Go.Proofs.Ytagdfohjhokgiaa
