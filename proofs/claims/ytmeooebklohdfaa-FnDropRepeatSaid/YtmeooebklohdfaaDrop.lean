/- Signals with a sample dropped or repeated: DropSample, RepeatSample of both sides. -/
import Derived.Test.YtmeooebklohdfaaApp
namespace Go.Proofs.Ytmeooebklohdfaa
open Go.RowKit
set_option linter.unusedVariables false
set_option maxRecDepth 100000
def dpB (n : Nat) (z : Nat → Int) (k : Int) : Bool := sigB n z && (decide (0 ≤ k) && decide (k < (n : Int)))
theorem dpB_iff (n : Nat) (z : Nat → Int) (k : Int) : dpB n z k = true ↔ sigB n z = true ∧ 0 ≤ k ∧ k < (n : Int) := by unfold dpB; simp only [Bool.and_eq_true, decide_eq_true_eq]
def dpN (n : Nat) (z : Nat → Int) (k : Int) : Nat := if dpB n z k = true then n - 1 else 0
def dpF (z : Nat → Int) (k : Int) (i : Nat) : Int := if i < k.toNat then z i else z (i + 1)
def rpF (z : Nat → Int) (k : Int) (i : Nat) : Int := if i ≤ k.toNat then z i else z (i - 1)
def rpB (n : Nat) (z : Nat → Int) (k : Int) : Bool := dpB n z k && sigB (n + 1) (rpF z k)
def rpN (n : Nat) (z : Nat → Int) (k : Int) : Nat := if rpB n z k = true then n + 1 else 0
theorem dp_no {n : Nat} {z : Nat → Int} {k : Int} (h : ¬ (sigB n z = true ∧ 0 ≤ k ∧ k < (n : Int))) : dpB n z k = false := by
  cases e : dpB n z k with
  | false => rfl
  | true => exact absurd ((dpB_iff _ _ _).1 e) h
theorem dpN_le {n : Nat} {z : Nat → Int} {k : Int} : dpN n z k ≤ 1000000 := by
  unfold dpN; split
  · rename_i h
    have := ((sigB_iff _ _).1 ((dpB_iff _ _ _).1 h).1).2
    omega
  · omega
theorem rpN_le {n : Nat} {z : Nat → Int} {k : Int} : rpN n z k ≤ 1000000 := by
  unfold rpN rpB; split
  · rename_i h
    rw [Bool.and_eq_true] at h
    have := ((sigB_iff _ _).1 h.2).2
    omega
  · omega
/-- A tail of a slice with a place has a place. -/
theorem tailS {w : World} {x : Addr} {n cap : Nat} {f : Nat → Int} (h : IntsC w (.slice (some x) n cap) n f) (l : Nat) (hl : l ≤ n) : ∃ x' cap', (∀ w1, (Instr.sliceAt 27 (.slice (some x) n cap) (some (.int .i64 (l : Int))) none none).run Try.prog w1 = .ok (.slice (some x') (n - l) cap') w1) ∧
    IntsC w (.slice (some x') (n - l) cap') (n - l) (fun i => f (l + i)) := by
  obtain ⟨a, cap', e, hcap, hc⟩ := h
  injection e with e1 e2 e3
  subst e1 e3
  refine ⟨if cap = l then x else x.add (l * 1), cap - l, fun w1 => ?_, ?_⟩
  · rw [run_sliceAt_slice w1 27 _ _ _ _ (by kernel_rfl), run_slice_l w1 27 (some x) n cap (by kernel_rfl) .i64 _ (by omega) (by omega), ints_elem]
    simp [Result.andThen, sliced]
    split <;> rfl
  · refine ⟨_, _, rfl, by omega, fun i hi => ?_⟩
    obtain ⟨y, e, h1, h2⟩ := hc (l + i) (by omega)
    injection e with e
    subst e
    refine ⟨x.add l, by rw [if_neg (by omega)]; simp, by rw [add_block]; exact h1, ?_⟩
    rw [addr_plus]; exact h2
theorem dp_yes {n : Nat} {z : Nat → Int} {k : Int} (h : sigB n z = true) (h0 : 0 ≤ k) (h1 : k < (n : Int)) : dpB n z k = true := (dpB_iff _ _ _).2 ⟨h, h0, h1⟩
set_option maxHeartbeats 1600000 in
theorem iDrop_any (v : Value) (n : Nat) (z : Nat → Int) (k : Int) (w : World) (h : IntsC w v n z) (hn : n ≤ 1048576) :
    Calls Try.prog 55 #[v, .int .i64 k] w fun e w' => ∃ u, e = .returned (.tuple #[u, .bool (dpB n z k)]) ∧ OF w' w.heap.size u (dpN n z k) (dpF z k) ∧ Below w.heap.size w w' := by
  have hs := fun w h => iSig_any v n z w h hn
  have HR := Lib.hid h.ints
  unfold dpN
  by_cases hB : dpB n z k = true
  · rw [hB]
    obtain ⟨b1, b2, b3⟩ := (dpB_iff _ _ _).1 hB
    have hn3 := ((sigB_iff _ _).1 b1).2
    rw [b1] at hs
    have HS := Lib.hid hs
    obtain ⟨K, rfl⟩ : ∃ K : Nat, k = (K : Int) := ⟨k.toNat, by omega⟩
    have hK : K < n := by omega
    obtain ⟨a, cap, rfl, hcap, hc⟩ := id h
    obtain ⟨x0, rfl, -, -⟩ := hc 0 (by omega)
    obtain ⟨u1, u2⟩ := headI h K (by omega)
    obtain ⟨K1, hK1⟩ : ∃ K1, K + 1 = K1 := ⟨_, rfl⟩
    obtain ⟨x1, c1, t1, t2⟩ := tailS h K1 (by omega)
    have T := Lib.hid t2.ints
    have U := Lib.hid u2.ints
    have EL : Hid (∀ j, j < K → z j = dpF z (K : Int) j) := Lib.hid (fun j hj => by unfold dpF; rw [Int.toNat_natCast, if_pos hj])
    have EH : Hid (∀ j, j < n - K1 → z (K1 + j) = dpF z (K : Int) (K + j)) := Lib.hid (fun j hj => by unfold dpF; rw [Int.toNat_natCast, if_neg (by omega)]; congr 1; omega)
    obtain ⟨N1, hN1⟩ : ∃ N, n - K1 = N := ⟨_, rfl⟩
    rw [hN1] at t1 T EH
    have hn1 : K + N1 = n - 1 := by omega
    have v1 : (K : Int) + 1 = (K1 : Int) := by omega
    have v2 : IntKind.i64.wrap (K1 : Int) = (K1 : Int) := IntWalk.i64_in _ (by omega)
    have g0 : ¬ ((K : Int) < 0) := by omega
    have g1 : ¬ ((n : Int) ≤ (K : Int)) := by omega
    have B0 := Lib.hid (Below.refl w.heap.size w)
    have B1 := Lib.hid ((Below.refl w.heap.size w).alloc (Nat.le_refl _) (.cells #[.slice (some x0) K cap, .slice (some x1) N1 c1] 27)).drew
    have hcat := concat_all w.heap.size K N1 (.slice (some x0) K cap) (.slice (some x1) N1 c1) z (fun j => z (K1 + j)) (dpF z (K : Int)) (w.alloc (.cells #[.slice (some x0) K cap, .slice (some x1) N1 c1] 27)).drew (by simp) (by simp) (by simp) (U.out.below B1.out) (T.out.below B1.out) (.inr ⟨_, _, rfl⟩) (.inr ⟨_, _, rfl⟩) (by omega) EL.out EH.out
    rw [hn1] at hcat
    have HCAT := Lib.hid hcat
    simp only [if_true]
    clear hcat hn1 hN1 t2 u2 hc h hK T U EL EH hB b1 hs hcap hK1
    go_enter Try.func55, Try.ntmps55
    go_wp2_with fail
    refine (HS.out _ HR.out).mono ?_
    rintro e w' ⟨rfl, rfl⟩
    go_wp2_with fail
    go_region_held3 (fun wx => Below w.heap.size w wx) (first | exact k1 | exact B1.out | exact B0.out.drew) (first
      | (go_at_call 91; refine HCAT.out.mono ?_; rintro e w5 ⟨u, rfl, O5, hb5⟩; have hs5 := B1.out.size; have k1 := below_then B1.out (Nat.le_refl _) hb5; have O6 := O5.mono hs5; clear O5 hb5 hs5))
    go_wp2
    go_ret2
    exact ⟨_, rfl, O6, k1⟩
  · have hB' : dpB n z k = false := by cases e : dpB n z k with | false => rfl | true => exact absurd e hB
    rw [hB']
    have hno : sigB n z = true → ¬ (0 ≤ k ∧ k < (n : Int)) := fun b1 b2 => hB (dp_yes b1 b2.1 b2.2)
    obtain ⟨a, cap, rfl, -⟩ := id h
    cases hS : sigB n z with
    | false =>
      rw [hS] at hs
      have HS := Lib.hid hs
      clear hs hB hB' hno hS h
      go_enter Try.func55, Try.ntmps55
      go_wp2_with fail
      refine (HS.out _ HR.out).mono ?_
      rintro e w' ⟨rfl, rfl⟩
      go_wp2
      go_ret2
      exact ⟨_, rfl, OF.nil _ _ _, Below.refl _ _⟩
    | true =>
      rw [hS] at hs
      have HS := Lib.hid hs
      have hno := hno hS
      clear hs hB hB' hS h
      by_cases g0 : k < 0
      · go_enter Try.func55, Try.ntmps55
        go_wp2_with fail
        refine (HS.out _ HR.out).mono ?_
        rintro e w' ⟨rfl, rfl⟩
        go_wp2
        go_ret2
        exact ⟨_, rfl, OF.nil _ _ _, Below.refl _ _⟩
      · have g1 : (n : Int) ≤ k := by omega
        go_enter Try.func55, Try.ntmps55
        go_wp2_with fail
        refine (HS.out _ HR.out).mono ?_
        rintro e w' ⟨rfl, rfl⟩
        go_wp2
        go_ret2
        exact ⟨_, rfl, OF.nil _ _ _, Below.refl _ _⟩
set_option maxHeartbeats 1600000 in
theorem sDrop_any (v : Value) (n : Nat) (z : Nat → Int) (k : Int) (w : World) (h : IntsC w v n z) (hn : n ≤ 1048576) :
    Calls Try.prog 56 #[v, .int .i64 k] w fun e w' => ∃ u, e = .returned (.tuple #[u, .bool (dpB n z k)]) ∧ OF w' w.heap.size u (dpN n z k) (dpF z k) ∧ Below w.heap.size w w' := by
  have hs := fun w h => sSig_any v n z w h hn
  have HR := Lib.hid h.ints
  unfold dpN
  by_cases hB : dpB n z k = true
  · rw [hB]
    obtain ⟨b1, b2, b3⟩ := (dpB_iff _ _ _).1 hB
    have hn3 := ((sigB_iff _ _).1 b1).2
    rw [b1] at hs
    have HS := Lib.hid hs
    have HI := Lib.hid (fun w => l1In_yes k 0 ((n : Int) - 1) w b2 (by omega))
    obtain ⟨K, rfl⟩ : ∃ K : Nat, k = (K : Int) := ⟨k.toNat, by omega⟩
    have hK : K < n := by omega
    obtain ⟨a, cap, rfl, hcap, hc⟩ := id h
    obtain ⟨x0, rfl, -, -⟩ := hc 0 (by omega)
    obtain ⟨u1, u2⟩ := headI h K (by omega)
    obtain ⟨K1, hK1⟩ : ∃ K1, K + 1 = K1 := ⟨_, rfl⟩
    obtain ⟨x1, c1, t1, t2⟩ := tailS h K1 (by omega)
    have T := Lib.hid t2.ints
    have U := Lib.hid u2.ints
    have EL : Hid (∀ j, j < K → z j = dpF z (K : Int) j) := Lib.hid (fun j hj => by unfold dpF; rw [Int.toNat_natCast, if_pos hj])
    have EH : Hid (∀ j, j < n - K1 → z (K1 + j) = dpF z (K : Int) (K + j)) := Lib.hid (fun j hj => by unfold dpF; rw [Int.toNat_natCast, if_neg (by omega)]; congr 1; omega)
    obtain ⟨N1, hN1⟩ : ∃ N, n - K1 = N := ⟨_, rfl⟩
    rw [hN1] at t1 T EH
    have hn1 : K + N1 = n - 1 := by omega
    have HN := Lib.hid hn1
    have hN3 : N1 ≤ 3000 := by omega
    have hK3 : K ≤ 3000 := by omega
    have v1 : (K : Int) + 1 = (K1 : Int) := by omega
    have v2 : IntKind.i64.wrap (K1 : Int) = (K1 : Int) := IntWalk.i64_in _ (by omega)
    have B1 := Lib.hid ((Below.refl w.heap.size w).alloc (Nat.le_refl _) (.cells #[] 3)).drew
    have O0 : Hid (OF (w.alloc (.cells #[] 3)).drew w.heap.size (.slice (some ⟨w.heap.size, 0, none⟩) 0 0) 0 (dpF z (K : Int))) := Lib.hid ((OF.empty0 w (dpF z (K : Int))).drewN 1)
    have U1 := Lib.hid (U.out.below B1.out)
    simp only [if_true]
    clear hn1 hN1 t2 u2 hc h hK U hB b1 hs hcap hK1
    go_enter Try.func56, Try.ntmps56
    go_wp2_with fail
    refine (HS.out _ HR.out).mono ?_
    rintro e w' ⟨rfl, rfl⟩
    clear HS HR
    go_wp2_with fail
    refine (HI.out _).mono ?_
    rintro e w' ⟨rfl, rfl⟩
    clear HI
    go_wp2_with fail
    go_region_law (first
      | (refine step_append_ints rfl (.tmp 18) (.tmp 21) rfl w.heap.size _ 0 (dpF z (K : Int)) (by simp [Act.eval]) O0.out x0 K cap z (by simp [Act.eval]) U1.out (by omega) B1.out.size (fun v' w' O2 g2 => ?_); have b2 := Lib.hid (B1.out.grown g2 B1.out.size (fun q hq => (O0.out.lt q hq).1)); have O3 := Lib.hid (O2.congr (g := dpF z (K : Int)) (fun j hj => by rw [if_neg (Nat.not_lt_zero j), Nat.sub_zero]; exact EL.out j (by omega))); have T3 := Lib.hid (T.out.below b2.out); clear O2 g2)
      | (refine step_append_ints rfl (.tmp 22) (.tmp 26) rfl w.heap.size _ (0 + K) (dpF z (K : Int)) (by simp [Act.eval]) O3.out x1 N1 c1 (fun j => z (K1 + j)) (by simp [Act.eval]) T3.out (by omega) b2.out.size (fun v3 w3 O4 g4 => ?_); have b4 := Lib.hid (b2.out.grown g4 b2.out.size (fun q hq => (O3.out.lt q hq).1)); have O5 := Lib.hid (O4.congr (g := dpF z (K : Int)) (fun j hj => by split; rfl; rename_i hjj; rw [EH.out (j - (0 + K)) (by omega)]; congr 1; omega)); clear O4 g4))
    all_goals
      go_wp2
      go_ret2
      exact ⟨_, rfl, by have := O5.out; rwa [Nat.zero_add, HN.out] at this, b4.out⟩
  · have hB' : dpB n z k = false := by cases e : dpB n z k with | false => rfl | true => exact absurd e hB
    rw [hB']
    have hno : sigB n z = true → ¬ (0 ≤ k ∧ k < (n : Int)) := fun b1 b2 => hB (dp_yes b1 b2.1 b2.2)
    obtain ⟨a, cap, rfl, -⟩ := id h
    cases hS : sigB n z with
    | false =>
      rw [hS] at hs
      have HS := Lib.hid hs
      clear hs hB hB' hno hS h
      go_enter Try.func56, Try.ntmps56
      go_wp2_with fail
      refine (HS.out _ HR.out).mono ?_
      rintro e w' ⟨rfl, rfl⟩
      go_wp2
      go_ret2
      exact ⟨_, rfl, OF.empty0 w _, (Below.refl _ _).alloc (Nat.le_refl _) _⟩
    | true =>
      rw [hS] at hs
      have HS := Lib.hid hs
      have HI := Lib.hid (fun w => l1In_no k 0 ((n : Int) - 1) w (fun x => hno hS ⟨x.1, by omega⟩))
      clear hs hB hB' hno hS h
      go_enter Try.func56, Try.ntmps56
      go_wp2_with fail
      refine (HS.out _ HR.out).mono ?_
      rintro e w' ⟨rfl, rfl⟩
      go_wp2_with fail
      refine (HI.out _).mono ?_
      rintro e w' ⟨rfl, rfl⟩
      go_wp2
      go_ret2
      exact ⟨_, rfl, OF.empty0 w _, (Below.refl _ _).alloc (Nat.le_refl _) _⟩
end Go.Proofs.Ytmeooebklohdfaa
