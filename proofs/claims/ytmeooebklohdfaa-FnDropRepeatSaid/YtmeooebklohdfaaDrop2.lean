/- RepeatSample of both sides. -/
import Derived.Test.YtmeooebklohdfaaDrop
namespace Go.Proofs.Ytmeooebklohdfaa
open Go.RowKit
set_option linter.unusedVariables false
set_option maxRecDepth 100000
theorem rp_no {n : Nat} {z : Nat → Int} {k : Int} (h : dpB n z k = false) : rpB n z k = false := by unfold rpB; rw [h]; rfl
theorem rp_is {n : Nat} {z : Nat → Int} {k : Int} (h : dpB n z k = true) : rpB n z k = sigB (n + 1) (rpF z k) := by unfold rpB; rw [h]; rfl
theorem rp_res {n : Nat} {z : Nat → Int} {k : Int} (h : dpB n z k = true) : resN (n + 1) (rpF z k) = rpN n z k := by unfold resN rpN; rw [rp_is h]
theorem rpN_no {n : Nat} {z : Nat → Int} {k : Int} (h : dpB n z k = false) : rpN n z k = 0 := by unfold rpN; rw [rp_no h]; rfl
set_option maxHeartbeats 1600000 in
theorem iRep_any (v : Value) (n : Nat) (z : Nat → Int) (k : Int) (w : World) (h : IntsC w v n z) (hn : n ≤ 1048576) :
    Calls Try.prog 53 #[v, .int .i64 k] w fun e w' => ∃ u, e = .returned (.tuple #[u, .bool (rpB n z k)]) ∧ OF w' w.heap.size u (rpN n z k) (rpF z k) ∧ Below w.heap.size w w' := by
  have hs := fun w h => iSig_any v n z w h hn
  have HR := Lib.hid h.ints
  by_cases hB : dpB n z k = true
  · rw [rp_is hB, ← rp_res hB]
    obtain ⟨b1, b2, b3⟩ := (dpB_iff _ _ _).1 hB
    have hn3 := ((sigB_iff _ _).1 b1).2
    rw [b1] at hs
    have HS := Lib.hid hs
    obtain ⟨K, rfl⟩ : ∃ K : Nat, k = (K : Int) := ⟨k.toNat, by omega⟩
    have hK : K < n := by omega
    obtain ⟨a, cap, rfl, hcap, hc⟩ := id h
    obtain ⟨x0, rfl, -, -⟩ := hc 0 (by omega)
    obtain ⟨K1, hK1⟩ : ∃ K1, K + 1 = K1 := ⟨_, rfl⟩
    obtain ⟨u1, u2⟩ := headI h K1 (by omega)
    obtain ⟨x1, c1, t1, t2⟩ := tailS h K (by omega)
    have T := Lib.hid t2.ints
    have U := Lib.hid u2.ints
    have EL : Hid (∀ j, j < K1 → z j = rpF z (K : Int) j) := Lib.hid (fun j hj => by unfold rpF; rw [Int.toNat_natCast, if_pos (by omega)])
    have EH : Hid (∀ j, j < n - K → z (K + j) = rpF z (K : Int) (K1 + j)) := Lib.hid (fun j hj => by
      unfold rpF
      rw [Int.toNat_natCast, if_neg (by omega)]
      congr 1; omega)
    obtain ⟨N1, hN1⟩ : ∃ N, n - K = N := ⟨_, rfl⟩
    rw [hN1] at t1 T EH
    have hn1 : K1 + N1 = n + 1 := by omega
    have v1 : (K : Int) + 1 = (K1 : Int) := by omega
    have v2 : IntKind.i64.wrap (K1 : Int) = (K1 : Int) := IntWalk.i64_in _ (by omega)
    have g0 : ¬ ((K : Int) < 0) := by omega
    have g1 : ¬ ((n : Int) ≤ (K : Int)) := by omega
    have B0 := Lib.hid (Below.refl w.heap.size w)
    have B1 := Lib.hid ((Below.refl w.heap.size w).alloc (Nat.le_refl _) (.cells #[.slice (some x0) K1 cap, .slice (some x1) N1 c1] 27)).drew
    have hcat := concat_all w.heap.size K1 N1 (.slice (some x0) K1 cap) (.slice (some x1) N1 c1) z (fun j => z (K + j)) (rpF z (K : Int)) (w.alloc (.cells #[.slice (some x0) K1 cap, .slice (some x1) N1 c1] 27)).drew (by simp) (by simp) (by simp) (U.out.below B1.out) (T.out.below B1.out) (.inr ⟨_, _, rfl⟩) (.inr ⟨_, _, rfl⟩) (by omega) EL.out EH.out
    rw [hn1] at hcat
    have HCAT := Lib.hid hcat
    have HIF := Lib.hid (fun v B w h => iIf_any v B (n + 1) (rpF z (K : Int)) w h (by omega))
    clear hcat hn1 hN1 t2 u2 hc h hK T U EL EH hB b1 hs hcap hK1
    go_enter Try.func53, Try.ntmps53
    go_wp2_with fail
    refine (HS.out _ HR.out).mono ?_
    rintro e w' ⟨rfl, rfl⟩
    go_wp2_with fail
    go_region_held3 (fun wx => Below w.heap.size w wx) (first | exact k7 | exact k1.drew | exact k1 | exact B1.out | exact B0.out.drew) (first
      | (go_at_call 91; refine HCAT.out.mono ?_; rintro e w5 ⟨u, rfl, O5, hb5⟩; have hs5 := B1.out.size; have k1 := below_then B1.out (Nat.le_refl _) hb5; have O6 := O5.mono hs5; clear O5 hb5 hs5)
      | (go_at_call 79; refine (HIF.out _ _ _ O6).mono ?_; rintro e w7 ⟨u7, rfl, O7, hb7⟩; have k7 := below_then k1 (Nat.le_refl _) hb7))
    go_wp2
    go_ret2
    exact ⟨_, rfl, O7, k7⟩
  · have hB' : dpB n z k = false := by cases e : dpB n z k with | false => rfl | true => exact absurd e hB
    rw [rp_no hB', rpN_no hB']
    have hno : sigB n z = true → ¬ (0 ≤ k ∧ k < (n : Int)) := fun b1 b2 => hB (dp_yes b1 b2.1 b2.2)
    obtain ⟨a, cap, rfl, -⟩ := id h
    cases hS : sigB n z with
    | false =>
      rw [hS] at hs
      have HS := Lib.hid hs
      clear hs hB hB' hno hS h
      go_enter Try.func53, Try.ntmps53
      go_wp2_with fail
      refine (HS.out _ HR.out).mono ?_
      rintro e w' ⟨rfl, rfl⟩
      go_wp2
      go_ret2
      exact ⟨_, rfl, OF.nil _ _ _, Below.refl _ _⟩
    | true =>
      rw [hS] at hs
      have HS := Lib.hid hs
      have hno := hno hS
      clear hs hB hB' hS h
      by_cases g0 : k < 0
      · go_enter Try.func53, Try.ntmps53
        go_wp2_with fail
        refine (HS.out _ HR.out).mono ?_
        rintro e w' ⟨rfl, rfl⟩
        go_wp2
        go_ret2
        exact ⟨_, rfl, OF.nil _ _ _, Below.refl _ _⟩
      · have g1 : (n : Int) ≤ k := by omega
        go_enter Try.func53, Try.ntmps53
        go_wp2_with fail
        refine (HS.out _ HR.out).mono ?_
        rintro e w' ⟨rfl, rfl⟩
        go_wp2
        go_ret2
        exact ⟨_, rfl, OF.nil _ _ _, Below.refl _ _⟩
set_option maxHeartbeats 1600000 in
theorem sRep_any (v : Value) (n : Nat) (z : Nat → Int) (k : Int) (w : World) (h : IntsC w v n z) (hn : n ≤ 1048576) :
    Calls Try.prog 54 #[v, .int .i64 k] w fun e w' => ∃ u, e = .returned (.tuple #[u, .bool (rpB n z k)]) ∧ OF w' w.heap.size u (rpN n z k) (rpF z k) ∧ Below w.heap.size w w' := by
  have hs := fun w h => sSig_any v n z w h hn
  have HR := Lib.hid h.ints
  by_cases hB : dpB n z k = true
  · rw [rp_is hB, ← rp_res hB]
    obtain ⟨b1, b2, b3⟩ := (dpB_iff _ _ _).1 hB
    have hn3 := ((sigB_iff _ _).1 b1).2
    rw [b1] at hs
    have HS := Lib.hid hs
    have HI := Lib.hid (fun w => l1In_yes k 0 ((n : Int) - 1) w b2 (by omega))
    obtain ⟨K, rfl⟩ : ∃ K : Nat, k = (K : Int) := ⟨k.toNat, by omega⟩
    have hK : K < n := by omega
    obtain ⟨a, cap, rfl, hcap, hc⟩ := id h
    obtain ⟨x0, rfl, -, -⟩ := hc 0 (by omega)
    obtain ⟨K1, hK1⟩ : ∃ K1, K + 1 = K1 := ⟨_, rfl⟩
    obtain ⟨u1, u2⟩ := headI h K1 (by omega)
    obtain ⟨x1, c1, t1, t2⟩ := tailS h K (by omega)
    have T := Lib.hid t2.ints
    have U := Lib.hid u2.ints
    have EL : Hid (∀ j, j < K1 → z j = rpF z (K : Int) j) := Lib.hid (fun j hj => by unfold rpF; rw [Int.toNat_natCast, if_pos (by omega)])
    have EH : Hid (∀ j, j < n - K → z (K + j) = rpF z (K : Int) (K1 + j)) := Lib.hid (fun j hj => by
      unfold rpF
      rw [Int.toNat_natCast, if_neg (by omega)]
      congr 1; omega)
    obtain ⟨N1, hN1⟩ : ∃ N, n - K = N := ⟨_, rfl⟩
    rw [hN1] at t1 T EH
    have hn1 : K1 + N1 = n + 1 := by omega
    have HN := Lib.hid hn1
    have hN3 : N1 ≤ 3000 := by omega
    have hK3 : K ≤ 3000 := by omega
    have v1 : (K : Int) + 1 = (K1 : Int) := by omega
    have v2 : IntKind.i64.wrap (K1 : Int) = (K1 : Int) := IntWalk.i64_in _ (by omega)
    have B1 := Lib.hid ((Below.refl w.heap.size w).alloc (Nat.le_refl _) (.cells #[] 3)).drew
    have O0 : Hid (OF (w.alloc (.cells #[] 3)).drew w.heap.size (.slice (some ⟨w.heap.size, 0, none⟩) 0 0) 0 (rpF z (K : Int))) := Lib.hid ((OF.empty0 w (rpF z (K : Int))).drewN 1)
    have U1 := Lib.hid (U.out.below B1.out)
    have HIF := Lib.hid (fun v B w h hB => sIf_any v B (n + 1) (rpF z (K : Int)) w h (by omega) hB)
    clear hn1 hN1 t2 u2 hc h hK U hB b1 hs hcap hK1
    go_enter Try.func54, Try.ntmps54
    go_wp2_with fail
    refine (HS.out _ HR.out).mono ?_
    rintro e w' ⟨rfl, rfl⟩
    clear HS HR
    go_wp2_with fail
    refine (HI.out _).mono ?_
    rintro e w' ⟨rfl, rfl⟩
    clear HI
    go_wp2_with fail
    go_region_law (first
      | (refine step_append_ints rfl (.tmp 18) (.tmp 22) rfl w.heap.size _ 0 (rpF z (K : Int)) (by simp [Act.eval]) O0.out x0 K1 cap z (by simp [Act.eval]) U1.out (by omega) B1.out.size (fun v' w' O2 g2 => ?_); have b2 := Lib.hid (B1.out.grown g2 B1.out.size (fun q hq => (O0.out.lt q hq).1)); have O3 := Lib.hid (O2.congr (g := rpF z (K : Int)) (fun j hj => by rw [if_neg (Nat.not_lt_zero j), Nat.sub_zero]; exact EL.out j (by omega))); have T3 := Lib.hid (T.out.below b2.out); clear O2 g2)
      | (refine step_append_ints rfl (.tmp 23) (.tmp 26) rfl w.heap.size _ (0 + K1) (rpF z (K : Int)) (by simp [Act.eval]) O3.out x1 N1 c1 (fun j => z (K + j)) (by simp [Act.eval]) T3.out (by omega) b2.out.size (fun v3 w3 O4 g4 => ?_); have b4 := Lib.hid (b2.out.grown g4 b2.out.size (fun q hq => (O3.out.lt q hq).1)); have O5 := Lib.hid (O4.congr (g := rpF z (K : Int)) (fun j hj => by split; rfl; rename_i hjj; rw [EH.out (j - (0 + K1)) (by omega)]; congr 1; omega)); clear O4 g4)
      | ((go_simp; go_at_call 93; refine (HIF.out _ w.heap.size _ (by have := O5.out; rw [Nat.zero_add, HN.out] at this; exact this) b4.out.size).mono ?_; rintro e w7 ⟨u7, rfl, O7, hb7⟩; have k7 := below_then b4.out (Nat.le_refl _) hb7)))
    all_goals
      go_wp2
      go_ret2
      exact ⟨_, rfl, O7, k7⟩
  · have hB' : dpB n z k = false := by cases e : dpB n z k with | false => rfl | true => exact absurd e hB
    rw [rp_no hB', rpN_no hB']
    have hno : sigB n z = true → ¬ (0 ≤ k ∧ k < (n : Int)) := fun b1 b2 => hB (dp_yes b1 b2.1 b2.2)
    obtain ⟨a, cap, rfl, -⟩ := id h
    cases hS : sigB n z with
    | false =>
      rw [hS] at hs
      have HS := Lib.hid hs
      clear hs hB hB' hno hS h
      go_enter Try.func54, Try.ntmps54
      go_wp2_with fail
      refine (HS.out _ HR.out).mono ?_
      rintro e w' ⟨rfl, rfl⟩
      go_wp2
      go_ret2
      exact ⟨_, rfl, OF.empty0 w _, (Below.refl _ _).alloc (Nat.le_refl _) _⟩
    | true =>
      rw [hS] at hs
      have HS := Lib.hid hs
      have HI := Lib.hid (fun w => l1In_no k 0 ((n : Int) - 1) w (fun x => hno hS ⟨x.1, by omega⟩))
      clear hs hB hB' hno hS h
      go_enter Try.func54, Try.ntmps54
      go_wp2_with fail
      refine (HS.out _ HR.out).mono ?_
      rintro e w' ⟨rfl, rfl⟩
      go_wp2_with fail
      refine (HI.out _).mono ?_
      rintro e w' ⟨rfl, rfl⟩
      go_wp2
      go_ret2
      exact ⟨_, rfl, OF.empty0 w _, (Below.refl _ _).alloc (Nat.le_refl _) _⟩
end Go.Proofs.Ytmeooebklohdfaa
