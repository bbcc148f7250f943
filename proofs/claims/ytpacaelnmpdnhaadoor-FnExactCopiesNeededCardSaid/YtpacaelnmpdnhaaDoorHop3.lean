/- Hops that begin later: laterHops, ShiftHops of both sides. -/
import Derived.Test.YtpacaelnmpdnhaaDoorHop2
import Derived.Test.YtpacaelnmpdnhaaDoorApp
namespace Go.Proofs.YtpacaelnmpdnhaaDoor
open Go.RowKit
set_option linter.unusedVariables false
set_option maxRecDepth 100000
/-- n hops, from the index k on. -/
def shF (n : Nat) (z : Nat → Int) (k : Int) (i : Nat) : Int := z ((i + modN k n) % n)
def someB (n : Nat) (z : Nat → Int) : Bool := decide (0 < n) && hopB n z 16
theorem someB_iff (n : Nat) (z : Nat → Int) : someB n z = true ↔ 0 < n ∧ n ≤ 300 ∧ ∀ k, k < n → 0 ≤ z k ∧ z k < 16 := by
  unfold someB
  simp only [Bool.and_eq_true, decide_eq_true_eq, hopB_iff]
  constructor
  · exact fun h => ⟨h.1, h.2.2⟩
  · exact fun h => ⟨h.1, by omega, h.2⟩
def shN (n : Nat) (z : Nat → Int) : Nat := if someB n z then n else 0
theorem shN_le6 (n : Nat) (z : Nat → Int) : shN n z ≤ 1000000 := by
  unfold shN
  split
  · rename_i h
    have := (someB_iff _ _).1 h
    omega
  · omega
theorem shF_lo {n : Nat} {z : Nat → Int} {k : Int} {K j : Nat} (hk : modN k n = K) (hK : K < n) (hj : j < n - K) : z (K + j) = shF n z k j := by
  unfold shF; rw [hk, Nat.mod_eq_of_lt (by omega), Nat.add_comm]
theorem shF_hi {n : Nat} {z : Nat → Int} {k : Int} {K j : Nat} (hk : modN k n = K) (hK : K < n) (hj : j < K) : z j = shF n z k (n - K + j) := by
  unfold shF; rw [hk, show n - K + j + K = j + n by omega, Nat.add_mod_right, Nat.mod_eq_of_lt (by omega)]
set_option maxHeartbeats 1600000 in
theorem later_any (v : Value) (n : Nat) (z : Nat → Int) (k : Int) (w : World) (h : IntsC w v n z) (h0 : 0 < n) (hn : n ≤ 300) :
    Calls Tryd.prog 49 #[v, .int .i64 k] w fun e w' => ∃ u, e = .returned u ∧ OF w' w.heap.size u n (shF n z k) ∧ Below w.heap.size w w' := by
  have HM := Lib.hid (fun w => modulo_hop k n w (by omega) (by omega))
  have hK : modN k n < n := modN_lt k n (by omega)
  obtain ⟨K, hk⟩ : ∃ K, modN k n = K := ⟨_, rfl⟩
  rw [hk] at hK HM
  obtain ⟨a1, c1, t1, t2⟩ := tailC h K (by omega)
  obtain ⟨a, cap, rfl, hcap, hc⟩ := id h
  obtain ⟨u1, u2⟩ := headI h K (by omega)
  obtain ⟨x0, rfl, -, -⟩ := hc 0 h0
  have hx1 : ∃ x, a1 = some x := by
    obtain ⟨a', cap', e, _, hc'⟩ := t2
    obtain ⟨x, hx, _⟩ := hc' 0 (by omega)
    injection e with e1 e2 e3
    exact ⟨x, e1.trans hx⟩
  obtain ⟨x1, rfl⟩ := hx1
  have T := Lib.hid t2.ints
  have U := Lib.hid u2.ints
  have EL := Lib.hid (fun j (hj : j < n - K) => shF_lo (z := z) hk hK hj)
  have EH := Lib.hid (fun j (hj : j < K) => shF_hi (z := z) hk hK hj)
  have HK := Lib.hid hK
  obtain ⟨N1, hN1⟩ : ∃ N, n - K = N := ⟨_, rfl⟩
  rw [hN1] at t1 T EL EH
  have HN := Lib.hid hN1
  have hn1 : N1 + K = n := by have := HN.out; have := HK.out; omega
  have B0 := Lib.hid (Below.refl w.heap.size w)
  have B1 := Lib.hid ((Below.refl w.heap.size w).alloc (Nat.le_refl _) (.cells #[.slice (some x1) N1 c1, .slice (some x0) K cap] 31)).drew
  have hcat := concat_any w.heap.size N1 K (.slice (some x1) N1 c1) (.slice (some x0) K cap) (fun j => z (K + j)) z (shF n z k) (w.alloc (.cells #[.slice (some x1) N1 c1, .slice (some x0) K cap] 31)).drew (by simp) (by simp) (by simp) (T.out.below B1.out) (U.out.below B1.out) (.inr ⟨_, _, rfl⟩) (.inr ⟨_, _, rfl⟩) (by omega) (by omega) EL.out EH.out
  rw [hn1] at hcat
  have HCAT := Lib.hid hcat
  clear hcat hn1 hN1 t2 u2 hc hk h hK T U EL EH HN HK
  go_enter Tryd.func49, Tryd.ntmps49
  go_wp2_with fail
  refine (HM.out _).mono ?_
  rintro e w' ⟨rfl, rfl⟩
  go_wp2_with fail
  go_region_held3 (fun wx => Below w.heap.size w wx) (first | exact k1 | exact B1.out | exact B0.out.drew) (first
    | (go_at_call 69; refine HCAT.out.mono ?_; rintro e w5 ⟨u, rfl, O5, hb5⟩; have hs5 := B1.out.size; have k1 := below_then B1.out (Nat.le_refl _) hb5; have O6 := O5.mono hs5; clear O5 hb5 hs5))
  go_wp2
  go_ret
  exact ⟨_, rfl, O6, k1⟩
theorem iSome_any (v : Value) (n : Nat) (z : Nat → Int) (w : World) (h : IntsR w v n z) (hn : n ≤ 1048576) :
    Calls Tryd.prog 48 #[v] w fun e w' => e = .returned (.bool (someB n z)) ∧ w = w' := by
  have hv := fun w h => iHops_any v n z 16 w h hn
  have HR := Lib.hid h
  obtain ⟨a, cap, rfl, -⟩ := h
  by_cases h0 : 0 < n
  · have HV := Lib.hid hv
    have l0 : (0 : Int) < (n : Int) := by omega
    have HE := Lib.hid (show hopB n z 16 = someB n z by unfold someB; rw [decide_eq_true h0, Bool.true_and])
    clear hv
    go_enter Tryd.func48, Tryd.ntmps48
    go_wp2_with fail
    refine (HV.out _ HR.out).mono ?_
    rintro e w' ⟨rfl, rfl⟩
    go_wp2
    go_ret
    exact ⟨ret_bool HE.out, rfl⟩
  · have l0 : ¬ ((0 : Int) < (n : Int)) := by omega
    have HE := Lib.hid (show false = someB n z by unfold someB; rw [decide_eq_false h0, Bool.false_and])
    clear hv
    go_enter Tryd.func48, Tryd.ntmps48
    go_wp2
    go_ret
    exact ⟨ret_bool HE.out, rfl⟩
theorem iShift_any (v : Value) (n : Nat) (z : Nat → Int) (k : Int) (w : World) (h : IntsC w v n z) (hn : n ≤ 1048576) :
    Calls Tryd.prog 28 #[v, .int .i64 k] w fun e w' => ∃ u, e = .returned (.tuple #[u, .bool (someB n z)]) ∧ OF w' w.heap.size u (shN n z) (shF n z k) ∧ Below w.heap.size w w' := by
  have hs := fun w h => iSome_any v n z w h hn
  have HR := Lib.hid h.ints
  unfold shN
  cases hB : someB n z with
  | false =>
    rw [hB] at hs
    have HS := Lib.hid hs
    clear hs hB h
    go_enter Tryd.func28, Tryd.ntmps28
    go_wp2_with fail
    refine (HS.out _ HR.out).mono ?_
    rintro e w' ⟨rfl, rfl⟩
    go_wp2
    go_ret2
    exact ⟨_, rfl, OF.nil _ _ _, Below.refl _ _⟩
  | true =>
    rw [hB] at hs
    obtain ⟨b1, b2, -⟩ := (someB_iff n z).1 hB
    have HS := Lib.hid hs
    have HL := Lib.hid (later_any v n z k w h b1 b2)
    clear hs hB h
    simp only [if_true]
    go_enter Tryd.func28, Tryd.ntmps28
    go_wp2_with fail
    refine (HS.out _ HR.out).mono ?_
    rintro e w' ⟨rfl, rfl⟩
    go_wp2_with fail
    refine HL.out.mono ?_
    rintro e w1 ⟨u, rfl, O1, b⟩
    go_wp2
    go_ret2
    exact ⟨_, rfl, O1, b⟩
end Go.Proofs.YtpacaelnmpdnhaaDoor
