/- Hops that begin later: laterHops, ShiftHops of both sides. -/
import Derived.Test.YtbllmgdnhjdphacHop2
import Derived.Test.YtbllmgdnhjdphacCat
namespace Go.Proofs.Ytbllmgdnhjdphac
open Go.RowKit
set_option linter.unusedVariables false
set_option maxRecDepth 100000
/-- n hops, from the index k on. -/
def shF (n : Nat) (z : Nat → Int) (k : Int) (i : Nat) : Int := z ((i + modN k n) % n)
def someB (n : Nat) (z : Nat → Int) : Bool := decide (0 < n) && hopB n z 16
theorem someB_iff (n : Nat) (z : Nat → Int) : someB n z = true ↔ 0 < n ∧ n ≤ 300 ∧ ∀ k, k < n → 0 ≤ z k ∧ z k < 16 := by
  unfold someB
  simp only [Bool.and_eq_true, decide_eq_true_eq, hopB_iff]
  constructor
  · exact fun h => ⟨h.1, h.2.2⟩
  · exact fun h => ⟨h.1, by omega, h.2⟩
def shN (n : Nat) (z : Nat → Int) : Nat := if someB n z then n else 0
theorem shN_le6 (n : Nat) (z : Nat → Int) : shN n z ≤ 1000000 := by
  unfold shN
  split
  · rename_i h
    have := (someB_iff _ _).1 h
    omega
  · omega
theorem shF_lo {n : Nat} {z : Nat → Int} {k : Int} {K j : Nat} (hk : modN k n = K) (hK : K < n) (hj : j < n - K) : z (K + j) = shF n z k j := by
  unfold shF; rw [hk, Nat.mod_eq_of_lt (by omega), Nat.add_comm]
theorem shF_hi {n : Nat} {z : Nat → Int} {k : Int} {K j : Nat} (hk : modN k n = K) (hK : K < n) (hj : j < K) : z j = shF n z k (n - K + j) := by
  unfold shF; rw [hk, show n - K + j + K = j + n by omega, Nat.add_mod_right, Nat.mod_eq_of_lt (by omega)]
set_option maxHeartbeats 1600000 in
theorem later_any (v : Value) (n : Nat) (z : Nat → Int) (k : Int) (w : World) (h : IntsC w v n z) (h0 : 0 < n) (hn : n ≤ 300) :
    Calls Try.prog 35 #[v, .int .i64 k] w fun e w' => ∃ u, e = .returned u ∧ OF w' w.heap.size u n (shF n z k) ∧ Below w.heap.size w w' := by
  have HM := Lib.hid (fun w => modulo_hop k n w (by omega) (by omega))
  have hK : modN k n < n := modN_lt k n (by omega)
  obtain ⟨K, hk⟩ : ∃ K, modN k n = K := ⟨_, rfl⟩
  rw [hk] at hK HM
  obtain ⟨a1, c1, t1, t2⟩ := tailC h K (by omega)
  obtain ⟨a, cap, rfl, hcap, hc⟩ := id h
  obtain ⟨u1, u2⟩ := headI h K (by omega)
  obtain ⟨x0, rfl, -, -⟩ := hc 0 h0
  have hx1 : ∃ x, a1 = some x := by
    obtain ⟨a', cap', e, _, hc'⟩ := t2
    obtain ⟨x, hx, _⟩ := hc' 0 (by omega)
    injection e with e1 e2 e3
    exact ⟨x, e1.trans hx⟩
  obtain ⟨x1, rfl⟩ := hx1
  have T := Lib.hid t2.ints
  have U := Lib.hid u2.ints
  have EL := Lib.hid (fun j (hj : j < n - K) => shF_lo (z := z) hk hK hj)
  have EH := Lib.hid (fun j (hj : j < K) => shF_hi (z := z) hk hK hj)
  have HK := Lib.hid hK
  obtain ⟨N1, hN1⟩ : ∃ N, n - K = N := ⟨_, rfl⟩
  rw [hN1] at t1 T EL EH
  have HN := Lib.hid hN1
  have hn1 : N1 + K = n := by have := HN.out; have := HK.out; omega
  have B0 := Lib.hid (Below.refl w.heap.size w)
  have B1 := Lib.hid ((Below.refl w.heap.size w).alloc (Nat.le_refl _) (.cells #[.slice (some x1) N1 c1, .slice (some x0) K cap] 26)).drew
  have hcat := concat_any w.heap.size N1 K (.slice (some x1) N1 c1) (.slice (some x0) K cap) (fun j => z (K + j)) z (shF n z k) (w.alloc (.cells #[.slice (some x1) N1 c1, .slice (some x0) K cap] 26)).drew (by simp) (by simp) (by simp) (T.out.below B1.out) (U.out.below B1.out) (.inr ⟨_, _, rfl⟩) (.inr ⟨_, _, rfl⟩) (by omega) (by omega) EL.out EH.out
  rw [hn1] at hcat
  have HCAT := Lib.hid hcat
  clear hcat hn1 hN1 t2 u2 hc hk h hK T U EL EH HN HK
  go_enter Try.func35, Try.ntmps35
  go_wp2_with fail
  refine (HM.out _).mono ?_
  rintro e w' ⟨rfl, rfl⟩
  go_wp2_with fail
  go_region_held3 (fun wx => Below w.heap.size w wx) (first | exact k1 | exact B1.out | exact B0.out.drew) (first
    | (go_at_call 64; refine HCAT.out.mono ?_; rintro e w5 ⟨u, rfl, O5, hb5⟩; have hs5 := B1.out.size; have k1 := below_then B1.out (Nat.le_refl _) hb5; have O6 := O5.mono hs5; clear O5 hb5 hs5))
  go_wp2
  go_ret
  exact ⟨_, rfl, O6, k1⟩
theorem iSome_any (v : Value) (n : Nat) (z : Nat → Int) (w : World) (h : IntsR w v n z) (hn : n ≤ 1048576) :
    Calls Try.prog 63 #[v] w fun e w' => e = .returned (.bool (someB n z)) ∧ w = w' := by
  have hv := fun w h => iHops_any v n z 16 w h hn
  have HR := Lib.hid h
  obtain ⟨a, cap, rfl, -⟩ := h
  by_cases h0 : 0 < n
  · have HV := Lib.hid hv
    have l0 : (0 : Int) < (n : Int) := by omega
    have HE := Lib.hid (show hopB n z 16 = someB n z by unfold someB; rw [decide_eq_true h0, Bool.true_and])
    clear hv
    go_enter Try.func63, Try.ntmps63
    go_wp2_with fail
    refine (HV.out _ HR.out).mono ?_
    rintro e w' ⟨rfl, rfl⟩
    go_wp2
    go_ret
    exact ⟨ret_bool HE.out, rfl⟩
  · have l0 : ¬ ((0 : Int) < (n : Int)) := by omega
    have HE := Lib.hid (show false = someB n z by unfold someB; rw [decide_eq_false h0, Bool.false_and])
    clear hv
    go_enter Try.func63, Try.ntmps63
    go_wp2
    go_ret
    exact ⟨ret_bool HE.out, rfl⟩
theorem step_append_ints {w : World} {ops : Array Oper} {o : Oper} {a : Act} {K : Act → World → Prop} {Q : Exit → Act → World → Prop} {E : Prop} (hgd : o.guard = none) (s x : Operand)
    (ho : o.op = .call { callee := .builtin .append, args := #[s, x], argTypes := #[26, 26] }) (B : Nat) (v : Value) (n : Nat) (f : Nat → Int) (hs : a.eval s = v) (hown : OF w B v n f)
    (ad : Addr) (m c : Nat) (g : Nat → Int) (hx : a.eval x = .slice (some ad) m c) (hu : IntsR w (.slice (some ad) m c) m g) (hn : n + m ≤ 1000000) (hB : B ≤ w.heap.size)
    (h : ∀ v' w', OF w' B v' (n + m) (fun j => if j < n then f j else g (j - n)) → w.grownBy w' v.ownBlock → K (a.put o.dst v') w') :
    if Region.wanted o (yielded ops a.tmps) = true then Oper.wp Try.prog o a w K Q else E := by
  have hw : Region.wanted o (yielded ops a.tmps) = true := by simp [Region.wanted, hgd]
  rw [if_pos hw]
  obtain ⟨i0, hi, hzz⟩ := Option.map_eq_some_iff.1 ints_info
  simp only [Prod.mk.injEq] at hzz
  obtain ⟨hz, hsz, hby⟩ := hzz
  have e : ((List.range (n + m)).map fun j => Value.int .i64 (if j < n then f j else g (j - n))) = ((List.range n).map fun j => Value.int .i64 (f j)) ++ ((List.range m).map fun j => Value.int .i64 (g j)) := by
    apply List.ext_getElem (by simp)
    intro j h1 h2
    simp at h1
    by_cases hj : j < n
    · rw [List.getElem_append_left (by simpa using hj)]; simp [hj]
    · rw [List.getElem_append_right (by simp; omega)]; simp [hj]
  obtain ⟨a', c', e1, hc⟩ := hu
  injection e1 with e1 _ _
  subst e1
  refine wp_append_own w s x 26 ho B 3 i0 (.int .i64 0) 1 8 (by kernel_rfl) hi hz hsz hby rfl (by decide) v n _ hs hown ad m c ((List.range m).map fun j => Value.int .i64 (g j)) hx (by simp) ?_ ?_ ?_ ?_ hB ?_
  · intro j y hj
    rw [List.getElem?_map] at hj
    by_cases hjm : j < m
    · rw [List.getElem?_range hjm] at hj
      simp at hj
      subst hj
      obtain ⟨x', e2, _, h3⟩ := hc j hjm
      injection e2 with e2
      subst e2
      exact h3
    · rw [List.getElem?_eq_none (by simp; omega)] at hj
      simp at hj
  · intro y hy
    simp at hy
    obtain ⟨j, _, rfl⟩ := hy
    rfl
  · unfold maxLen; omega
  · omega
  · intro v' w' h1 h2 _
    refine h v' w' ?_ h2
    unfold OF
    rw [e]; exact h1
end Go.Proofs.Ytbllmgdnhjdphac
