/- Hops that begin later: laterHops, ShiftHops of both sides. -/
import Derived.Test.YtbllmgdnhjdphabHop2
import Derived.Test.YtbllmgdnhjdphabCat
namespace Go.Proofs.Ytbllmgdnhjdphab
open Go.RowKit
set_option linter.unusedVariables false
set_option maxRecDepth 100000
/-- n hops, from the index k on. -/
def shF (n : Nat) (z : Nat → Int) (k : Int) (i : Nat) : Int := z ((i + modN k n) % n)
def someB (n : Nat) (z : Nat → Int) : Bool := decide (0 < n) && hopB n z 16
theorem someB_iff (n : Nat) (z : Nat → Int) : someB n z = true ↔ 0 < n ∧ n ≤ 300 ∧ ∀ k, k < n → 0 ≤ z k ∧ z k < 16 := by
  unfold someB
  simp only [Bool.and_eq_true, decide_eq_true_eq, hopB_iff]
  constructor
  · exact fun h => ⟨h.1, h.2.2⟩
  · exact fun h => ⟨h.1, by omega, h.2⟩
def shN (n : Nat) (z : Nat → Int) : Nat := if someB n z then n else 0
theorem shN_le6 (n : Nat) (z : Nat → Int) : shN n z ≤ 1000000 := by
  unfold shN
  split
  · rename_i h
    have := (someB_iff _ _).1 h
    omega
  · omega
theorem shF_lo {n : Nat} {z : Nat → Int} {k : Int} {K j : Nat} (hk : modN k n = K) (hK : K < n) (hj : j < n - K) : z (K + j) = shF n z k j := by
  unfold shF; rw [hk, Nat.mod_eq_of_lt (by omega), Nat.add_comm]
theorem shF_hi {n : Nat} {z : Nat → Int} {k : Int} {K j : Nat} (hk : modN k n = K) (hK : K < n) (hj : j < K) : z j = shF n z k (n - K + j) := by
  unfold shF; rw [hk, show n - K + j + K = j + n by omega, Nat.add_mod_right, Nat.mod_eq_of_lt (by omega)]
set_option maxHeartbeats 1600000 in
theorem later_any (v : Value) (n : Nat) (z : Nat → Int) (k : Int) (w : World) (h : IntsC w v n z) (h0 : 0 < n) (hn : n ≤ 300) :
    Calls Try.prog 66 #[v, .int .i64 k] w fun e w' => ∃ u, e = .returned u ∧ OF w' w.heap.size u n (shF n z k) ∧ Below w.heap.size w w' := by
  have HM := Lib.hid (fun w => modulo_hop k n w (by omega) (by omega))
  have hK : modN k n < n := modN_lt k n (by omega)
  obtain ⟨K, hk⟩ : ∃ K, modN k n = K := ⟨_, rfl⟩
  rw [hk] at hK HM
  obtain ⟨a1, c1, t1, t2⟩ := tailC h K (by omega)
  obtain ⟨a, cap, rfl, hcap, hc⟩ := id h
  obtain ⟨u1, u2⟩ := headI h K (by omega)
  obtain ⟨x0, rfl, -, -⟩ := hc 0 h0
  have hx1 : ∃ x, a1 = some x := by
    obtain ⟨a', cap', e, _, hc'⟩ := t2
    obtain ⟨x, hx, _⟩ := hc' 0 (by omega)
    injection e with e1 e2 e3
    exact ⟨x, e1.trans hx⟩
  obtain ⟨x1, rfl⟩ := hx1
  have T := Lib.hid t2.ints
  have U := Lib.hid u2.ints
  have EL := Lib.hid (fun j (hj : j < n - K) => shF_lo (z := z) hk hK hj)
  have EH := Lib.hid (fun j (hj : j < K) => shF_hi (z := z) hk hK hj)
  have HK := Lib.hid hK
  obtain ⟨N1, hN1⟩ : ∃ N, n - K = N := ⟨_, rfl⟩
  rw [hN1] at t1 T EL EH
  have HN := Lib.hid hN1
  have hn1 : N1 + K = n := by have := HN.out; have := HK.out; omega
  have B0 := Lib.hid (Below.refl w.heap.size w)
  have B1 := Lib.hid ((Below.refl w.heap.size w).alloc (Nat.le_refl _) (.cells #[.slice (some x1) N1 c1, .slice (some x0) K cap] 22)).drew
  have hcat := concat_any w.heap.size N1 K (.slice (some x1) N1 c1) (.slice (some x0) K cap) (fun j => z (K + j)) z (shF n z k) (w.alloc (.cells #[.slice (some x1) N1 c1, .slice (some x0) K cap] 22)).drew (by simp) (by simp) (by simp) (T.out.below B1.out) (U.out.below B1.out) (.inr ⟨_, _, rfl⟩) (.inr ⟨_, _, rfl⟩) (by omega) (by omega) EL.out EH.out
  rw [hn1] at hcat
  have HCAT := Lib.hid hcat
  clear hcat hn1 hN1 t2 u2 hc hk h hK T U EL EH HN HK
  go_enter Try.func66, Try.ntmps66
  go_wp2_with fail
  refine (HM.out _).mono ?_
  rintro e w' ⟨rfl, rfl⟩
  go_wp2_with fail
  go_region_held3 (fun wx => Below w.heap.size w wx) (first | exact k1 | exact B1.out | exact B0.out.drew) (first
    | (go_at_call 87; refine HCAT.out.mono ?_; rintro e w5 ⟨u, rfl, O5, hb5⟩; have hs5 := B1.out.size; have k1 := below_then B1.out (Nat.le_refl _) hb5; have O6 := O5.mono hs5; clear O5 hb5 hs5))
  go_wp2
  go_ret
  exact ⟨_, rfl, O6, k1⟩
theorem iSome_any (v : Value) (n : Nat) (z : Nat → Int) (w : World) (h : IntsR w v n z) (hn : n ≤ 1048576) :
    Calls Try.prog 70 #[v] w fun e w' => e = .returned (.bool (someB n z)) ∧ w = w' := by
  have hv := fun w h => iHops_any v n z 16 w h hn
  have HR := Lib.hid h
  obtain ⟨a, cap, rfl, -⟩ := h
  by_cases h0 : 0 < n
  · have HV := Lib.hid hv
    have l0 : (0 : Int) < (n : Int) := by omega
    have HE := Lib.hid (show hopB n z 16 = someB n z by unfold someB; rw [decide_eq_true h0, Bool.true_and])
    clear hv
    go_enter Try.func70, Try.ntmps70
    go_wp2_with fail
    refine (HV.out _ HR.out).mono ?_
    rintro e w' ⟨rfl, rfl⟩
    go_wp2
    go_ret
    exact ⟨ret_bool HE.out, rfl⟩
  · have l0 : ¬ ((0 : Int) < (n : Int)) := by omega
    have HE := Lib.hid (show false = someB n z by unfold someB; rw [decide_eq_false h0, Bool.false_and])
    clear hv
    go_enter Try.func70, Try.ntmps70
    go_wp2
    go_ret
    exact ⟨ret_bool HE.out, rfl⟩
theorem iShift_any (v : Value) (n : Nat) (z : Nat → Int) (k : Int) (w : World) (h : IntsC w v n z) (hn : n ≤ 1048576) :
    Calls Try.prog 29 #[v, .int .i64 k] w fun e w' => ∃ u, e = .returned (.tuple #[u, .bool (someB n z)]) ∧ OF w' w.heap.size u (shN n z) (shF n z k) ∧ Below w.heap.size w w' := by
  have hs := fun w h => iSome_any v n z w h hn
  have HR := Lib.hid h.ints
  unfold shN
  cases hB : someB n z with
  | false =>
    rw [hB] at hs
    have HS := Lib.hid hs
    clear hs hB h
    go_enter Try.func29, Try.ntmps29
    go_wp2_with fail
    refine (HS.out _ HR.out).mono ?_
    rintro e w' ⟨rfl, rfl⟩
    go_wp2
    go_ret2
    exact ⟨_, rfl, OF.nil _ _ _, Below.refl _ _⟩
  | true =>
    rw [hB] at hs
    obtain ⟨b1, b2, -⟩ := (someB_iff n z).1 hB
    have HS := Lib.hid hs
    have HL := Lib.hid (later_any v n z k w h b1 b2)
    clear hs hB h
    simp only [if_true]
    go_enter Try.func29, Try.ntmps29
    go_wp2_with fail
    refine (HS.out _ HR.out).mono ?_
    rintro e w' ⟨rfl, rfl⟩
    go_wp2_with fail
    refine HL.out.mono ?_
    rintro e w1 ⟨u, rfl, O1, b⟩
    go_wp2
    go_ret2
    exact ⟨_, rfl, O1, b⟩
theorem step_append_ints {w : World} {ops : Array Oper} {o : Oper} {a : Act} {K : Act → World → Prop} {Q : Exit → Act → World → Prop} {E : Prop} (hgd : o.guard = none) (s x : Operand)
    (ho : o.op = .call { callee := .builtin .append, args := #[s, x], argTypes := #[22, 22] }) (B : Nat) (v : Value) (n : Nat) (f : Nat → Int) (hs : a.eval s = v) (hown : OF w B v n f)
    (ad : Addr) (m c : Nat) (g : Nat → Int) (hx : a.eval x = .slice (some ad) m c) (hu : IntsR w (.slice (some ad) m c) m g) (hn : n + m ≤ 1000000) (hB : B ≤ w.heap.size)
    (h : ∀ v' w', OF w' B v' (n + m) (fun j => if j < n then f j else g (j - n)) → w.grownBy w' v.ownBlock → K (a.put o.dst v') w') :
    if Region.wanted o (yielded ops a.tmps) = true then Oper.wp Try.prog o a w K Q else E := by
  have hw : Region.wanted o (yielded ops a.tmps) = true := by simp [Region.wanted, hgd]
  rw [if_pos hw]
  obtain ⟨i0, hi, hzz⟩ := Option.map_eq_some_iff.1 ints_info
  simp only [Prod.mk.injEq] at hzz
  obtain ⟨hz, hsz, hby⟩ := hzz
  have e : ((List.range (n + m)).map fun j => Value.int .i64 (if j < n then f j else g (j - n))) = ((List.range n).map fun j => Value.int .i64 (f j)) ++ ((List.range m).map fun j => Value.int .i64 (g j)) := by
    apply List.ext_getElem (by simp)
    intro j h1 h2
    simp at h1
    by_cases hj : j < n
    · rw [List.getElem_append_left (by simpa using hj)]; simp [hj]
    · rw [List.getElem_append_right (by simp; omega)]; simp [hj]
  obtain ⟨a', c', e1, hc⟩ := hu
  injection e1 with e1 _ _
  subst e1
  refine wp_append_own w s x 22 ho B 3 i0 (.int .i64 0) 1 8 (by kernel_rfl) hi hz hsz hby rfl (by decide) v n _ hs hown ad m c ((List.range m).map fun j => Value.int .i64 (g j)) hx (by simp) ?_ ?_ ?_ ?_ hB ?_
  · intro j y hj
    rw [List.getElem?_map] at hj
    by_cases hjm : j < m
    · rw [List.getElem?_range hjm] at hj
      simp at hj
      subst hj
      obtain ⟨x', e2, _, h3⟩ := hc j hjm
      injection e2 with e2
      subst e2
      exact h3
    · rw [List.getElem?_eq_none (by simp; omega)] at hj
      simp at hj
  · intro y hy
    simp at hy
    obtain ⟨j, _, rfl⟩ := hy
    rfl
  · unfold maxLen; omega
  · omega
  · intro v' w' h1 h2 _
    refine h v' w' ?_ h2
    unfold OF
    rw [e]; exact h1
set_option maxHeartbeats 1600000 in
theorem sShift_any (v : Value) (n : Nat) (z : Nat → Int) (k : Int) (w : World) (h : IntsC w v n z) (hn : n ≤ 1048576) :
    Calls Try.prog 30 #[v, .int .i64 k] w fun e w' => ∃ u, e = .returned (.tuple #[u, .bool (someB n z)]) ∧ OF w' w.heap.size u (shN n z) (shF n z k) ∧ Below w.heap.size w w' := by
  have hs := fun w h => sHops16_any v n z w h hn
  have HR := Lib.hid h.ints
  unfold shN
  have hB : someB n z = (decide (0 < n) && hopB n z 16) := rfl
  cases hH : hopB n z 16 with
  | false =>
    rw [hH, Bool.and_false] at hB
    rw [hB]
    rw [hH] at hs
    have HS := Lib.hid hs
    clear hs hB hH h
    go_enter Try.func30, Try.ntmps30
    go_wp2_with fail
    refine (HS.out _ HR.out).mono ?_
    rintro e w' ⟨rfl, rfl⟩
    go_wp2
    go_ret2
    exact ⟨_, rfl, OF.empty0 w _, (Below.refl _ _).alloc (Nat.le_refl _) _⟩
  | true =>
    rw [hH, Bool.and_true] at hB
    rw [hH] at hs
    have HS := Lib.hid hs
    by_cases h0 : 0 < n
    · rw [decide_eq_true h0] at hB
      rw [hB]
      obtain ⟨-, hn3, -⟩ := (hopB_iff n z 16).1 hH
      have HM := Lib.hid (fun w => l2Mod_hop k n w (by omega) (by omega))
      have hK : modN k n < n := modN_lt k n (by omega)
      obtain ⟨K, hk⟩ : ∃ K, modN k n = K := ⟨_, rfl⟩
      rw [hk] at hK HM
      obtain ⟨a1, c1, t1, t2⟩ := tailC h K (by omega)
      obtain ⟨a, cap, rfl, hcap, hc⟩ := id h
      obtain ⟨u1, u2⟩ := headI h K (by omega)
      obtain ⟨x0, rfl, -, -⟩ := hc 0 h0
      have hx1 : ∃ x, a1 = some x := by
        obtain ⟨a', cap', e, _, hc'⟩ := t2
        obtain ⟨x, hx, _⟩ := hc' 0 (by omega)
        injection e with e1 e2 e3
        exact ⟨x, e1.trans hx⟩
      obtain ⟨x1, rfl⟩ := hx1
      have T := Lib.hid t2.ints
      have U := Lib.hid u2.ints
      have EL := Lib.hid (fun j (hj : j < n - K) => shF_lo (z := z) hk hK hj)
      have EH := Lib.hid (fun j (hj : j < K) => shF_hi (z := z) hk hK hj)
      have HK := Lib.hid hK
      obtain ⟨N1, hN1⟩ : ∃ N, n - K = N := ⟨_, rfl⟩
      rw [hN1] at t1 T EL EH
      have hn1 : N1 + K = n := by have := HK.out; omega
      have HN := Lib.hid hn1
      have hN3 : N1 ≤ 300 := by omega
      have hK3 : K ≤ 300 := by omega
      have l0 : ¬ ((n : Int) = 0) := by omega
      have l1 : ((n : Int) == 0) = false := by simp; omega
      have B1 := Lib.hid ((Below.refl w.heap.size w).alloc (Nat.le_refl _) (.cells #[] 3)).drew
      have O0 : Hid (OF (w.alloc (.cells #[] 3)).drew w.heap.size (.slice (some ⟨w.heap.size, 0, none⟩) 0 0) 0 (shF n z k)) := Lib.hid ((OF.empty0 w (shF n z k)).drewN 1)
      have T1 := Lib.hid (T.out.below B1.out)
      simp only [if_true]
      clear hN1 t2 u2 hc hk h hK hn1 hs hB hH
      go_enter Try.func30, Try.ntmps30
      go_wp2_with fail
      refine (HS.out _ HR.out).mono ?_
      rintro e w' ⟨rfl, rfl⟩
      clear HS HR
      go_wp2_with fail
      refine (HM.out _).mono ?_
      rintro e w' ⟨rfl, rfl⟩
      clear HM
      go_wp2_with fail
      go_region_law (first
        | (refine step_append_ints rfl (.tmp 19) (.tmp 22) rfl w.heap.size _ 0 (shF n z k) (by simp [Act.eval]) O0.out x1 N1 c1 (fun j => z (K + j)) (by simp [Act.eval]) T1.out (by omega) B1.out.size (fun v' w' O2 g2 => ?_); have b2 := Lib.hid (B1.out.grown g2 B1.out.size (fun q hq => (O0.out.lt q hq).1)); have O3 := Lib.hid (O2.congr (g := shF n z k) (fun j hj => by rw [if_neg (Nat.not_lt_zero j), Nat.sub_zero]; exact EL.out j (by omega))); have U3 := Lib.hid (U.out.below b2.out); clear O2 g2)
        | (refine step_append_ints rfl (.tmp 23) (.tmp 26) rfl w.heap.size _ (0 + N1) (shF n z k) (by simp [Act.eval]) O3.out x0 K cap z (by simp [Act.eval]) U3.out (by omega) b2.out.size (fun v3 w3 O4 g4 => ?_); have b4 := Lib.hid (b2.out.grown g4 b2.out.size (fun q hq => (O3.out.lt q hq).1)); have O5 := Lib.hid (O4.congr (g := shF n z k) (fun j hj => by split; rfl; rename_i hjj; rw [EH.out (j - (0 + N1)) (by omega)]; congr 1; omega)); clear O4 g4))
      all_goals
        go_wp2
        go_ret2
        exact ⟨_, rfl, by have := O5.out; rwa [Nat.zero_add, HN.out] at this, b4.out⟩
    · rw [decide_eq_false h0] at hB
      rw [hB]
      obtain rfl : n = 0 := by omega
      obtain ⟨a, cap, rfl, hcap, hc⟩ := h
      clear hc
      go_enter Try.func30, Try.ntmps30
      go_wp2_with fail
      refine (HS.out _ HR.out).mono ?_
      rintro e w' ⟨rfl, rfl⟩
      go_wp2
      go_ret2
      exact ⟨_, rfl, OF.empty0 w _, (Below.refl _ _).alloc (Nat.le_refl _) _⟩
end Go.Proofs.Ytbllmgdnhjdphab
