/- Hops that begin later: laterHops, ShiftHops of both sides. Slots that are open: a map from which lost slots are deleted; JammedHops of both sides. JammedHops of both sides. Collisions of two users: HopCollisions of both sides. -/
import Derived.Test.YtpacaelnmpdnhaaDoorHop2
import Derived.Test.YtpacaelnmpdnhaaDoorMrgC
import Derived.Maps.OwnOps
import Derived.Maps.OwnSet
import Derived.Maps.Views
import Derived.WalkMore
import Derived.Deep.LoopGhost
namespace Go.Proofs.YtpacaelnmpdnhaaDoor
open Go.RowKit
set_option linter.unusedVariables false
set_option maxRecDepth 100000
/-- n hops, from the index k on. -/
def shF (n : Nat) (z : Nat → Int) (k : Int) (i : Nat) : Int := z ((i + modN k n) % n)
def someB (n : Nat) (z : Nat → Int) : Bool := decide (0 < n) && hopB n z 16
theorem someB_iff (n : Nat) (z : Nat → Int) : someB n z = true ↔ 0 < n ∧ n ≤ 300 ∧ ∀ k, k < n → 0 ≤ z k ∧ z k < 16 := by
  unfold someB
  simp only [Bool.and_eq_true, decide_eq_true_eq, hopB_iff]
  constructor
  · exact fun h => ⟨h.1, h.2.2⟩
  · exact fun h => ⟨h.1, by omega, h.2⟩
def shN (n : Nat) (z : Nat → Int) : Nat := if someB n z then n else 0
theorem shN_le6 (n : Nat) (z : Nat → Int) : shN n z ≤ 1000000 := by
  unfold shN
  split
  · rename_i h
    have := (someB_iff _ _).1 h
    omega
  · omega
theorem shF_lo {n : Nat} {z : Nat → Int} {k : Int} {K j : Nat} (hk : modN k n = K) (hK : K < n) (hj : j < n - K) : z (K + j) = shF n z k j := by
  unfold shF; rw [hk, Nat.mod_eq_of_lt (by omega), Nat.add_comm]
theorem shF_hi {n : Nat} {z : Nat → Int} {k : Int} {K j : Nat} (hk : modN k n = K) (hK : K < n) (hj : j < K) : z j = shF n z k (n - K + j) := by
  unfold shF; rw [hk, show n - K + j + K = j + n by omega, Nat.add_mod_right, Nat.mod_eq_of_lt (by omega)]
set_option maxHeartbeats 1600000 in
theorem later_any (v : Value) (n : Nat) (z : Nat → Int) (k : Int) (w : World) (h : IntsC w v n z) (h0 : 0 < n) (hn : n ≤ 300) :
    Calls Tryd.prog 49 #[v, .int .i64 k] w fun e w' => ∃ u, e = .returned u ∧ OF w' w.heap.size u n (shF n z k) ∧ Below w.heap.size w w' := by
  have HM := Lib.hid (fun w => modulo_hop k n w (by omega) (by omega))
  have hK : modN k n < n := modN_lt k n (by omega)
  obtain ⟨K, hk⟩ : ∃ K, modN k n = K := ⟨_, rfl⟩
  rw [hk] at hK HM
  obtain ⟨a1, c1, t1, t2⟩ := tailC h K (by omega)
  obtain ⟨a, cap, rfl, hcap, hc⟩ := id h
  obtain ⟨u1, u2⟩ := headI h K (by omega)
  obtain ⟨x0, rfl, -, -⟩ := hc 0 h0
  have hx1 : ∃ x, a1 = some x := by
    obtain ⟨a', cap', e, _, hc'⟩ := t2
    obtain ⟨x, hx, _⟩ := hc' 0 (by omega)
    injection e with e1 e2 e3
    exact ⟨x, e1.trans hx⟩
  obtain ⟨x1, rfl⟩ := hx1
  have T := Lib.hid t2.ints
  have U := Lib.hid u2.ints
  have EL := Lib.hid (fun j (hj : j < n - K) => shF_lo (z := z) hk hK hj)
  have EH := Lib.hid (fun j (hj : j < K) => shF_hi (z := z) hk hK hj)
  have HK := Lib.hid hK
  obtain ⟨N1, hN1⟩ : ∃ N, n - K = N := ⟨_, rfl⟩
  rw [hN1] at t1 T EL EH
  have HN := Lib.hid hN1
  have hn1 : N1 + K = n := by have := HN.out; have := HK.out; omega
  have B0 := Lib.hid (Below.refl w.heap.size w)
  have B1 := Lib.hid ((Below.refl w.heap.size w).alloc (Nat.le_refl _) (.cells #[.slice (some x1) N1 c1, .slice (some x0) K cap] 31)).drew
  have hcat := concat_any w.heap.size N1 K (.slice (some x1) N1 c1) (.slice (some x0) K cap) (fun j => z (K + j)) z (shF n z k) (w.alloc (.cells #[.slice (some x1) N1 c1, .slice (some x0) K cap] 31)).drew (by simp) (by simp) (by simp) (T.out.below B1.out) (U.out.below B1.out) (.inr ⟨_, _, rfl⟩) (.inr ⟨_, _, rfl⟩) (by omega) (by omega) EL.out EH.out
  rw [hn1] at hcat
  have HCAT := Lib.hid hcat
  clear hcat hn1 hN1 t2 u2 hc hk h hK T U EL EH HN HK
  go_enter Tryd.func49, Tryd.ntmps49
  go_wp2_with fail
  refine (HM.out _).mono ?_
  rintro e w' ⟨rfl, rfl⟩
  go_wp2_with fail
  go_region_held3 (fun wx => Below w.heap.size w wx) (first | exact k1 | exact B1.out | exact B0.out.drew) (first
    | (go_at_call 69; refine HCAT.out.mono ?_; rintro e w5 ⟨u, rfl, O5, hb5⟩; have hs5 := B1.out.size; have k1 := below_then B1.out (Nat.le_refl _) hb5; have O6 := O5.mono hs5; clear O5 hb5 hs5))
  go_wp2
  go_ret
  exact ⟨_, rfl, O6, k1⟩
theorem iSome_any (v : Value) (n : Nat) (z : Nat → Int) (w : World) (h : IntsR w v n z) (hn : n ≤ 1048576) :
    Calls Tryd.prog 48 #[v] w fun e w' => e = .returned (.bool (someB n z)) ∧ w = w' := by
  have hv := fun w h => iHops_any v n z 16 w h hn
  have HR := Lib.hid h
  obtain ⟨a, cap, rfl, -⟩ := h
  by_cases h0 : 0 < n
  · have HV := Lib.hid hv
    have l0 : (0 : Int) < (n : Int) := by omega
    have HE := Lib.hid (show hopB n z 16 = someB n z by unfold someB; rw [decide_eq_true h0, Bool.true_and])
    clear hv
    go_enter Tryd.func48, Tryd.ntmps48
    go_wp2_with fail
    refine (HV.out _ HR.out).mono ?_
    rintro e w' ⟨rfl, rfl⟩
    go_wp2
    go_ret
    exact ⟨ret_bool HE.out, rfl⟩
  · have l0 : ¬ ((0 : Int) < (n : Int)) := by omega
    have HE := Lib.hid (show false = someB n z by unfold someB; rw [decide_eq_false h0, Bool.false_and])
    clear hv
    go_enter Tryd.func48, Tryd.ntmps48
    go_wp2
    go_ret
    exact ⟨ret_bool HE.out, rfl⟩
theorem iShift_any (v : Value) (n : Nat) (z : Nat → Int) (k : Int) (w : World) (h : IntsC w v n z) (hn : n ≤ 1048576) :
    Calls Tryd.prog 28 #[v, .int .i64 k] w fun e w' => ∃ u, e = .returned (.tuple #[u, .bool (someB n z)]) ∧ OF w' w.heap.size u (shN n z) (shF n z k) ∧ Below w.heap.size w w' := by
  have hs := fun w h => iSome_any v n z w h hn
  have HR := Lib.hid h.ints
  unfold shN
  cases hB : someB n z with
  | false =>
    rw [hB] at hs
    have HS := Lib.hid hs
    clear hs hB h
    go_enter Tryd.func28, Tryd.ntmps28
    go_wp2_with fail
    refine (HS.out _ HR.out).mono ?_
    rintro e w' ⟨rfl, rfl⟩
    go_wp2
    go_ret2
    exact ⟨_, rfl, OF.nil _ _ _, Below.refl _ _⟩
  | true =>
    rw [hB] at hs
    obtain ⟨b1, b2, -⟩ := (someB_iff n z).1 hB
    have HS := Lib.hid hs
    have HL := Lib.hid (later_any v n z k w h b1 b2)
    clear hs hB h
    simp only [if_true]
    go_enter Tryd.func28, Tryd.ntmps28
    go_wp2_with fail
    refine (HS.out _ HR.out).mono ?_
    rintro e w' ⟨rfl, rfl⟩
    go_wp2_with fail
    refine HL.out.mono ?_
    rintro e w1 ⟨u, rfl, O1, b⟩
    go_wp2
    go_ret2
    exact ⟨_, rfl, O1, b⟩
end Go.Proofs.YtpacaelnmpdnhaaDoor
namespace Go.Proofs.YtpacaelnmpdnhaaDoor
open Go.RowKit Go.Maps
set_option linter.unusedVariables false
set_option maxRecDepth 100000
/-- Is y among the first m numbers? -/
def isJ (m : Nat) (j : Nat → Int) (y : Int) : Bool := (List.range m).any fun i => decide (j i = y)
theorem isJ_iff (m : Nat) (j : Nat → Int) (y : Int) : isJ m j y = true ↔ ∃ i, i < m ∧ j i = y := by
  unfold isJ
  simp only [List.any_eq_true, List.mem_range, decide_eq_true_eq]
theorem isJ_no {m : Nat} {j : Nat → Int} {y : Int} (h : ∀ i, i < m → ¬ j i = y) : isJ m j y = false := by
  rw [Bool.eq_false_iff]
  intro h'
  obtain ⟨i, hi, e⟩ := (isJ_iff _ _ _).1 h'
  exact h i hi e
theorem isJ_yes {m : Nat} {j : Nat → Int} {y : Int} {i : Nat} (hi : i < m) (e : j i = y) : isJ m j y = true := (isJ_iff _ _ _).2 ⟨i, hi, e⟩
def jamB (m : Nat) (j : Nat → Int) : Bool := decide (m ≤ 16) && hopB m j 16
theorem jamB_iff (m : Nat) (j : Nat → Int) : jamB m j = true ↔ m ≤ 16 ∧ hopB m j 16 = true := by unfold jamB; simp only [Bool.and_eq_true, decide_eq_true_eq]
/-- How many of the first k hops are jammed. -/
def lostC (z : Nat → Int) (m : Nat) (j : Nat → Int) : Nat → Nat
  | 0 => 0
  | k + 1 => lostC z m j k + (if isJ m j (z k) then 1 else 0)
theorem lostC_le (z : Nat → Int) (m : Nat) (j : Nat → Int) : ∀ k, lostC z m j k ≤ k
  | 0 => Nat.le_refl _
  | k + 1 => by have := lostC_le z m j k; simp only [lostC]; split <;> omega
theorem lostC_yes {z : Nat → Int} {m : Nat} {j : Nat → Int} {k : Nat} (h : isJ m j (z k) = true) : lostC z m j (k + 1) = lostC z m j k + 1 := by simp only [lostC]; rw [if_pos h]
theorem lostC_no {z : Nat → Int} {m : Nat} {j : Nat → Int} {k : Nat} (h : isJ m j (z k) = false) : lostC z m j (k + 1) = lostC z m j k := by simp only [lostC]; rw [h]; rfl
/-- A map with the slots below n that f tells; L are missing. -/
def SlotM (D : DataW Unit) (n : Nat) (f : Nat → Bool) (L : Nat) : Prop :=
  Tidy D ∧ (∀ i : Nat, has D (.int .i64 (i : Int)) = (decide (i < n) && f i)) ∧ (∀ i : Nat, D.atKey (.int .i64 (i : Int)) (.lit (.bool false)) = .lit (.bool (decide (i < n) && f i))) ∧ size D + L = n
theorem lit_ne {a b : Nat} (h : a ≠ b) : (Lit.int .i64 (a : Int)) ≠ Lit.int .i64 (b : Int) := by intro e; injection e with _ e; omega
theorem SlotM.zero : SlotM (.map []) 0 (fun _ => true) 0 := ⟨tidy_empty, fun i => by simp [has], fun i => by simp; rfl, rfl⟩
theorem SlotM.put {D : DataW Unit} {s : Nat} (h : SlotM D s (fun _ => true) 0) : SlotM (D.put (.int .i64 (s : Int)) (.lit (.bool true))) (s + 1) (fun _ => true) 0 := by
  obtain ⟨h1, h2, h3, h4⟩ := h
  refine ⟨h1.put (k := .int .i64 (s : Int)) trivial _, fun i => ?_, fun i => ?_, ?_⟩
  · by_cases e : i = s
    · subst e; rw [has_put_same (k := .int .i64 (i : Int)) h1.isMap trivial]; simp
    · rw [has_put_other (lit_ne e), h2]
      by_cases e' : i < s
      · rw [decide_eq_true e', decide_eq_true (by omega : i < s + 1)]
      · rw [decide_eq_false e', decide_eq_false (by omega : ¬ i < s + 1)]
  · by_cases e : i = s
    · subst e; rw [atKey_put_same (k := .int .i64 (i : Int)) h1.isMap trivial]; simp
    · rw [atKey_put_other (lit_ne e), h3]
      by_cases e' : i < s
      · rw [decide_eq_true e', decide_eq_true (by omega : i < s + 1)]
      · rw [decide_eq_false e', decide_eq_false (by omega : ¬ i < s + 1)]
  · rw [size_put h1, h2 s, decide_eq_false (Nat.lt_irrefl s)]
    simp
    omega
theorem SlotM.del {D : DataW Unit} {n s L : Nat} {f : Nat → Bool} (h : SlotM D n f L) (hs : s < n) (hf : f s = true) : SlotM (D.del (.int .i64 (s : Int))) n (fun i => if i = s then false else f i) (L + 1) := by
  obtain ⟨h1, h2, h3, h4⟩ := h
  refine ⟨h1.del _, fun i => ?_, fun i => ?_, ?_⟩
  · show has (D.del (.int .i64 (s : Int))) (.int .i64 (i : Int)) = (decide (i < n) && (if i = s then false else f i))
    by_cases e : i = s
    · subst e; rw [has_del_same, if_pos rfl, Bool.and_false]
    · rw [has_del_other (lit_ne e), h2, if_neg e]
  · show (D.del (.int .i64 (s : Int))).atKey (.int .i64 (i : Int)) (.lit (.bool false)) = .lit (.bool (decide (i < n) && (if i = s then false else f i)))
    by_cases e : i = s
    · subst e; rw [atKey_del_same, if_pos rfl, Bool.and_false]
    · rw [atKey_del_other (lit_ne e), h3, if_neg e]
  · have hd := size_del (k := .int .i64 (s : Int)) h1
    rw [h2 s, decide_eq_true hs, hf] at hd
    simp at hd
    omega
theorem SlotM.congr {D : DataW Unit} {n L : Nat} {f g : Nat → Bool} (h : SlotM D n f L) (e : ∀ i, i < n → f i = g i) : SlotM D n g L := by
  obtain ⟨h1, h2, h3, h4⟩ := h
  have he : ∀ i, (decide (i < n) && f i) = (decide (i < n) && g i) := fun i => by
    by_cases hi : i < n
    · rw [e i hi]
    · rw [decide_eq_false hi]; rfl
  exact ⟨h1, fun i => (h2 i).trans (he i), fun i => by rw [h3, he], h4⟩
theorem wf_small {i : Nat} (h : i ≤ 1000) : (Lit.int .i64 (i : Int)).wf = true := by
  have h' := wrap64_wf (i : Int)
  rwa [show wrap64 (i : Int) = (i : Int) by unfold wrap64; omega] at h'
theorem lawHI : Keyed Tryd.prog 3 := int_keyed Tryd.underlying3
theorem key_small {i : Nat} (h : i ≤ 1000) : keyOf Tryd.prog 3 (.int .i64 (i : Int)) = some (.int .i64 (i : Int)) := keyOf_int_mk (P := Tryd.prog) Tryd.underlying3 (wf_small h)
theorem zeroHB (w : World) : (zeroValue 4).run Tryd.prog w = .ok (.bool false) w := by kernel_rfl
/-- The call's own map of slots. -/
def SlotAt (w : World) (b n : Nat) (D : DataW Unit) : Prop := w.ownsMap Tryd.prog 3 (plainElem Tryd.prog 4) b n D
theorem SlotAt.kept' {w : World} {b n : Nat} {D : DataW Unit} (h : SlotAt w b n D) (q : Nat) : SlotAt (w.drewN q) b n D := World.ownsMap.kept h (grownBy_drewN' w q none) (by simp)
theorem SlotAt.look {w : World} {b n N L : Nat} {D : DataW Unit} {f : Nat → Bool} (h : SlotAt w b n D) (hM : SlotM D N f L) (i : Nat) (hi : i ≤ 1000) :
    (Instr.lookup 54 (.map (some b)) (.int .i64 (i : Int)) false).run Tryd.prog w = .ok (.bool (decide (i < N) && f i)) w := by
  obtain ⟨v, ps, hrun, hv⟩ := World.ownsMap.lookup h lawHI Tryd.underlying54 (zeroHB w) (zd := .lit (.bool false)) (zp := []) (plainElem_bool Tryd.underlying4 false) (key_small hi)
  rw [hM.2.2.1 i] at hv
  unfold plainElem at hv
  rw [Tryd.underlying4] at hv
  cases v <;> simp at hv
  obtain ⟨rfl, _⟩ := hv
  exact hrun
def SlotsPost (w : World) (n : Nat) (z : Nat → Int) (m : Nat) (j : Nat → Int) (e : Ending) (w' : World) : Prop :=
  ∃ b D, e = .returned (.map (some b)) ∧ SlotAt w' b n D ∧ w.heap.size ≤ b ∧ SlotM D n (fun i => !isJ m j (z i)) (lostC z m j n) ∧ Below w.heap.size w w'
set_option maxHeartbeats 1600000 in
theorem open_slots (v u : Value) (n m : Nat) (z j : Nat → Int) (w : World) (h : IntsR w v n z) (hu : IntsR w u m j) (hn : n ≤ 300) (hm : m ≤ 16) :
    Calls Tryd.prog 38 #[v, u] w (SlotsPost w n z m j) := by
  obtain ⟨a, cap, rfl, hc⟩ := h
  obtain ⟨a2, cap2, rfl, hd⟩ := hu
  have HC := Lib.hid hc
  have HD := Lib.hid hd
  have HK := Lib.hid (fun (i : Nat) (hi : i ≤ 1000) => key_small hi)
  have HNO := Lib.hid (fun y (h : ∀ i, i < m → ¬ j i = y) => isJ_no h)
  have HYES := Lib.hid (fun y i (hi : i < m) (e : j i = y) => isJ_yes hi e)
  have HLY := Lib.hid (fun k (h : isJ m j (z k) = true) => lostC_yes (m := m) (j := j) (k := k) h)
  have HLN := Lib.hid (fun k (h : isJ m j (z k) = false) => lostC_no (m := m) (j := j) (k := k) h)
  have HL0 : Hid (lostC z m j 0 = 0) := Lib.hid rfl
  have hmm := @run_makeMap Tryd.prog
  clear hc hd
  go_enter Tryd.func38, Tryd.ntmps38
  go_wp2
  go_step3
  go_wp2
  go_loopw [14] (fun t wr => ∃ s : Nat, s ≤ n ∧ t = .int .i64 s ∧ (∃ D : DataW Unit, SlotAt wr w.heap.size s D ∧ Hid (SlotM D s (fun _ => true) 0)) ∧ Below w.heap.size w wr) (fun t _ => n - (intOf t).toNat)
  case atStart => exact ⟨0, Nat.zero_le _, rfl, ⟨_, World.ownsMap_made _ _ _ _, Lib.hid SlotM.zero⟩, (Below.refl _ _).alloc (Nat.le_refl _) _⟩
  case round =>
    obtain ⟨s, hs, rfl, ⟨D, hown, hM⟩, rb⟩ := hrel
    clear hmm
    by_cases hlt : s < n
    · have i0 : (0 : Int) ≤ (s : Int) := by omega
      have i1 : (s : Int) < (n : Int) := by omega
      have nM := Lib.hid hM.out.put
      have HKY := Lib.hid (HK.out s (by omega))
      clear hM
      go_wp2_with (first
        | (at_mapUpdate; refine wpList_mapUpdate_own _ rfl _ _ _ 54 rfl 3 4 lawHI Tryd.underlying54 _ w.heap.size s _ rfl hown (by unfold maxLen; omega) _ _ _ rfl rfl HKY.out _ [] (plainElem_bool Tryd.underlying4 true) ?_; intro w1 hown1 hgrow1)
        | go_in)
      go_roundw
      case rel => exact ⟨s + 1, by omega, by go_num, ⟨_, hown1, nM⟩, rb.grown hgrow1 rb.size (fun j hj => by cases hj; exact Nat.le_refl _)⟩
      case measure => simp [intOf]; omega
    · obtain rfl : s = n := by omega
      have M0 := Lib.hid (hM.out.congr (g := fun i => if i < 0 then !isJ m j (z i) else true) (fun i _ => by simp))
      clear hM
      go_wp2
      go_step3
      go_wp2
      go_loopg [22] s (fun g t wr => ∃ i : Nat, i + g = s ∧ t = .int .i64 i ∧ (∃ D : DataW Unit, SlotAt wr w.heap.size s D ∧ Hid (SlotM D s (fun l => if l < i then !isJ m j (z l) else true) (lostC z m j i))) ∧ Below w.heap.size w wr)
      case atStart => exact ⟨0, Nat.zero_add _, rfl, ⟨_, hown, by rw [HL0.out]; exact M0⟩, rb⟩
      case round =>
        obtain ⟨i, hi, rfl, ⟨D, hown, hM⟩, rb⟩ := hrel
        clear M0
        by_cases hil : i < s
        · obtain ⟨x, rfl, hx, hcc⟩ := HC.out i hil
          have c0 := (rb.cell (p := x.add i) (by rw [add_block]; exact hx)).trans hcc
          have i0 : (0 : Int) ≤ (i : Int) := by omega
          have i1 : (i : Int) < (s : Int) := by omega
          have HKY := Lib.hid (HK.out i (by omega))
          have NY : isJ m j (z i) = true → Hid (SlotM (D.del (.int .i64 (i : Int))) s (fun l => if l < i + 1 then !isJ m j (z l) else true) (lostC z m j (i + 1))) := fun h => Lib.hid (by
            rw [HLY.out i h]
            exact (hM.out.del (s := i) (by omega) (by simp)).congr (fun l _ => by
              by_cases e : l = i
              · subst e; rw [if_pos rfl, if_pos (by omega), h]; rfl
              · rw [if_neg e]
                by_cases e' : l < i
                · rw [if_pos e', if_pos (by omega)]
                · rw [if_neg e', if_neg (by omega)]))
          have NN : isJ m j (z i) = false → Hid (SlotM D s (fun l => if l < i + 1 then !isJ m j (z l) else true) (lostC z m j (i + 1))) := fun h => Lib.hid (by
            rw [HLN.out i h]
            exact hM.out.congr (fun l _ => by
              by_cases e : l = i
              · subst e; rw [if_neg (Nat.lt_irrefl _), if_pos (by omega), h]; rfl
              · by_cases e' : l < i
                · rw [if_pos e', if_pos (by omega)]
                · rw [if_neg e', if_neg (by omega)]))
          have HN0 := HNO.out (z i)
          have HY0 := HYES.out (z i)
          obtain ⟨Y, hY⟩ : ∃ Y, z i = Y := ⟨_, rfl⟩
          rw [hY] at c0 NY NN HN0 HY0
          have N1 := Lib.hid NY
          have N2 := Lib.hid NN
          have HN1 := Lib.hid HN0
          have HY1 := Lib.hid HY0
          have HRB := Lib.hid rb
          clear NY NN HN0 HY0 hY hM hcc hx
          go_wp2
          obtain ⟨V, rfl⟩ : ∃ V, V = wr := ⟨wr, rfl⟩
          go_loopg [29] m (fun g t wx => ∃ k : Nat, k + g = m ∧ t = .int .i64 k ∧ Hid (∀ l, l < k → ¬ j l = Y) ∧ V = wx)
          case atStart => exact ⟨0, Nat.zero_add _, rfl, Lib.hid (fun l hl => absurd hl (Nat.not_lt_zero _)), rfl⟩
          case round =>
            obtain ⟨k, hk, rfl, rA, rfl⟩ := hrel
            by_cases hkl : k < m
            · obtain ⟨x2, rfl, hx2, hcc2⟩ := HD.out k hkl
              have c1 := (HRB.out.cell (p := x2.add k) (by rw [add_block]; exact hx2)).trans hcc2
              have k0 : (0 : Int) ≤ (k : Int) := by omega
              have k1 : (k : Int) < (m : Int) := by omega
              by_cases he : j k = Y
              · have nM := N1.out (HY1.out k hkl he)
                rw [he] at c1
                clear he rA hcc2 hx2
                go_wp2_with (first
                  | (at_delete; refine wpList_delete_own _ rfl _ _ 54 3 rfl 4 lawHI Tryd.underlying54 _ w.heap.size s _ rfl hown _ _ rfl HKY.out ?_; intro w1 hown1 hturn1)
                  | go_in)
                go_roundg (s - (i + 1))
                case measure => omega
                case rel => exact ⟨i + 1, by omega, by go_num, ⟨_, hown1, nM⟩, HRB.out.grown hturn1.grown HRB.out.size (fun j hj => by cases hj; exact Nat.le_refl _)⟩
              · have e2 : ∀ l, l < k + 1 → ¬ j l = Y := fun l hl => by
                  rcases Nat.lt_or_ge l k with h | h
                  · exact rA.out l h
                  · rw [show l = k by omega]; exact he
                have nA := Lib.hid e2
                obtain ⟨X, hX⟩ : ∃ X, j k = X := ⟨_, rfl⟩
                rw [hX] at c1 he
                have e3 : (X == Y) = false := by simp; exact he
                clear hX rA hcc2 hx2 e2
                go_wp2
                go_roundg (m - (k + 1))
                case measure => omega
                case rel => exact ⟨k + 1, by omega, by go_num, nA, rfl⟩
            · obtain rfl : k = m := by omega
              have nM := N2.out (HN1.out rA.out)
              clear rA
              go_wp2
              go_roundg (s - (i + 1))
              case measure => omega
              case rel => exact ⟨i + 1, by omega, by go_num, ⟨_, hown, nM⟩, HRB.out⟩
        · obtain rfl : i = s := by omega
          have nM := Lib.hid (hM.out.congr (g := fun l => !isJ m j (z l)) (fun l hl => by rw [if_pos hl]))
          clear hM
          go_wp2
          try rw [Exit.noGoto_ret]
          go_ret
          exact ⟨_, _, rfl, hown, Nat.le_refl _, nM.out, rb⟩
end Go.Proofs.YtpacaelnmpdnhaaDoor
namespace Go.Proofs.YtpacaelnmpdnhaaDoor
open Go.RowKit Go.Maps
set_option linter.unusedVariables false
set_option maxRecDepth 100000
def jmV (n : Nat) (z : Nat → Int) (m : Nat) (j : Nat → Int) : Int := if hopB n z 16 && jamB m j then (lostC z m j n : Nat) else -1
theorem iJam_any (v : Value) (m : Nat) (j : Nat → Int) (w : World) (h : IntsR w v m j) (hm : m ≤ 1048576) :
    Calls Tryd.prog 59 #[v] w fun e w' => e = .returned (.bool (jamB m j)) ∧ w = w' := by
  have hv := fun w h => iHops_any v m j 16 w h hm
  have HR := Lib.hid h
  obtain ⟨a, cap, rfl, -⟩ := h
  by_cases h0 : m ≤ 16
  · have HV := Lib.hid hv
    have l0 : (m : Int) ≤ 16 := by omega
    have HE := Lib.hid (show hopB m j 16 = jamB m j by unfold jamB; rw [decide_eq_true h0, Bool.true_and])
    clear hv
    go_enter Tryd.func59, Tryd.ntmps59
    go_wp2_with fail
    refine (HV.out _ HR.out).mono ?_
    rintro e w' ⟨rfl, rfl⟩
    go_wp2
    go_ret
    exact ⟨ret_bool HE.out, rfl⟩
  · have l0 : ¬ ((m : Int) ≤ 16) := by omega
    have HE := Lib.hid (show false = jamB m j by unfold jamB; rw [decide_eq_false h0, Bool.false_and])
    clear hv
    go_enter Tryd.func59, Tryd.ntmps59
    go_wp2
    go_ret
    exact ⟨ret_bool HE.out, rfl⟩
theorem sJam_any (v : Value) (m : Nat) (j : Nat → Int) (w : World) (h : IntsR w v m j) (hm : m ≤ 1048576) :
    Calls Tryd.prog 57 #[v] w fun e w' => e = .returned (.bool (jamB m j)) ∧ w = w' := by
  have hv := fun w h => sHops16_any v m j w h hm
  have HR := Lib.hid h
  obtain ⟨a, cap, rfl, -⟩ := h
  cases hH : hopB m j 16 with
  | false =>
    rw [hH] at hv
    have HV := Lib.hid hv
    have HE := Lib.hid (show false = jamB m j by unfold jamB; rw [hH, Bool.and_false])
    clear hv hH
    go_enter Tryd.func57, Tryd.ntmps57
    go_wp2_with fail
    refine (HV.out _ HR.out).mono ?_
    rintro e w' ⟨rfl, rfl⟩
    go_wp2
    go_ret
    exact ⟨ret_bool HE.out, rfl⟩
  | true =>
    rw [hH] at hv
    have HV := Lib.hid hv
    have HE := Lib.hid (show decide ((m : Int) ≤ 16) = jamB m j by unfold jamB; rw [hH, Bool.and_true]; exact decide_eq_decide.2 (by omega))
    clear hv hH
    go_enter Tryd.func57, Tryd.ntmps57
    go_wp2_with fail
    refine (HV.out _ HR.out).mono ?_
    rintro e w' ⟨rfl, rfl⟩
    go_wp2
    go_ret
    exact ⟨ret_bool HE.out, rfl⟩
theorem sHas_any (v : Value) (m : Nat) (j : Nat → Int) (y : Int) (w : World) (h : IntsR w v m j) (hm : m ≤ 1048576) :
    Calls Tryd.prog 58 #[v, .int .i64 y] w fun e w' => e = .returned (.bool (isJ m j y)) ∧ w = w' := by
  obtain ⟨a, cap, rfl, hc⟩ := h
  have HC := Lib.hid hc
  have HNO := Lib.hid (fun (h : ∀ i, i < m → ¬ j i = y) => (isJ_no h).symm)
  have HYES := Lib.hid (fun i (hi : i < m) (e : j i = y) => (isJ_yes hi e).symm)
  clear hc
  go_enter Tryd.func58, Tryd.ntmps58
  go_wp2
  go_loop [5] (fun t => ∃ k : Nat, k ≤ m ∧ t = .int .i64 k ∧ Hid (∀ l, l < k → ¬ j l = y)) (fun t => m - (intOf t).toNat)
  case atStart => exact ⟨0, Nat.zero_le _, rfl, Lib.hid (fun l hl => absurd hl (Nat.not_lt_zero _))⟩
  case round =>
    obtain ⟨k, hk, rfl, rA⟩ := hrel
    by_cases hkl : k < m
    · obtain ⟨x2, rfl, hx2, c1⟩ := HC.out k hkl
      have k0 : (0 : Int) ≤ (k : Int) := by omega
      have k1 : (k : Int) < (m : Int) := by omega
      by_cases he : j k = y
      · have HE := Lib.hid (HYES.out k hkl he)
        rw [he] at c1
        clear he rA hx2
        go_wp2
        go_ret
        exact ⟨ret_bool HE.out, rfl⟩
      · have e2 : ∀ l, l < k + 1 → ¬ j l = y := fun l hl => by
          rcases Nat.lt_or_ge l k with h | h
          · exact rA.out l h
          · rw [show l = k by omega]; exact he
        have nA := Lib.hid e2
        obtain ⟨X, hX⟩ : ∃ X, j k = X := ⟨_, rfl⟩
        rw [hX] at c1 he
        have e3 : (X == y) = false := by simp; exact he
        clear hX rA hx2 e2
        go_wp2
        go_round
        case rel => exact ⟨k + 1, by omega, by go_num, nA⟩
        case measure => simp [intOf]; omega
    · obtain rfl : k = m := by omega
      have HE := Lib.hid (HNO.out rA.out)
      clear rA
      go_wp2
      go_ret
      exact ⟨ret_bool HE.out, rfl⟩
end Go.Proofs.YtpacaelnmpdnhaaDoor
namespace Go.Proofs.YtpacaelnmpdnhaaDoor
open Go.RowKit
set_option linter.unusedVariables false
set_option maxRecDepth 100000
/-- At how many of the first k places two lists agree. -/
def mtC (f g : Nat → Int) : Nat → Nat
  | 0 => 0
  | k + 1 => mtC f g k + (if f k = g k then 1 else 0)
theorem mtC_le (f g : Nat → Int) : ∀ k, mtC f g k ≤ k
  | 0 => Nat.le_refl _
  | k + 1 => by have := mtC_le f g k; simp only [mtC]; split <;> omega
theorem mtC_yes {f g : Nat → Int} {k : Nat} (h : f k = g k) : mtC f g (k + 1) = mtC f g k + 1 := by simp only [mtC]; rw [if_pos h]
theorem mtC_no {f g : Nat → Int} {k : Nat} (h : ¬ f k = g k) : mtC f g (k + 1) = mtC f g k := by simp only [mtC]; rw [if_neg h]; rfl
theorem mtC_congr {f g f' g' : Nat → Int} : ∀ {k : Nat}, (∀ j, j < k → f j = f' j) → (∀ j, j < k → g j = g' j) → mtC f g k = mtC f' g' k
  | 0, _, _ => rfl
  | k + 1, h1, h2 => by simp only [mtC]; rw [mtC_congr (fun j hj => h1 j (by omega)) (fun j hj => h2 j (by omega)), h1 k (by omega), h2 k (by omega)]
theorem mtC_comm {f g : Nat → Int} : ∀ k, mtC f g k = mtC g f k
  | 0 => rfl
  | k + 1 => by
    simp only [mtC]; rw [mtC_comm k]
    by_cases e : f k = g k
    · rw [if_pos e, if_pos e.symm]
    · rw [if_neg e, if_neg (fun h => e h.symm)]
def pairHB (n m : Nat) (f g : Nat → Int) : Bool := someB n f && (someB m g && decide (n = m))
theorem pairHB_iff (n m : Nat) (f g : Nat → Int) : pairHB n m f g = true ↔ someB n f = true ∧ someB m g = true ∧ n = m := by unfold pairHB; simp only [Bool.and_eq_true, decide_eq_true_eq]
/-- The collisions for a shift, -1 where there are none. -/
def colV (n m : Nat) (f g : Nat → Int) (k : Int) : Int := if pairHB n m f g then (mtC f (shF n g k) n : Nat) else -1
end Go.Proofs.YtpacaelnmpdnhaaDoor
