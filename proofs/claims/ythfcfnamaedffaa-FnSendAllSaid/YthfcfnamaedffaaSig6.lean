/- CutSignal and DelaySignal of both sides. -/
import Derived.Test.YthfcfnamaedffaaSig5
namespace Go.Proofs.Ythfcfnamaedffaa
open Go.RowKit
set_option linter.unusedVariables false
set_option maxRecDepth 100000
/-- A slice of a call's own, whoever made it. -/
def IntsO (w : World) (v : Value) (n : Nat) (f : Nat → Int) : Prop := ∃ B, OF w B v n f
theorem OF.own {w : World} {B : Nat} {v : Value} {n : Nat} {f : Nat → Int} (h : OF w B v n f) : IntsO w v n f := ⟨B, h⟩
theorem IntsO.intsC {w : World} {v : Value} {n : Nat} {f : Nat → Int} (h : IntsO w v n f) : IntsC w v n f := by obtain ⟨B, h⟩ := h; exact h.intsC
theorem IntsO.ints {w : World} {v : Value} {n : Nat} {f : Nat → Int} (h : IntsO w v n f) : IntsR w v n f := h.intsC.ints
theorem IntsO.below {w w' : World} {v : Value} {n : Nat} {f : Nat → Int} (h : IntsO w v n f) (hb : Below w.heap.size w w') : IntsO w' v n f := by obtain ⟨B, h⟩ := h; exact ⟨B, h.below hb⟩
theorem IntsO.tail0 {w : World} {v : Value} {n : Nat} {f : Nat → Int} (h : IntsO w v n f) : v = .slice none 0 0 ∨ ∃ x c, v = .slice (some x) n c := by obtain ⟨B, h⟩ := h; exact h.tail0
theorem cutO {w : World} {v : Value} {n : Nat} {f : Nat → Int} (h : IntsO w v n f) (l m : Nat) (hl : l ≤ m) (hm : m ≤ n) : ∃ a' cap', (∀ w1, (Instr.sliceAt 25 v (some (.int .i64 (l : Int))) (some (.int .i64 (m : Int))) none).run Try.prog w1 = .ok (.slice a' (m - l) cap') w1) ∧
    IntsC w (.slice a' (m - l) cap') (m - l) (fun i => f (l + i)) ∧ (Value.slice a' (m - l) cap' = .slice none 0 0 ∨ ∃ x c, Value.slice a' (m - l) cap' = .slice (some x) (m - l) c) := by
  have ht := h.tail0
  obtain ⟨a, cap, rfl, hcap, hc⟩ := h.intsC
  refine ⟨if cap = l then a else a.map (·.add (l * 1)), cap - l, fun w1 => ?_, ?_, ?_⟩
  · rw [run_sliceAt_slice w1 25 _ _ _ _ (by kernel_rfl), run_slice_lh w1 25 a n cap (by kernel_rfl) .i64 .i64 _ _ (by omega) (by omega) (by omega), ints_elem]
    simp [Result.andThen, sliced]
  · refine ⟨_, _, rfl, by omega, fun i hi => ?_⟩
    obtain ⟨x, rfl, h1, h2⟩ := hc (l + i) (by omega)
    refine ⟨x.add l, by rw [if_neg (by omega)]; simp, by rw [add_block]; exact h1, ?_⟩
    rw [addr_plus]; exact h2
  · rcases ht with e | ⟨x, c, e⟩
    · injection e with e1 e2 e3
      subst e1 e2 e3
      left
      have : m = 0 := by omega
      subst this
      have : l = 0 := by omega
      subst this
      simp
    · injection e with e1 e2 e3
      subst e1
      right
      by_cases hcl : cap = l
      · exact ⟨x, cap - l, by rw [if_pos hcl]⟩
      · exact ⟨x.add (l * 1), cap - l, by rw [if_neg hcl]; rfl⟩
theorem cut_row (g N k : Nat) (hk : k ≤ N) : ∃ a' cap', (∀ w1, (Instr.sliceAt 25 (.slice (some ⟨g, 0, none⟩) N N) (some (.int .i64 (k : Int))) none none).run Try.prog w1 = .ok (.slice a' (N - k) cap') w1) ∧ (0 < N - k → a' = some ⟨g, k, none⟩) := by
  refine ⟨if N = k then some ⟨g, 0, none⟩ else (some (⟨g, 0, none⟩ : Addr)).map (·.add (k * 1)), N - k, fun w1 => ?_, fun h => ?_⟩
  · rw [run_sliceAt_slice w1 25 _ _ _ _ (by kernel_rfl), run_slice_l w1 25 _ N N (by kernel_rfl) .i64 _ (by omega) (by omega), ints_elem]
    simp [Result.andThen, sliced]
  · rw [if_neg (by omega)]
    have e : (⟨g, 0, none⟩ : Addr).add k = ⟨g, k, none⟩ := by unfold Addr.add; split <;> simp_all
    simp [e]
theorem OF.of_row {w : World} {B g n : Nat} {f : Nat → Int} {l : List Value} (h : w.heap[g]? = some (.cells l.toArray 3 (0, 0))) (hB : B ≤ g) (hl : l = (List.range n).map fun j => .int .i64 (f j)) (hn : n ≤ 1000000) : OF w B (.slice (some ⟨g, 0, none⟩) n n) n f := by
  subst hl
  refine ⟨by simp, .inr ⟨g, n, _, rfl, hB, h, Nat.le_refl _, by unfold maxLen; omega, by simp, ?_⟩⟩
  rw [Nat.mul_one]
  exact List.take_of_length_le (by simp)
theorem made_row (w : World) (n : Nat) : (w.alloc (.cells (madeCells #[.int .i64 0] n) 3)).heap[w.heap.size]? = some (.cells (List.replicate n (.int .i64 0)).toArray 3 (0, 0)) := by
  have e : madeCells #[Value.int .i64 0] n = (List.replicate n (Value.int .i64 0)).toArray := by
    apply Array.ext
    · simp [madeCells]
    · intro i h1 h2
      simp [madeCells, Nat.mod_one]
  rw [← e]
  show (w.heap.push _)[w.heap.size]? = _
  simp
theorem int_size : (Try.prog.info? 3).map (·.size) = some 1 := by kernel_rfl
/-- Delayed samples. -/
def dlF (k : Nat) (f : Nat → Int) (i : Nat) : Int := if i < k then 0 else f (i - k)
theorem dl_splice (k n : Nat) (f : Nat → Int) : splice (List.replicate (k + n) (Value.int .i64 0)) k ((List.range n).map fun i => Value.int .i64 (f i)) = (List.range (k + n)).map fun j => Value.int .i64 (dlF k f j) := by
  unfold splice
  apply List.ext_getElem (by simp)
  intro j h1 h2
  simp at h2
  by_cases hj : j < k
  · rw [List.getElem_append_left (by simp; omega)]
    simp [dlF, hj]
  · rw [List.getElem_append_right (by simp; omega)]
    rw [List.getElem_append_left (by simp; omega)]
    have e : min k (k + n) = k := by omega
    simp [dlF, hj, e]
def inK (k : Int) : Bool := decide (0 ≤ k) && decide (k ≤ 3000)
theorem inK_iff (k : Int) : inK k = true ↔ 0 ≤ k ∧ k ≤ 3000 := by unfold inK; simp only [Bool.and_eq_true, decide_eq_true_eq]
theorem dl_all {n : Nat} {f : Nat → Int} (h : allM n f = true) (k : Nat) : allM (k + n) (dlF k f) = true := allM_of fun j hj => by
  unfold dlF
  split
  · omega
  · exact allM_at h (by omega)
def dlOK (n : Nat) (f : Nat → Int) (k : Int) : Bool := sigB n f && (inK k && sigB (k.toNat + n) (dlF k.toNat f))
def dlN (n : Nat) (f : Nat → Int) (k : Int) : Nat := if dlOK n f k then k.toNat + n else 0
theorem dlN_le6 (n : Nat) (f : Nat → Int) (k : Int) : dlN n f k ≤ 1000000 := by
  unfold dlN dlOK
  split
  · rename_i h
    simp only [Bool.and_eq_true] at h
    have := ((sigB_iff _ _).1 h.2.2).2
    omega
  · omega
theorem dl_in {n : Nat} {f : Nat → Int} {k : Nat} (h1 : sigB n f = true) (h2 : inK k = true) : dlN n f k = resN (k + n) (dlF k f) ∧ dlOK n f k = sigB (k + n) (dlF k f) := by
  unfold dlN dlOK resN; rw [h1, h2]; simp
theorem dl_out {n : Nat} {f : Nat → Int} {k : Int} (h : ¬ (sigB n f = true ∧ inK k = true)) : dlN n f k = 0 ∧ dlOK n f k = false := by
  have : dlOK n f k = false := by
    unfold dlOK
    cases h1 : sigB n f with
    | false => rfl
    | true =>
      cases h2 : inK k with
      | false => rfl
      | true => exact absurd ⟨h1, h2⟩ h
  exact ⟨by unfold dlN; rw [this]; rfl, this⟩
set_option maxHeartbeats 1600000 in
set_option maxRecDepth 100000 in
theorem iDelay_yes (v : Value) (n : Nat) (z : Nat → Int) (k : Nat) (w : World) (h : IntsR w v n z) (hs : sigB n z = true) (hg : k ≤ 3000) :
    Calls Try.prog 23 #[v, .int .i64 (k : Int)] w fun e w' => ∃ u, e = .returned (.tuple #[u, .bool (sigB (k + n) (dlF k z))]) ∧ OF w' w.heap.size u (resN (k + n) (dlF k z)) (dlF k z) ∧ Below w.heap.size w w' := by
  obtain ⟨hA, h3⟩ := (sigB_iff n z).1 hs
  have hb := fun w h => iSig_any v n z w h (by omega)
  rw [hs] at hb
  have HB := Lib.hid hb
  have HH := Lib.hid h
  obtain ⟨a, cap, rfl, hc⟩ := h
  have hsp := dl_splice k n z
  have hgr := made_row w (k + n)
  have hI := fun B v w h => iIf_any v B (k + n) (dlF k z) w h (by omega)
  obtain ⟨N, hN⟩ : ∃ N, k + n = N := ⟨_, rfl⟩
  rw [hN] at hsp hgr hI ⊢
  obtain ⟨X, hX⟩ : ∃ X, ((List.range n).map fun i => Value.int .i64 (z i)) = X := ⟨_, rfl⟩
  rw [hX] at hsp
  have HX := Lib.hid hX
  have HSP := Lib.hid hsp
  have HI := Lib.hid hI
  have hmk := make_ints N (by omega)
  have HC := Lib.hid hc
  have hw : (k : Int) + (n : Int) = (N : Int) := by omega
  obtain ⟨a', cap', hcut, hcut1⟩ := cut_row w.heap.size N k (by omega)
  rw [show N - k = n by omega] at hcut hcut1
  have HC1 := Lib.hid hcut1
  have HG := Lib.hid hgr
  have l1 : ¬ ((k : Int) < 0) := by omega
  have l2 : ¬ ((3000 : Int) < (k : Int)) := by omega
  have HN : Hid (k + n = N) := Lib.hid hN
  have b0 := (Below.refl w.heap.size w).alloc (Nat.le_refl _) (.cells (madeCells #[.int .i64 0] N) 3)
  have HL : Hid (X.length = n) := Lib.hid (by rw [← hX]; simp)
  have HXC : Hid (∀ j u, X[j]? = some u → j < n ∧ u = .int .i64 (z j)) := Lib.hid (fun j u hu => by
    rw [← hX] at hu
    rw [List.getElem?_map] at hu
    by_cases hj : j < n
    · rw [List.getElem?_range hj] at hu
      simp at hu
      exact ⟨hj, hu.symm⟩
    · rw [List.getElem?_eq_none (by simp; omega)] at hu
      simp at hu)
  have HX1 : Hid (∀ u ∈ X, u.oneCell' = true) := Lib.hid (fun u hu => by
    rw [← hX] at hu
    simp at hu
    obtain ⟨j, _, rfl⟩ := hu
    rfl)
  have BB := Lib.hid b0
  have HB3 : Hid (∀ x : Addr, x.block < w.heap.size → ∀ j, (w.alloc (.cells (madeCells #[.int .i64 0] N) 3)).cell? (x.add j) = w.cell? (x.add j)) := Lib.hid (fun x hx j => b0.cell (p := x.add j) (by rw [add_block]; exact hx))
  have HPOS : Hid (0 < X.length → a' = some ⟨w.heap.size, k, none⟩ ∧ ∃ ad, a = some ad ∧ ∀ j u, X[j]? = some u → (w.alloc (.cells (madeCells #[.int .i64 0] N) 3)).cell? (ad.add j) = some u) := Lib.hid (fun hp => by
    rw [HL.out] at hp
    obtain ⟨x, e0, h1, h2⟩ := HC.out 0 hp
    refine ⟨HC1.out hp, x, e0, fun j u hu => ?_⟩
    obtain ⟨hj, rfl⟩ := HXC.out j u hu
    obtain ⟨x', e, h3, h4⟩ := HC.out j hj
    rw [e0] at e
    injection e with e
    subst e
    exact (HB3.out x h1 j).trans h4)
  have HMIN : Hid (X.length = Nat.min n n) := Lib.hid (by rw [HL.out]; exact (Nat.min_self _).symm)
  have HFIT : Hid (k + X.length ≤ (List.replicate N (Value.int .i64 0)).length) := Lib.hid (by rw [HL.out, List.length_replicate, HN.out]; exact Nat.le_refl _)
  clear hb hc hA hs hN hX hsp hI hgr hcut1 b0
  go_enter Try.func23, Try.ntmps23
  go_wp2_with fail
  refine (HB.out _ HH.out).mono ?_
  rintro e w' ⟨rfl, rfl⟩
  go_wp2_with ((with_reducible show wpList _ _ _ (⟨some 27, _, _, _, _, _⟩ :: _) _ _); refine wpList_copy_splice rfl (.tmp 25) (.tmp 26) 25 25 rfl 3 (by kernel_rfl) int_size a' a n cap' n cap rfl rfl w.heap.size k (List.replicate N (.int .i64 0)) 3 HG.out X HMIN.out HPOS.out HFIT.out HX1.out w.heap.size w BB.out (Nat.le_refl _) ?_; intro w2 HG2 hB2)
  have O2 := OF.of_row (f := dlF k z) HG2.out (Nat.le_refl w.heap.size) HSP.out (by have := HN.out; omega)
  go_wp2_with fail
  refine (HI.out _ _ _ O2).mono ?_
  rintro e w3 ⟨u, rfl, O3, b3⟩
  have c3 := below_then hB2 (Nat.le_refl _) b3
  go_wp2
  go_ret2
  exact ⟨_, rfl, O3, c3⟩
set_option maxRecDepth 100000 in
theorem iDelay_any (v : Value) (n : Nat) (z : Nat → Int) (k : Int) (w : World) (h : IntsR w v n z) (hn : n ≤ 1048576) :
    Calls Try.prog 23 #[v, .int .i64 k] w fun e w' => ∃ u, e = .returned (.tuple #[u, .bool (dlOK n z k)]) ∧ OF w' w.heap.size u (dlN n z k) (dlF k.toNat z) ∧ Below w.heap.size w w' := by
  have hb := fun w h => iSig_any v n z w h hn
  cases hs : sigB n z with
  | true =>
    cases hg : inK k with
    | true =>
      obtain ⟨g1, g2⟩ := (inK_iff k).1 hg
      obtain ⟨q, rfl⟩ : ∃ q : Nat, k = q := ⟨k.toNat, by omega⟩
      rw [(dl_in hs hg).1, (dl_in hs hg).2]; exact iDelay_yes v n z q w h hs (by omega)
    | false =>
      obtain ⟨e1, e2⟩ := dl_out (n := n) (f := z) (k := k) (by rw [hg]; simp)
      rw [e1, e2]
      rw [hs] at hb
      have HB := Lib.hid hb
      have HH := Lib.hid h
      have hgg : ¬ (0 ≤ k ∧ k ≤ 3000) := fun e => by rw [(inK_iff k).2 e] at hg; cases hg
      clear hb hs hg h e1 e2
      by_cases l1 : k < 0
      · go_enter Try.func23, Try.ntmps23
        go_wp2_with fail
        refine (HB.out _ HH.out).mono ?_
        rintro e w' ⟨rfl, rfl⟩
        go_wp2
        go_ret2
        exact ⟨_, rfl, OF.nil _ _ _, Below.refl _ _⟩
      · have l2 : ((3000 : Int) < k) := by omega
        go_enter Try.func23, Try.ntmps23
        go_wp2_with fail
        refine (HB.out _ HH.out).mono ?_
        rintro e w' ⟨rfl, rfl⟩
        go_wp2
        go_ret2
        exact ⟨_, rfl, OF.nil _ _ _, Below.refl _ _⟩
  | false =>
    obtain ⟨e1, e2⟩ := dl_out (n := n) (f := z) (k := k) (by rw [hs]; simp)
    rw [e1, e2]
    rw [hs] at hb
    have HB := Lib.hid hb
    have HH := Lib.hid h
    clear hb hs h e1 e2
    go_enter Try.func23, Try.ntmps23
    go_wp2_with fail
    refine (HB.out _ HH.out).mono ?_
    rintro e w' ⟨rfl, rfl⟩
    go_wp2
    go_ret2
    exact ⟨_, rfl, OF.nil _ _ _, Below.refl _ _⟩
set_option maxRecDepth 100000 in
theorem l4Delay_any (v : Value) (n : Nat) (z : Nat → Int) (k : Nat) (w : World) (h : IntsO w v n z) (hn : n ≤ 100000) (hk : k ≤ 3000) :
    Calls Try.prog 131 #[v, .int .i64 (k : Int)] w fun e w' => ∃ u, e = .returned u ∧ OF w' w.heap.size u (k + n) (dlF k z) ∧ Below w.heap.size w w' := by
  have hmk := make_ints k (by omega)
  have b0 := (Below.refl w.heap.size w).alloc (Nat.le_refl _) (.cells (madeCells #[.int .i64 0] k) 3)
  have hR := (h.below ((Below.refl w.heap.size w).alloc (Nat.le_refl _) (.cells (madeCells #[.int .i64 0] k) 3))).ints
  have H0 := Lib.hid h.tail0
  have O0 := OF.made w k (by omega)
  have HD : Hid (∀ j, (if j < k then (0 : Int) else z (j - k)) = dlF k z j) := Lib.hid (fun j => rfl)
  clear h
  go_enter Try.func131, Try.ntmps131
  go_wp2_with (at_builtin; refine wpList_append_ints rfl (.tmp 6) (.tmp 7) rfl w.heap.size _ k (fun _ => 0) rfl O0 v n z rfl hR H0.out (by omega) (by simp) ?_; intro v' w2 O2 g2)
  have O3 := Lib.hid (OF.congr (g := dlF k z) O2 (fun j _ => HD.out j))
  have b2 : Below w.heap.size w w2 := b0.grown g2 (by simp) (fun q hq => (O0.lt q hq).1)
  clear O2 g2 O0 b0
  go_wp2
  go_ret
  exact ⟨_, rfl, O3.out, b2⟩
end Go.Proofs.Ythfcfnamaedffaa
