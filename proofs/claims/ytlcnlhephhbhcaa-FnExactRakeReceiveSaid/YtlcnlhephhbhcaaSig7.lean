/- CutSignal of both sides. -/
import Derived.Test.YtlcnlhephhbhcaaSig6
namespace Go.Proofs.Ytlcnlhephhbhcaa
open Go.RowKit
set_option linter.unusedVariables false
set_option maxRecDepth 100000
def cutF (k : Nat) (f : Nat → Int) (i : Nat) : Int := f (k + i)
def ctB (n : Nat) (k m : Int) : Bool := decide (0 ≤ k) && (decide (k ≤ n) && (decide (0 ≤ m) && decide (m ≤ n - k)))
theorem ctB_iff (n : Nat) (k m : Int) : ctB n k m = true ↔ 0 ≤ k ∧ k ≤ n ∧ 0 ≤ m ∧ m ≤ n - k := by unfold ctB; simp only [Bool.and_eq_true, decide_eq_true_eq]
def ctOK (n : Nat) (f : Nat → Int) (k m : Int) : Bool := sigB n f && ctB n k m
def ctN (n : Nat) (f : Nat → Int) (k m : Int) : Nat := if ctOK n f k m then m.toNat else 0
theorem ctN_le6 (n : Nat) (f : Nat → Int) (k m : Int) : ctN n f k m ≤ 1000000 := by
  unfold ctN ctOK
  split
  · rename_i h
    rw [Bool.and_eq_true] at h
    have := ((sigB_iff n f).1 h.1).2
    have := (ctB_iff n k m).1 h.2
    omega
  · omega
theorem ct_in {n : Nat} {f : Nat → Int} {k m : Int} (h1 : sigB n f = true) (h2 : ctB n k m = true) : ctN n f k m = m.toNat ∧ ctOK n f k m = true := by
  unfold ctN ctOK; rw [h1, h2]; simp
theorem ct_out {n : Nat} {f : Nat → Int} {k m : Int} (h : ¬ (sigB n f = true ∧ ctB n k m = true)) : ctN n f k m = 0 ∧ ctOK n f k m = false := by
  have : ctOK n f k m = false := by
    unfold ctOK
    cases h1 : sigB n f with
    | false => rfl
    | true =>
      cases h2 : ctB n k m with
      | false => rfl
      | true => exact absurd ⟨h1, h2⟩ h
  exact ⟨by unfold ctN; rw [this]; rfl, this⟩
theorem ct_splice (k m : Nat) (f : Nat → Int) : splice (List.replicate m (Value.int .i64 0)) 0 ((List.range m).map fun i => Value.int .i64 (f (k + i))) = (List.range m).map fun j => Value.int .i64 (cutF k f j) := by
  unfold splice cutF
  simp
set_option maxHeartbeats 1600000 in
set_option maxRecDepth 100000 in
theorem iCut_yes (v : Value) (n : Nat) (z : Nat → Int) (k m : Nat) (w : World) (h : IntsC w v n z) (hs : sigB n z = true) (hk : k ≤ n) (hm : m ≤ n - k) :
    Calls Try.prog 51 #[v, .int .i64 (k : Int), .int .i64 (m : Int)] w fun e w' => ∃ u, e = .returned (.tuple #[u, .bool true]) ∧ OF w' w.heap.size u m (cutF k z) ∧ Below w.heap.size w w' := by
  obtain ⟨hA, h3⟩ := (sigB_iff n z).1 hs
  have hb := fun w h => iSig_any v n z w h (by omega)
  rw [hs] at hb
  have HB := Lib.hid hb
  have HH := Lib.hid h.ints
  obtain ⟨a', cap', hcut, hcc⟩ := tailC h k hk
  obtain ⟨a, cap, rfl, -⟩ := h
  obtain ⟨d, hd⟩ : ∃ d, n - k = d := ⟨_, rfl⟩
  rw [hd] at hcut hcc hm
  have hdi : (n : Int) - (k : Int) = (d : Int) := by omega
  have HSP := Lib.hid (ct_splice k m z)
  obtain ⟨X, hX⟩ : ∃ X, ((List.range m).map fun i => Value.int .i64 (z (k + i))) = X := ⟨_, rfl⟩
  rw [hX] at HSP
  have HG := Lib.hid (made_row w m)
  have hmk := make_ints m (by omega)
  have l1 : ¬ ((k : Int) < 0) := by omega
  have l2 : ¬ ((n : Int) < (k : Int)) := by omega
  have l3 : ¬ ((m : Int) < 0) := by omega
  have l4 : ¬ ((d : Int) < (m : Int)) := by omega
  have b0 := (Below.refl w.heap.size w).alloc (Nat.le_refl _) (.cells (madeCells #[.int .i64 0] m) 3)
  have HL : Hid (X.length = m) := Lib.hid (by rw [← hX]; simp)
  have HX1 : Hid (∀ u ∈ X, u.oneCell' = true) := Lib.hid (fun u hu => by
    rw [← hX] at hu
    simp at hu
    obtain ⟨j, _, rfl⟩ := hu
    rfl)
  have HPOS : Hid (0 < X.length → ∃ ad, a' = some ad ∧ ∀ j u, X[j]? = some u → (w.alloc (.cells (madeCells #[.int .i64 0] m) 3)).cell? (ad.add j) = some u) := Lib.hid (fun hp => by
    rw [HL.out] at hp
    obtain ⟨a2, c2, e2, _, hcc⟩ := hcc
    injection e2 with e2 _ _
    obtain ⟨x, e0, h1, h2⟩ := hcc 0 (by omega)
    rw [← e2] at e0
    refine ⟨x, e0, fun j u hu => ?_⟩
    rw [← hX] at hu
    rw [List.getElem?_map] at hu
    have hj : j < m := by
      by_cases hj : j < m
      · exact hj
      · rw [List.getElem?_eq_none (by simp; omega)] at hu
        simp at hu
    rw [List.getElem?_range hj] at hu
    simp at hu
    subst hu
    obtain ⟨x', e, h3, h4⟩ := hcc j (by omega)
    rw [← e2, e0] at e
    injection e with e
    subst e
    exact (b0.cell (p := x.add j) (by rw [add_block]; exact h1)).trans h4)
  have HMIN : Hid (X.length = Nat.min d m) := Lib.hid (by rw [HL.out]; exact (Nat.min_eq_right hm).symm)
  have HFIT : Hid (0 + X.length ≤ (List.replicate m (Value.int .i64 0)).length) := Lib.hid (by rw [HL.out, List.length_replicate]; omega)
  have BB := Lib.hid b0
  have hM : m ≤ 1000000 := by omega
  clear hb hA hs hd hX hcc b0 HL
  go_enter Try.func51, Try.ntmps51
  go_wp2_with fail
  refine (HB.out _ HH.out).mono ?_
  rintro e w' ⟨rfl, rfl⟩
  go_wp2_with ((with_reducible show wpList _ _ _ (⟨some 40, _, _, _, _, _⟩ :: _) _ _); refine wpList_copy_splice rfl (.tmp 36) (.tmp 39) 31 31 rfl 3 (by kernel_rfl) int_size (some ⟨w.heap.size, 0, none⟩) a' m m d cap' rfl rfl w.heap.size 0 (List.replicate m (.int .i64 0)) 3 HG.out X HMIN.out (fun hp => ⟨rfl, HPOS.out hp⟩) HFIT.out HX1.out w.heap.size w BB.out (Nat.le_refl _) ?_; intro w2 HG2 hB2)
  have O2 := Lib.hid (OF.of_row (f := cutF k z) HG2.out (Nat.le_refl w.heap.size) HSP.out hM)
  go_wp2
  go_ret2
  exact ⟨_, rfl, O2.out, hB2⟩
set_option maxRecDepth 100000 in
theorem iCut_any (v : Value) (n : Nat) (z : Nat → Int) (k m : Int) (w : World) (h : IntsC w v n z) (hn : n ≤ 1048576) :
    Calls Try.prog 51 #[v, .int .i64 k, .int .i64 m] w fun e w' => ∃ u, e = .returned (.tuple #[u, .bool (ctOK n z k m)]) ∧ OF w' w.heap.size u (ctN n z k m) (cutF k.toNat z) ∧ Below w.heap.size w w' := by
  have hb := fun w h => iSig_any v n z w h hn
  have HH := Lib.hid h.ints
  cases hs : sigB n z with
  | true =>
    cases hg : ctB n k m with
    | true =>
      obtain ⟨g1, g2, g3, g4⟩ := (ctB_iff n k m).1 hg
      obtain ⟨q, rfl⟩ : ∃ q : Nat, k = q := ⟨k.toNat, by omega⟩
      obtain ⟨p, rfl⟩ : ∃ p : Nat, m = p := ⟨m.toNat, by omega⟩
      rw [(ct_in hs hg).1, (ct_in hs hg).2]; exact iCut_yes v n z q p w h hs (by omega) (by omega)
    | false =>
      obtain ⟨e1, e2⟩ := ct_out (n := n) (f := z) (k := k) (m := m) (by rw [hg]; simp)
      rw [e1, e2]
      rw [hs] at hb
      have HB := Lib.hid hb
      have hgg : ¬ (0 ≤ k ∧ k ≤ n ∧ 0 ≤ m ∧ m ≤ n - k) := fun e => by rw [(ctB_iff n k m).2 e] at hg; cases hg
      obtain ⟨a, cap, rfl, -⟩ := h
      obtain ⟨hA, h3⟩ := (sigB_iff n z).1 hs
      clear hb hs hg e1 e2 hA
      by_cases l1 : k < 0
      · go_enter Try.func51, Try.ntmps51
        go_wp2_with fail
        refine (HB.out _ HH.out).mono ?_
        rintro e w' ⟨rfl, rfl⟩
        go_wp2
        go_ret2
        exact ⟨_, rfl, OF.nil _ _ _, Below.refl _ _⟩
      · by_cases l2 : (n : Int) < k
        · go_enter Try.func51, Try.ntmps51
          go_wp2_with fail
          refine (HB.out _ HH.out).mono ?_
          rintro e w' ⟨rfl, rfl⟩
          go_wp2
          go_ret2
          exact ⟨_, rfl, OF.nil _ _ _, Below.refl _ _⟩
        · by_cases l3 : m < 0
          · go_enter Try.func51, Try.ntmps51
            go_wp2_with fail
            refine (HB.out _ HH.out).mono ?_
            rintro e w' ⟨rfl, rfl⟩
            go_wp2
            go_ret2
            exact ⟨_, rfl, OF.nil _ _ _, Below.refl _ _⟩
          · have l4 : (n : Int) - k < m := by omega
            go_enter Try.func51, Try.ntmps51
            go_wp2_with fail
            refine (HB.out _ HH.out).mono ?_
            rintro e w' ⟨rfl, rfl⟩
            go_wp2
            go_ret2
            exact ⟨_, rfl, OF.nil _ _ _, Below.refl _ _⟩
  | false =>
    obtain ⟨e1, e2⟩ := ct_out (n := n) (f := z) (k := k) (m := m) (by rw [hs]; simp)
    rw [e1, e2]
    rw [hs] at hb
    have HB := Lib.hid hb
    obtain ⟨a, cap, rfl, -⟩ := h
    clear hb hs e1 e2
    go_enter Try.func51, Try.ntmps51
    go_wp2_with fail
    refine (HB.out _ HH.out).mono ?_
    rintro e w' ⟨rfl, rfl⟩
    go_wp2
    go_ret2
    exact ⟨_, rfl, OF.nil _ _ _, Below.refl _ _⟩
set_option maxHeartbeats 800000 in
set_option maxRecDepth 100000 in
theorem sCut_yes (v : Value) (n : Nat) (z : Nat → Int) (k m : Nat) (w : World) (h : IntsO w v n z) (hs : sigB n z = true) (hk : k ≤ n) (hm : m ≤ n - k) :
    Calls Try.prog 53 #[v, .int .i64 (k : Int), .int .i64 (m : Int)] w fun e w' => ∃ u, e = .returned (.tuple #[u, .bool true]) ∧ OF w' w.heap.size u m (cutF k z) ∧ Below w.heap.size w w' := by
  obtain ⟨hA, h3⟩ := (sigB_iff n z).1 hs
  have hb := fun w h => sSig_any v n z w h (by omega)
  rw [hs] at hb
  have HB := Lib.hid hb
  have HH := Lib.hid h.ints
  obtain ⟨e, he⟩ : ∃ e, k + m = e := ⟨_, rfl⟩
  obtain ⟨a', cap', hcut, hcc, ht⟩ := cutO h k e (by omega) (by omega)
  rw [show e - k = m by omega] at hcut hcc ht
  obtain ⟨a, cap, rfl, -⟩ := h.intsC
  have hei : (k : Int) + (m : Int) = (e : Int) := by omega
  have HT := Lib.hid ht
  have O0 := OF.empty0 w (cutF k z)
  have b0 := (Below.refl w.heap.size w).alloc (Nat.le_refl _) (.cells #[] 3)
  have HR := Lib.hid ((hcc.below b0).ints)
  have hM : m ≤ 1000000 := by omega
  have i1 : (0 : Int) ≤ (k : Int) := by omega
  have i2 : (k : Int) ≤ (n : Int) := by omega
  have i3 : (0 : Int) ≤ (m : Int) := by omega
  have i4 : (m : Int) ≤ (n : Int) - (k : Int) := by omega
  have HI1 := Lib.hid (fun w => l1In_yes (k : Int) 0 (n : Int) w i1 i2)
  have HI2 := Lib.hid (fun w => l1In_yes (m : Int) 0 ((n : Int) - (k : Int)) w i3 i4)
  clear hb hA hs hcc h he ht
  go_enter Try.func53, Try.ntmps53
  go_wp2_with fail
  refine (HB.out _ HH.out).mono ?_
  rintro e w' ⟨rfl, rfl⟩
  go_wp2_with fail
  refine (HI1.out _).mono ?_
  rintro e w' ⟨rfl, rfl⟩
  go_wp2_with fail
  refine (HI2.out _).mono ?_
  rintro e w' ⟨rfl, rfl⟩
  go_wp2_with (at_builtin; refine wpList_append_ints rfl (.tmp 28) (.tmp 34) rfl w.heap.size _ 0 (cutF k z) rfl O0 (.slice a' m cap') m (fun i => z (k + i)) rfl HR.out HT.out (by omega) (by simp) ?_; intro v' w2 O2 g2)
  have O3 := Lib.hid (show OF w2 w.heap.size v' m (cutF k z) from by have := OF.congr (g := cutF k z) O2 (fun j _ => by simp [cutF]); rwa [Nat.zero_add] at this)
  have b2 : Below w.heap.size w w2 := b0.grown g2 (by simp) (fun q hq => (O0.lt q hq).1)
  clear O2 g2 O0 b0
  go_wp2
  go_ret2
  exact ⟨_, rfl, O3.out, b2⟩
set_option maxRecDepth 100000 in
theorem sCut_any (v : Value) (n : Nat) (z : Nat → Int) (k m : Int) (w : World) (h : IntsO w v n z) (hn : n ≤ 1048576) :
    Calls Try.prog 53 #[v, .int .i64 k, .int .i64 m] w fun e w' => ∃ u, e = .returned (.tuple #[u, .bool (ctOK n z k m)]) ∧ OF w' w.heap.size u (ctN n z k m) (cutF k.toNat z) ∧ Below w.heap.size w w' := by
  have hb := fun w h => sSig_any v n z w h hn
  have HH := Lib.hid h.ints
  cases hs : sigB n z with
  | true =>
    cases hg : ctB n k m with
    | true =>
      obtain ⟨g1, g2, g3, g4⟩ := (ctB_iff n k m).1 hg
      obtain ⟨q, rfl⟩ : ∃ q : Nat, k = q := ⟨k.toNat, by omega⟩
      obtain ⟨p, rfl⟩ : ∃ p : Nat, m = p := ⟨m.toNat, by omega⟩
      rw [(ct_in hs hg).1, (ct_in hs hg).2]; exact sCut_yes v n z q p w h hs (by omega) (by omega)
    | false =>
      obtain ⟨e1, e2⟩ := ct_out (n := n) (f := z) (k := k) (m := m) (by rw [hg]; simp)
      rw [e1, e2]
      rw [hs] at hb
      have HB := Lib.hid hb
      have hgg : ¬ (0 ≤ k ∧ k ≤ n ∧ 0 ≤ m ∧ m ≤ n - k) := fun e => by rw [(ctB_iff n k m).2 e] at hg; cases hg
      obtain ⟨a, cap, rfl, -⟩ := h.intsC
      have O0 := Lib.hid (OF.empty0 w (cutF k.toNat z))
      obtain ⟨hA, h3⟩ := (sigB_iff n z).1 hs
      clear hb hs hg e1 e2 hA h
      by_cases l1 : 0 ≤ k ∧ k ≤ (n : Int)
      · have i1 : (0 : Int) ≤ k := by omega
        have i2 : k ≤ (n : Int) := by omega
        have hno : ¬ (0 ≤ m ∧ m ≤ (n : Int) - k) := by omega
        have HI1 := Lib.hid (fun w => l1In_yes k 0 (n : Int) w i1 i2)
        have HI2 := Lib.hid (fun w => l1In_no m 0 ((n : Int) - k) w hno)
        clear l1 hgg hno
        go_enter Try.func53, Try.ntmps53
        go_wp2_with fail
        refine (HB.out _ HH.out).mono ?_
        rintro e w' ⟨rfl, rfl⟩
        go_wp2_with fail
        refine (HI1.out _).mono ?_
        rintro e w' ⟨rfl, rfl⟩
        go_wp2_with fail
        refine (HI2.out _).mono ?_
        rintro e w' ⟨rfl, rfl⟩
        go_wp2
        go_ret2
        exact ⟨_, rfl, O0.out, (Below.refl _ _).alloc (Nat.le_refl _) _⟩
      · have HI1 := Lib.hid (fun w => l1In_no k 0 (n : Int) w l1)
        clear l1 hgg
        go_enter Try.func53, Try.ntmps53
        go_wp2_with fail
        refine (HB.out _ HH.out).mono ?_
        rintro e w' ⟨rfl, rfl⟩
        go_wp2_with fail
        refine (HI1.out _).mono ?_
        rintro e w' ⟨rfl, rfl⟩
        go_wp2
        go_ret2
        exact ⟨_, rfl, O0.out, (Below.refl _ _).alloc (Nat.le_refl _) _⟩
  | false =>
    obtain ⟨e1, e2⟩ := ct_out (n := n) (f := z) (k := k) (m := m) (by rw [hs]; simp)
    rw [e1, e2]
    rw [hs] at hb
    have HB := Lib.hid hb
    have O0 := Lib.hid (OF.empty0 w (cutF k.toNat z))
    obtain ⟨a, cap, rfl, -⟩ := h.intsC
    clear hb hs e1 e2 h
    go_enter Try.func53, Try.ntmps53
    go_wp2_with fail
    refine (HB.out _ HH.out).mono ?_
    rintro e w' ⟨rfl, rfl⟩
    go_wp2
    go_ret2
    exact ⟨_, rfl, O0.out, (Below.refl _ _).alloc (Nat.le_refl _) _⟩
end Go.Proofs.Ytlcnlhephhbhcaa
