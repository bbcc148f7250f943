/- ClipSignal, CutSignal and DelaySignal of both sides. -/
import Derived.Test.YthfcfnamaedffaaSig4
namespace Go.Proofs.Ythfcfnamaedffaa
open Go.RowKit
set_option linter.unusedVariables false
set_option maxRecDepth 100000
/-- Limited samples. -/
def clF (l : Int) (f : Nat → Int) (i : Nat) : Int := max (-l) (min l (f i))
def inL (l : Int) : Bool := decide (0 ≤ l) && decide (l ≤ 1000000)
theorem inL_iff (l : Int) : inL l = true ↔ 0 ≤ l ∧ l ≤ 1000000 := by unfold inL; simp only [Bool.and_eq_true, decide_eq_true_eq]
def clOK (n : Nat) (f : Nat → Int) (l : Int) : Bool := sigB n f && inL l
def clN (n : Nat) (f : Nat → Int) (l : Int) : Nat := if clOK n f l then n else 0
theorem clN_le6 (n : Nat) (f : Nat → Int) (l : Int) : clN n f l ≤ 1000000 := by
  unfold clN clOK
  split
  · rename_i h
    rw [Bool.and_eq_true] at h
    have := ((sigB_iff n f).1 h.1).2
    omega
  · omega
theorem cl_in {n : Nat} {f : Nat → Int} {l : Int} (h1 : sigB n f = true) (h2 : inL l = true) : clN n f l = n ∧ clOK n f l = true := by
  unfold clN clOK; rw [h1, h2]; simp
theorem cl_out {n : Nat} {f : Nat → Int} {l : Int} (h : ¬ (sigB n f = true ∧ inL l = true)) : clN n f l = 0 ∧ clOK n f l = false := by
  have : clOK n f l = false := by
    unfold clOK
    cases h1 : sigB n f with
    | false => rfl
    | true =>
      cases h2 : inL l with
      | false => rfl
      | true => exact absurd ⟨h1, h2⟩ h
  exact ⟨by unfold clN; rw [this]; rfl, this⟩
set_option maxHeartbeats 1600000 in
set_option maxRecDepth 100000 in
theorem iClip_yes (v : Value) (n : Nat) (z : Nat → Int) (l : Int) (w : World) (h : IntsR w v n z) (hs : sigB n z = true) (hg : inL l = true) :
    Calls Try.prog 29 #[v, .int .i64 l] w fun e w' => ∃ u, e = .returned (.tuple #[u, .bool true]) ∧ OF w' w.heap.size u n (clF l z) ∧ Below w.heap.size w w' := by
  obtain ⟨hA, h3⟩ := (sigB_iff n z).1 hs
  obtain ⟨g1, g2⟩ := (inL_iff l).1 hg
  have hb := fun w h => iSig_any v n z w h (by omega)
  rw [hs] at hb
  have HB := Lib.hid hb
  have HH := Lib.hid h
  obtain ⟨a, cap, rfl, hc⟩ := h
  have hmk := make_ints n (by omega)
  have HC := Lib.hid hc
  have l1 : ¬ (l < 0) := by omega
  have l2 : ¬ ((1000000 : Int) < l) := by omega
  clear hb hc hA hs hg
  go_enter Try.func29, Try.ntmps29
  go_wp2_with fail
  refine (HB.out _ HH.out).mono ?_
  rintro e w' ⟨rfl, rfl⟩
  go_wp2
  go_loopw [25] (fun i wr => ∃ k : Nat, k ≤ n ∧ i = .int .i64 k ∧ OF wr w.heap.size (.slice (some ⟨w.heap.size, 0, none⟩) n n) n (fun j => if j < k then clF l z j else 0) ∧ Below w.heap.size w wr) (fun i _ => n - (intOf i).toNat)
  case atStart => exact ⟨0, by omega, rfl, (OF.made w n (by omega)).congr (fun j _ => by simp), (Below.refl _ _).alloc (Nat.le_refl _) _⟩
  case round =>
    obtain ⟨k, hk, rfl, rO, rb⟩ := hrel
    clear hmk
    by_cases hlt : k < n
    · obtain ⟨x, rfl, hx, hcc⟩ := HC.out k hlt
      rw [← rb.cell (p := x.add k) (by rw [add_block]; exact hx)] at hcc
      have hsc : clF l z k = max (-l) (min l (z k)) := rfl
      obtain ⟨c1, c2⟩ := rO.at k hlt
      obtain ⟨y, hy⟩ : ∃ y, z k = y := ⟨_, rfl⟩
      rw [hy] at hcc hsc
      have i0 : (0 : Int) ≤ (k : Int) := by omega
      have i1 : (k : Int) < (n : Int) := by omega
      by_cases h1 : y < l
      · have hmin : min l y = y := by omega
        by_cases h2 : -l < y
        · have hmax : max (-l) y = y := by omega
          have nO : Hid (OF (wr.setCell ⟨w.heap.size, k, none⟩ (.int .i64 (y))) w.heap.size (.slice (some ⟨w.heap.size, 0, none⟩) n n) n (fun j => if j < k + 1 then clF l z j else 0)) :=
            Lib.hid (rO.set k (y) hlt (fun j hj => by
              by_cases e : j = k
              · subst e; rw [if_pos (by omega), if_pos rfl]; rw [hsc, hmin]; exact hmax
              · rw [if_neg e]
                by_cases e' : j < k
                · rw [if_pos (by omega), if_pos e']
                · rw [if_neg (by omega), if_neg e']))
          have nb : Hid (Below w.heap.size w (wr.setCell ⟨w.heap.size, k, none⟩ (.int .i64 (y)))) := Lib.hid (bytes_below rb (Nat.le_refl _) _ _)
          clear rO rb hsc hy hx
          go_wp2
          go_roundw
          case rel => exact ⟨k + 1, by omega, by go_num, nO.out, nb.out⟩
          case measure => simp [intOf]; omega
        · have hmax : max (-l) y = -l := by omega
          have nO : Hid (OF (wr.setCell ⟨w.heap.size, k, none⟩ (.int .i64 (-l))) w.heap.size (.slice (some ⟨w.heap.size, 0, none⟩) n n) n (fun j => if j < k + 1 then clF l z j else 0)) :=
            Lib.hid (rO.set k (-l) hlt (fun j hj => by
              by_cases e : j = k
              · subst e; rw [if_pos (by omega), if_pos rfl]; rw [hsc, hmin]; exact hmax
              · rw [if_neg e]
                by_cases e' : j < k
                · rw [if_pos (by omega), if_pos e']
                · rw [if_neg (by omega), if_neg e']))
          have nb : Hid (Below w.heap.size w (wr.setCell ⟨w.heap.size, k, none⟩ (.int .i64 (-l)))) := Lib.hid (bytes_below rb (Nat.le_refl _) _ _)
          clear rO rb hsc hy hx
          go_wp2
          go_roundw
          case rel => exact ⟨k + 1, by omega, by go_num, nO.out, nb.out⟩
          case measure => simp [intOf]; omega
      · have hmin : min l y = l := by omega
        by_cases h2 : -l < l
        · have hmax : max (-l) l = l := by omega
          have nO : Hid (OF (wr.setCell ⟨w.heap.size, k, none⟩ (.int .i64 (l))) w.heap.size (.slice (some ⟨w.heap.size, 0, none⟩) n n) n (fun j => if j < k + 1 then clF l z j else 0)) :=
            Lib.hid (rO.set k (l) hlt (fun j hj => by
              by_cases e : j = k
              · subst e; rw [if_pos (by omega), if_pos rfl]; rw [hsc, hmin]; exact hmax
              · rw [if_neg e]
                by_cases e' : j < k
                · rw [if_pos (by omega), if_pos e']
                · rw [if_neg (by omega), if_neg e']))
          have nb : Hid (Below w.heap.size w (wr.setCell ⟨w.heap.size, k, none⟩ (.int .i64 (l)))) := Lib.hid (bytes_below rb (Nat.le_refl _) _ _)
          clear rO rb hsc hy hx
          go_wp2
          go_roundw
          case rel => exact ⟨k + 1, by omega, by go_num, nO.out, nb.out⟩
          case measure => simp [intOf]; omega
        · have hmax : max (-l) l = -l := by omega
          have nO : Hid (OF (wr.setCell ⟨w.heap.size, k, none⟩ (.int .i64 (-l))) w.heap.size (.slice (some ⟨w.heap.size, 0, none⟩) n n) n (fun j => if j < k + 1 then clF l z j else 0)) :=
            Lib.hid (rO.set k (-l) hlt (fun j hj => by
              by_cases e : j = k
              · subst e; rw [if_pos (by omega), if_pos rfl]; rw [hsc, hmin]; exact hmax
              · rw [if_neg e]
                by_cases e' : j < k
                · rw [if_pos (by omega), if_pos e']
                · rw [if_neg (by omega), if_neg e']))
          have nb : Hid (Below w.heap.size w (wr.setCell ⟨w.heap.size, k, none⟩ (.int .i64 (-l)))) := Lib.hid (bytes_below rb (Nat.le_refl _) _ _)
          clear rO rb hsc hy hx
          go_wp2
          go_roundw
          case rel => exact ⟨k + 1, by omega, by go_num, nO.out, nb.out⟩
          case measure => simp [intOf]; omega
    · obtain rfl : k = n := by omega
      have nO := Lib.hid (rO.congr (g := clF l z) (fun j hj => by rw [if_pos hj]))
      clear rO
      go_wp2
      go_ret2
      exact ⟨_, rfl, nO.out, rb⟩
set_option maxRecDepth 100000 in
theorem iClip_any (v : Value) (n : Nat) (z : Nat → Int) (l : Int) (w : World) (h : IntsR w v n z) (hn : n ≤ 1048576) :
    Calls Try.prog 29 #[v, .int .i64 l] w fun e w' => ∃ u, e = .returned (.tuple #[u, .bool (clOK n z l)]) ∧ OF w' w.heap.size u (clN n z l) (clF l z) ∧ Below w.heap.size w w' := by
  have hb := fun w h => iSig_any v n z w h hn
  cases hs : sigB n z with
  | true =>
    cases hg : inL l with
    | true => rw [(cl_in hs hg).1, (cl_in hs hg).2]; exact iClip_yes v n z l w h hs hg
    | false =>
      obtain ⟨e1, e2⟩ := cl_out (n := n) (f := z) (l := l) (by rw [hg]; simp)
      rw [e1, e2]
      rw [hs] at hb
      have HB := Lib.hid hb
      have HH := Lib.hid h
      have hgg : ¬ (0 ≤ l ∧ l ≤ 1000000) := fun e => by rw [(inL_iff l).2 e] at hg; cases hg
      clear hb hs hg h e1 e2
      by_cases l1 : l < 0
      · go_enter Try.func29, Try.ntmps29
        go_wp2_with fail
        refine (HB.out _ HH.out).mono ?_
        rintro e w' ⟨rfl, rfl⟩
        go_wp2
        go_ret2
        exact ⟨_, rfl, OF.nil _ _ _, Below.refl _ _⟩
      · have l2 : ((1000000 : Int) < l) := by omega
        go_enter Try.func29, Try.ntmps29
        go_wp2_with fail
        refine (HB.out _ HH.out).mono ?_
        rintro e w' ⟨rfl, rfl⟩
        go_wp2
        go_ret2
        exact ⟨_, rfl, OF.nil _ _ _, Below.refl _ _⟩
  | false =>
    obtain ⟨e1, e2⟩ := cl_out (n := n) (f := z) (l := l) (by rw [hs]; simp)
    rw [e1, e2]
    rw [hs] at hb
    have HB := Lib.hid hb
    have HH := Lib.hid h
    clear hb hs h e1 e2
    go_enter Try.func29, Try.ntmps29
    go_wp2_with fail
    refine (HB.out _ HH.out).mono ?_
    rintro e w' ⟨rfl, rfl⟩
    go_wp2
    go_ret2
    exact ⟨_, rfl, OF.nil _ _ _, Below.refl _ _⟩
end Go.Proofs.Ythfcfnamaedffaa
