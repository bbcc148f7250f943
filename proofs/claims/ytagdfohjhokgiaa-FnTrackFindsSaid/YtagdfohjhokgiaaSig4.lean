/- Appending and cutting slices of numbers; signals that are results; ScaleSignal and ClipSignal of both sides. -/
import Derived.Test.YtagdfohjhokgiaaSig3
import Derived.Laws.AppendOwnNone
namespace Go.Proofs.Ytagdfohjhokgiaa
open Go.RowKit
set_option linter.unusedVariables false
set_option maxRecDepth 100000
theorem wpList_append_ints {w : World} {ops : Array Oper} {rest : List Oper} {o : Oper} {a : Act} {Q : Exit → Act → World → Prop} (hgd : o.guard = none) (s x : Operand)
    (ho : o.op = .call { callee := .builtin .append, args := #[s, x], argTypes := #[28, 28] }) (B : Nat) (v : Value) (n : Nat) (f : Nat → Int) (hs : a.eval s = v) (hown : OF w B v n f)
    (u : Value) (m : Nat) (g : Nat → Int) (hx : a.eval x = u) (hu : IntsR w u m g) (hu0 : u = .slice none 0 0 ∨ ∃ x c, u = .slice (some x) m c) (hn : n + m ≤ 1000000) (hB : B ≤ w.heap.size)
    (h : ∀ v' w', OF w' B v' (n + m) (fun j => if j < n then f j else g (j - n)) → w.grownBy w' v.ownBlock → wpList Try.prog ops Q rest (a.put o.dst v') w') : wpList Try.prog ops Q (o :: rest) a w := by
  obtain ⟨i0, hi, hzz⟩ := Option.map_eq_some_iff.1 ints_info
  simp only [Prod.mk.injEq] at hzz
  obtain ⟨hz, hsz, hby⟩ := hzz
  have e : ((List.range (n + m)).map fun j => Value.int .i64 (if j < n then f j else g (j - n))) = ((List.range n).map fun j => Value.int .i64 (f j)) ++ ((List.range m).map fun j => Value.int .i64 (g j)) := by
    apply List.ext_getElem (by simp)
    intro j h1 h2
    simp at h1
    by_cases hj : j < n
    · rw [List.getElem_append_left (by simpa using hj)]; simp [hj]
    · rw [List.getElem_append_right (by simp; omega)]; simp [hj]
  rcases hu0 with rfl | ⟨ad, c, rfl⟩
  · have hm : m = 0 := by
      obtain ⟨a', c', e1, _⟩ := hu
      injection e1 with _ e2 _
      exact e2.symm
    subst hm
    refine wpList_append_own_none hgd s x 28 ho B 3 i0 1 (by kernel_rfl) hi v n _ hs hown hx ?_
    exact h v w (hown.congr fun j hj => by rw [if_pos hj]) ⟨rfl, rfl, rfl, Nat.le_refl _, fun _ _ _ => rfl⟩
  · obtain ⟨a', c', e1, hc⟩ := hu
    injection e1 with e1 _ _
    subst e1
    refine wpList_append_own w hgd s x 28 ho B 3 i0 (.int .i64 0) 1 8 (by kernel_rfl) hi hz hsz hby rfl (by decide) v n _ hs hown ad m c ((List.range m).map fun j => Value.int .i64 (g j)) hx (by simp) ?_ ?_ ?_ ?_ hB ?_
    · intro j y hj
      rw [List.getElem?_map] at hj
      by_cases hjm : j < m
      · rw [List.getElem?_range hjm] at hj
        simp at hj
        subst hj
        obtain ⟨x', e2, _, h3⟩ := hc j hjm
        injection e2 with e2
        subst e2
        exact h3
      · rw [List.getElem?_eq_none (by simp; omega)] at hj
        simp at hj
    · intro y hy
      simp at hy
      obtain ⟨j, _, rfl⟩ := hy
      rfl
    · unfold maxLen; omega
    · omega
    · intro v' w' h1 h2 _
      refine h v' w' ?_ h2
      unfold OF
      rw [e]; exact h1
theorem OF.tail0 {w : World} {B : Nat} {v : Value} {n : Nat} {f : Nat → Int} (h : OF w B v n f) : v = .slice none 0 0 ∨ ∃ x c, v = .slice (some x) n c := by
  obtain ⟨h1, ⟨rfl, rfl⟩ | ⟨g, cap, cur, rfl, _⟩⟩ := h
  · exact .inl rfl
  · exact .inr ⟨_, _, rfl⟩
theorem ints_elem (w : World) : (sizeOf (Try.prog.elem 28)).run Try.prog w = .ok 1 w := by kernel_rfl
theorem addr_plus (x : Addr) (i j : Nat) : (x.add i).add j = x.add (i + j) := by
  by_cases hi : i = 0
  · subst hi; simp [Addr.add]
  · by_cases hj : j = 0
    · subst hj; simp [Addr.add]
    · have h3 : ¬ i + j = 0 := by omega
      simp only [Addr.add, hi, hj, h3, if_false, Nat.add_assoc]
/-- A cut from a place on: again a slice that can be read and cut. -/
theorem cutC {w : World} {v : Value} {n : Nat} {f : Nat → Int} (h : IntsC w v n f) (l m : Nat) (hl : l ≤ m) (hm : m ≤ n) : ∃ a' cap', (∀ w1, (Instr.sliceAt 28 v (some (.int .i64 (l : Int))) (some (.int .i64 (m : Int))) none).run Try.prog w1 = .ok (.slice a' (m - l) cap') w1) ∧
    IntsC w (.slice a' (m - l) cap') (m - l) (fun i => f (l + i)) := by
  obtain ⟨a, cap, rfl, hcap, hc⟩ := h
  refine ⟨if cap = l then a else a.map (·.add (l * 1)), cap - l, fun w1 => ?_, ?_⟩
  · rw [run_sliceAt_slice w1 28 _ _ _ _ (by kernel_rfl), run_slice_lh w1 28 a n cap (by kernel_rfl) .i64 .i64 _ _ (by omega) (by omega) (by omega), ints_elem]
    simp [Result.andThen, sliced]
  · refine ⟨_, _, rfl, by omega, fun i hi => ?_⟩
    obtain ⟨x, rfl, h1, h2⟩ := hc (l + i) (by omega)
    refine ⟨x.add l, by rw [if_neg (by omega)]; simp, by rw [add_block]; exact h1, ?_⟩
    rw [addr_plus]; exact h2
theorem tailC {w : World} {v : Value} {n : Nat} {f : Nat → Int} (h : IntsC w v n f) (l : Nat) (hl : l ≤ n) : ∃ a' cap', (∀ w1, (Instr.sliceAt 28 v (some (.int .i64 (l : Int))) none none).run Try.prog w1 = .ok (.slice a' (n - l) cap') w1) ∧
    IntsC w (.slice a' (n - l) cap') (n - l) (fun i => f (l + i)) := by
  obtain ⟨a, cap, rfl, hcap, hc⟩ := h
  refine ⟨if cap = l then a else a.map (·.add (l * 1)), cap - l, fun w1 => ?_, ?_⟩
  · rw [run_sliceAt_slice w1 28 _ _ _ _ (by kernel_rfl), run_slice_l w1 28 a n cap (by kernel_rfl) .i64 _ (by omega) (by omega), ints_elem]
    simp [Result.andThen, sliced]
  · refine ⟨_, _, rfl, by omega, fun i hi => ?_⟩
    obtain ⟨x, rfl, h1, h2⟩ := hc (l + i) (by omega)
    refine ⟨x.add l, by rw [if_neg (by omega)]; simp, by rw [add_block]; exact h1, ?_⟩
    rw [addr_plus]; exact h2
/-- A result that must be a signal. -/
def resN (n : Nat) (f : Nat → Int) : Nat := if sigB n f then n else 0
theorem resN_le (n : Nat) (f : Nat → Int) : resN n f ≤ 3000 := by
  unfold resN
  split
  · exact ((sigB_iff n f).1 (by assumption)).2
  · omega
set_option maxRecDepth 100000 in
theorem iIf_any (v : Value) (B n : Nat) (f : Nat → Int) (w : World) (h : OF w B v n f) (hn : n ≤ 1048576) :
    Calls Try.prog 58 #[v] w fun e w' => ∃ u, e = .returned (.tuple #[u, .bool (sigB n f)]) ∧ OF w' B u (resN n f) f ∧ Below w.heap.size w w' := by
  have hb := fun w h => iSig_any v n f w h hn
  have HH := Lib.hid h
  have HR := Lib.hid h.ints
  cases hs : sigB n f with
  | true =>
    rw [show resN n f = n by unfold resN; rw [hs]; rfl]
    rw [hs] at hb
    have HB := Lib.hid hb
    clear hb h hs
    go_enter Try.func58, Try.ntmps58
    go_wp2_with fail
    refine (HB.out _ HR.out).mono ?_
    rintro e w' ⟨rfl, rfl⟩
    go_wp2
    go_ret2
    exact ⟨_, rfl, HH.out, Below.refl _ _⟩
  | false =>
    rw [show resN n f = 0 by unfold resN; rw [hs]; rfl]
    rw [hs] at hb
    have HB := Lib.hid hb
    clear hb h hs
    go_enter Try.func58, Try.ntmps58
    go_wp2_with fail
    refine (HB.out _ HR.out).mono ?_
    rintro e w' ⟨rfl, rfl⟩
    go_wp2
    go_ret2
    exact ⟨_, rfl, OF.nil _ _ _, Below.refl _ _⟩
theorem mul_bd {g y : Int} (h1 : -1000000 ≤ g) (h2 : g ≤ 1000000) (h3 : -1000000 ≤ y) (h4 : y ≤ 1000000) : -1000000000000 ≤ g * y ∧ g * y ≤ 1000000000000 := by
  have key : ∀ a b : Int, 0 ≤ a → a ≤ 1000000 → 0 ≤ b → b ≤ 1000000 → 0 ≤ a * b ∧ a * b ≤ 1000000000000 := fun a b p q r s =>
    ⟨Int.mul_nonneg p r, by have := Int.mul_le_mul q s r (by omega); omega⟩
  rcases Int.le_total 0 g with p | p <;> rcases Int.le_total 0 y with q | q
  · have := key g y p h2 q h4; omega
  · have := key g (-y) p h2 (by omega) (by omega); rw [Int.mul_neg] at this; omega
  · have := key (-g) y (by omega) (by omega) q h4; rw [Int.neg_mul] at this; omega
  · have := key (-g) (-y) (by omega) (by omega) (by omega) (by omega); rw [Int.neg_mul_neg] at this; omega
/-- Scaled samples. -/
def scF (g : Int) (f : Nat → Int) (i : Nat) : Int := g * f i
def scOK (n : Nat) (f : Nat → Int) (g : Int) : Bool := sigB n f && (inM g && sigB n (scF g f))
def scN (n : Nat) (f : Nat → Int) (g : Int) : Nat := if scOK n f g then n else 0
theorem scN_le6 (n : Nat) (f : Nat → Int) (g : Int) : scN n f g ≤ 1000000 := by
  unfold scN scOK
  split
  · rename_i h
    rw [Bool.and_eq_true] at h
    have := ((sigB_iff n f).1 h.1).2
    omega
  · omega
theorem scN_in {n : Nat} {f : Nat → Int} {g : Int} (h1 : sigB n f = true) (h2 : inM g = true) : scN n f g = resN n (scF g f) ∧ scOK n f g = sigB n (scF g f) := by
  unfold scN scOK resN; rw [h1, h2]; simp
theorem sc_out {n : Nat} {f : Nat → Int} {g : Int} (h : ¬ (sigB n f = true ∧ inM g = true)) : scN n f g = 0 ∧ scOK n f g = false := by
  have : scOK n f g = false := by
    unfold scOK
    cases h1 : sigB n f with
    | false => rfl
    | true =>
      cases h2 : inM g with
      | false => rfl
      | true => exact absurd ⟨h1, h2⟩ h
  exact ⟨by unfold scN; rw [this]; rfl, this⟩
set_option maxHeartbeats 800000 in
set_option maxRecDepth 100000 in
theorem iScale_yes (v : Value) (n : Nat) (z : Nat → Int) (g : Int) (w : World) (h : IntsR w v n z) (hs : sigB n z = true) (hg : inM g = true) :
    Calls Try.prog 43 #[v, .int .i64 g] w fun e w' => ∃ u, e = .returned (.tuple #[u, .bool (sigB n (scF g z))]) ∧ OF w' w.heap.size u (resN n (scF g z)) (scF g z) ∧ Below w.heap.size w w' := by
  obtain ⟨hA, h3⟩ := (sigB_iff n z).1 hs
  obtain ⟨g1, g2⟩ := (inM_iff g).1 hg
  have hb := fun w h => iSig_any v n z w h (by omega)
  rw [hs] at hb
  have HB := Lib.hid hb
  have HH := Lib.hid h
  obtain ⟨a, cap, rfl, hc⟩ := h
  have hmk := make_ints n (by omega)
  have HC := Lib.hid hc
  have HZ := Lib.hid (fun k (hk : k < n) => allM_at hA hk)
  have HI := Lib.hid (fun B v w h => iIf_any v B n (scF g z) w h (by omega))
  have l1 : ¬ (g < -1000000) := by omega
  have l2 : ¬ ((1000000 : Int) < g) := by omega
  clear hb hc hA hs hg
  go_enter Try.func43, Try.ntmps43
  go_wp2_with fail
  refine (HB.out _ HH.out).mono ?_
  rintro e w' ⟨rfl, rfl⟩
  go_wp2
  go_loopw [25] (fun i wr => ∃ k : Nat, k ≤ n ∧ i = .int .i64 k ∧ OF wr w.heap.size (.slice (some ⟨w.heap.size, 0, none⟩) n n) n (fun j => if j < k then scF g z j else 0) ∧ Below w.heap.size w wr) (fun i _ => n - (intOf i).toNat)
  case atStart => exact ⟨0, by omega, rfl, (OF.made w n (by omega)).congr (fun j _ => by simp), (Below.refl _ _).alloc (Nat.le_refl _) _⟩
  case round =>
    obtain ⟨k, hk, rfl, rO, rb⟩ := hrel
    clear hmk
    by_cases hlt : k < n
    · obtain ⟨x, rfl, hx, hcc⟩ := HC.out k hlt
      rw [← rb.cell (p := x.add k) (by rw [add_block]; exact hx)] at hcc
      obtain ⟨t1, t2⟩ := HZ.out k hlt
      obtain ⟨p1, p2⟩ := mul_bd g1 g2 t1 t2
      have hsc : scF g z k = g * z k := rfl
      obtain ⟨c1, c2⟩ := rO.at k hlt
      obtain ⟨y, hy⟩ : ∃ y, z k = y := ⟨_, rfl⟩
      rw [hy] at hcc t1 t2 p1 p2 hsc
      obtain ⟨P, hP⟩ : ∃ P, g * y = P := ⟨_, rfl⟩
      rw [show g * y = P by rw [← hP]] at p1 p2 hsc
      have i0 : (0 : Int) ≤ (k : Int) := by omega
      have i1 : (k : Int) < (n : Int) := by omega
      have nO : Hid (OF (wr.setCell ⟨w.heap.size, k, none⟩ (.int .i64 P)) w.heap.size (.slice (some ⟨w.heap.size, 0, none⟩) n n) n (fun j => if j < k + 1 then scF g z j else 0)) :=
        Lib.hid (rO.set k P hlt (fun j hj => by
          by_cases e : j = k
          · subst e; rw [if_pos (by omega), if_pos rfl]; exact hsc
          · rw [if_neg e]
            by_cases e' : j < k
            · rw [if_pos (by omega), if_pos e']
            · rw [if_neg (by omega), if_neg e']))
      have nb : Hid (Below w.heap.size w (wr.setCell ⟨w.heap.size, k, none⟩ (.int .i64 P))) := Lib.hid (bytes_below rb (Nat.le_refl _) _ _)
      clear rO rb hsc hy hx t1 t2
      go_wp2
      go_roundw
      case rel => exact ⟨k + 1, by omega, by go_num, nO.out, nb.out⟩
      case measure => simp [intOf]; omega
    · obtain rfl : k = n := by omega
      have nO := rO.congr (g := scF g z) (fun j hj => by rw [if_pos hj])
      clear rO
      go_wp2_with fail
      refine (HI.out _ _ _ nO).mono ?_
      rintro e w2 ⟨u, rfl, O2, b2⟩
      have c2 := below_then rb (Nat.le_refl _) b2
      go_wp2
      go_ret2
      exact ⟨_, rfl, O2, c2⟩
theorem iScale_any (v : Value) (n : Nat) (z : Nat → Int) (g : Int) (w : World) (h : IntsR w v n z) (hn : n ≤ 1048576) :
    Calls Try.prog 43 #[v, .int .i64 g] w fun e w' => ∃ u, e = .returned (.tuple #[u, .bool (scOK n z g)]) ∧ OF w' w.heap.size u (scN n z g) (scF g z) ∧ Below w.heap.size w w' := by
  have hb := fun w h => iSig_any v n z w h hn
  cases hs : sigB n z with
  | true =>
    cases hg : inM g with
    | true => rw [(scN_in hs hg).1, (scN_in hs hg).2]; exact iScale_yes v n z g w h hs hg
    | false =>
      obtain ⟨e1, e2⟩ := sc_out (n := n) (f := z) (g := g) (by rw [hg]; simp)
      rw [e1, e2]
      rw [hs] at hb
      have HB := Lib.hid hb
      have HH := Lib.hid h
      have hgg : ¬ (-1000000 ≤ g ∧ g ≤ 1000000) := fun e => by rw [(inM_iff g).2 e] at hg; cases hg
      clear hb hs hg h e1 e2
      by_cases l1 : g < -1000000
      · go_enter Try.func43, Try.ntmps43
        go_wp2_with fail
        refine (HB.out _ HH.out).mono ?_
        rintro e w' ⟨rfl, rfl⟩
        go_wp2
        go_ret2
        exact ⟨_, rfl, OF.nil _ _ _, Below.refl _ _⟩
      · have l2 : ((1000000 : Int) < g) := by omega
        go_enter Try.func43, Try.ntmps43
        go_wp2_with fail
        refine (HB.out _ HH.out).mono ?_
        rintro e w' ⟨rfl, rfl⟩
        go_wp2
        go_ret2
        exact ⟨_, rfl, OF.nil _ _ _, Below.refl _ _⟩
  | false =>
    obtain ⟨e1, e2⟩ := sc_out (n := n) (f := z) (g := g) (by rw [hs]; simp)
    rw [e1, e2]
    rw [hs] at hb
    have HB := Lib.hid hb
    have HH := Lib.hid h
    clear hb hs h e1 e2
    go_enter Try.func43, Try.ntmps43
    go_wp2_with fail
    refine (HB.out _ HH.out).mono ?_
    rintro e w' ⟨rfl, rfl⟩
    go_wp2
    go_ret2
    exact ⟨_, rfl, OF.nil _ _ _, Below.refl _ _⟩
end Go.Proofs.Ytagdfohjhokgiaa
