/- Signals added: l4Add of the model, superposed of the program, AddSignals of both sides. superposed of the program, AddSignals of both sides. AddSignals of both sides. -/
import Derived.Test.YtagdfohjhokgiaaSig6
import Derived.IntWalk
namespace Go.Proofs.Ytagdfohjhokgiaa
open Go.RowKit
set_option linter.unusedVariables false
set_option maxRecDepth 100000
/-- A sample, 0 behind the end. -/
def smp (n : Nat) (f : Nat → Int) (j : Nat) : Int := if j < n then f j else 0
theorem smp_bd {n : Nat} {f : Nat → Int} (h : allM n f = true) (j : Nat) : -1000000 ≤ smp n f j ∧ smp n f j ≤ 1000000 := by
  unfold smp
  split
  · exact allM_at h (by assumption)
  · omega
/-- The sum of two signals. -/
def agF (n : Nat) (f : Nat → Int) (m : Nat) (g : Nat → Int) (j : Nat) : Int := smp n f j + smp m g j
theorem ag_splice {M n : Nat} (f : Nat → Int) (h : n ≤ M) : splice (List.replicate M (Value.int .i64 0)) 0 ((List.range n).map fun i => Value.int .i64 (f i)) = (List.range M).map fun j => Value.int .i64 (smp n f j) := by
  unfold splice
  apply List.ext_getElem (by simp; omega)
  intro j h1 h2
  simp at h2
  by_cases hj : j < n
  · simp [smp, hj]
  · simp only [List.take_zero, List.nil_append]
    rw [List.getElem_append_right (by simp; omega)]
    simp [smp, hj]
end Go.Proofs.Ytagdfohjhokgiaa
namespace Go.Proofs.Ytagdfohjhokgiaa
open Go.RowKit
set_option linter.unusedVariables false
set_option maxRecDepth 100000
/-- A slice of N signals that can be read: signal i has ns i samples, fs i. -/
def SigsR (w : World) (v : Value) (N : Nat) (ns : Nat → Nat) (fs : Nat → Nat → Int) : Prop :=
  ∃ a cap, v = .slice a N cap ∧ ∀ i, i < N → ∃ (x : Addr) (u : Value), a = some x ∧ x.block < w.heap.size ∧ w.cell? (x.add i) = some u ∧ IntsR w u (ns i) (fs i)
theorem SigsR.below {w w' : World} {v : Value} {N : Nat} {ns : Nat → Nat} {fs : Nat → Nat → Int} (h : SigsR w v N ns fs) (hb : Below w.heap.size w w') : SigsR w' v N ns fs := by
  obtain ⟨a, cap, rfl, hc⟩ := h
  refine ⟨a, cap, rfl, fun i hi => ?_⟩
  obtain ⟨x, u, rfl, h1, h2, h3⟩ := hc i hi
  exact ⟨x, u, rfl, Nat.lt_of_lt_of_le h1 hb.size, (hb.cell (p := x.add i) (by rw [add_block]; exact h1)).trans h2, h3.below hb⟩
/-- The length of the longest signal, and the sum of all of them. -/
def mxN (ns : Nat → Nat) : Nat → Nat
  | 0 => 0
  | k + 1 => max (mxN ns k) (ns k)
theorem mxN_ge (ns : Nat → Nat) : ∀ N i, i < N → ns i ≤ mxN ns N
  | N + 1, i, h => by
    simp only [mxN]
    by_cases e : i = N
    · subst e; omega
    · have := mxN_ge ns N i (by omega); omega
theorem mxN_le {ns : Nat → Nat} {M : Nat} : ∀ N, (∀ i, i < N → ns i ≤ M) → mxN ns N ≤ M
  | 0, _ => Nat.zero_le _
  | N + 1, h => by
    have h1 := mxN_le (M := M) N (fun i hi => h i (by omega))
    have h2 := h N (by omega)
    simp only [mxN]; omega
def smF (ns : Nat → Nat) (fs : Nat → Nat → Int) (N : Nat) (j : Nat) : Int := sumI (fun i => smp (ns i) (fs i) j) N
theorem smF_succ (ns : Nat → Nat) (fs : Nat → Nat → Int) (N j : Nat) : smF ns fs (N + 1) j = smF ns fs N j + smp (ns N) (fs N) j := rfl
theorem smF_bd {ns : Nat → Nat} {fs : Nat → Nat → Int} (j : Nat) : ∀ N : Nat, (∀ i, i < N → allM (ns i) (fs i) = true) → -(1000000 * (N : Int)) ≤ smF ns fs N j ∧ smF ns fs N j ≤ 1000000 * (N : Int)
  | 0, _ => by simp [smF, sumI]
  | N + 1, h => by
    have ih := smF_bd (ns := ns) (fs := fs) j N (fun i hi => h i (by omega))
    have := smp_bd (h N (by omega)) j
    rw [smF_succ]; omega
end Go.Proofs.Ytagdfohjhokgiaa
namespace Go.Proofs.Ytagdfohjhokgiaa
open Go.RowKit
set_option linter.unusedVariables false
set_option maxRecDepth 100000
def adOK (n : Nat) (f : Nat → Int) (m : Nat) (g : Nat → Int) : Bool := sigB n f && (sigB m g && sigB (max n m) (agF n f m g))
def adN (n : Nat) (f : Nat → Int) (m : Nat) (g : Nat → Int) : Nat := if adOK n f m g then max n m else 0
theorem adN_le6 (n : Nat) (f : Nat → Int) (m : Nat) (g : Nat → Int) : adN n f m g ≤ 1000000 := by
  unfold adN adOK
  split
  · rename_i h
    simp only [Bool.and_eq_true] at h
    have := ((sigB_iff _ _).1 h.2.2).2
    omega
  · omega
theorem ad_in {n : Nat} {f : Nat → Int} {m : Nat} {g : Nat → Int} (h1 : sigB n f = true) (h2 : sigB m g = true) : adN n f m g = resN (max n m) (agF n f m g) ∧ adOK n f m g = sigB (max n m) (agF n f m g) := by
  unfold adN adOK resN; rw [h1, h2]; simp
theorem ad_out {n : Nat} {f : Nat → Int} {m : Nat} {g : Nat → Int} (h : ¬ (sigB n f = true ∧ sigB m g = true)) : adN n f m g = 0 ∧ adOK n f m g = false := by
  have : adOK n f m g = false := by
    unfold adOK
    cases h1 : sigB n f with
    | false => rfl
    | true =>
      cases h2 : sigB m g with
      | false => rfl
      | true => exact absurd ⟨h1, h2⟩ h
  exact ⟨by unfold adN; rw [this]; rfl, this⟩
def two (α : Type) (x y : α) (i : Nat) : α := if i = 0 then x else y
theorem mx_two (n m : Nat) : mxN (two Nat n m) 2 = max n m := by simp [mxN, two]
theorem sm_two (n : Nat) (f : Nat → Int) (m : Nat) (g : Nat → Int) : smF (two Nat n m) (two (Nat → Int) f g) 2 = agF n f m g := by
  funext j
  simp [smF, sumI, two, agF]
end Go.Proofs.Ytagdfohjhokgiaa
