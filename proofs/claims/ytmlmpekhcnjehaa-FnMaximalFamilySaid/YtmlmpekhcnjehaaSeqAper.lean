/- Contracts of AperiodicOf, of both sides. -/
import Derived.Test.YtmlmpekhcnjehaaSeqFun
namespace Go.Proofs.Ytmlmpekhcnjehaa
open Go.RowKit
set_option linter.unusedVariables false
theorem quiet_drew {P : Program} {f : FuncId} {args : Array Value} {w : World} {n : Nat} {v : Value}
    (h : Calls P f args (w.drewN n) fun e w' => e = .returned v ∧ ∃ m, w' = (w.drewN n).drewN m) : Calls P f args (w.drewN n) fun e w'' => e = .returned v ∧ ∃ m, w'' = w.drewN m :=
  h.mono fun _ _ ⟨he, m, hm⟩ => ⟨he, n + m, by rw [hm, World.drewN_drewN]⟩
def aperAns (z : ByteArray) (k : Int) : Int × Bool := if seqB z && (decide (0 ≤ k) && decide (k < z.size)) then (aperN z k.toNat, true) else noI
theorem aperAns_no {z : ByteArray} {k : Int} (h : ¬ (seqB z = true ∧ 0 ≤ k ∧ k < z.size)) : aperAns z k = noI := by
  unfold aperAns
  rw [if_neg]
  intro e
  simp only [Bool.and_eq_true, decide_eq_true_eq] at e
  exact h e
theorem aperAns_yes {z : ByteArray} {k : Nat} (h : seqB z = true) (hk : k < z.size) : aperAns z k = (aperN z k, true) := by
  unfold aperAns
  rw [if_pos (by simp only [Bool.and_eq_true, decide_eq_true_eq]; exact ⟨h, by omega, by omega⟩)]
  rfl
theorem aper_cut (z : ByteArray) (k : Nat) (hk : k < z.size) : sumI (fun i => agr (zb (z.extract 0 (z.size - k)) i) (zb (z.extract k z.size) i)) (z.extract 0 (z.size - k)).size = aperN z k := by
  have s1 := size_extract z 0 (z.size - k) (by omega)
  rw [s1]
  exact sumI_congr _ fun i hi => by rw [zb_extract _ _ _ _ (by omega) (by omega), zb_extract _ _ _ _ (by omega) (by omega), Nat.zero_add]
end Go.Proofs.Ytmlmpekhcnjehaa
