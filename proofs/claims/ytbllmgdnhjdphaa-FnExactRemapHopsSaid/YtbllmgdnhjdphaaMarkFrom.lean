/- Marks on numbers, from any number on. -/
import Derived.Test.YtbllmgdnhjdphaaIntsBig
namespace Go.Proofs.Ytbllmgdnhjdphaa
open Go.RowKit
set_option linter.unusedVariables false
set_option maxRecDepth 100000 in
theorem markIntS_from (v : Value) (B n : Nat) (Q : Int) (f : Nat → Int) (w : World) (hv : OF w B v n f) (hn : n ≤ 1048576) (hQ : 0 ≤ Q) (hQ2 : Q ≤ 100000000) :
    Calls Try.prog 19 #[v, .int .i64 Q] w fun e w' => e = .returned (.int .i64 (Q + (n : Int))) ∧ OF w' B v n (fun j => Q + (j : Int)) ∧ w.grownBy w' v.ownBlock := by
  obtain ⟨a, cap, rfl, ha⟩ := hv.form
  by_cases h0 : 0 < n
  · obtain ⟨g, rfl, hBg, hgl, hg⟩ := ha h0
    clear ha hg
    have HV := Lib.hid hv
    clear hv
    go_enter Try.func19, Try.ntmps19
    go_wp2
    go_loopw [5, 1] (fun i q wr => ∃ k : Nat, k ≤ n ∧ i = .int .i64 k ∧ q = .int .i64 (Q + (k : Int)) ∧ OF wr B (.slice (some ⟨g, 0, none⟩) n cap) n (fun j => if j < k then Q + (j : Int) else f j) ∧ w.grownBy wr (some g)) (fun i _ _ => n - (intOf i).toNat)
    case atStart => exact ⟨0, by omega, rfl, by simp, HV.out.congr (fun j _ => by simp), ⟨rfl, rfl, rfl, Nat.le_refl _, fun _ _ _ => rfl⟩⟩
    case round =>
      obtain ⟨k, hk, rfl, rfl, rO, rg⟩ := hrel
      by_cases hlt : k < n
      · obtain ⟨a', cap', hf1, hf2⟩ := rO.form
        obtain ⟨g', rfl, _, _, hc⟩ := hf2 h0
        injection hf1 with e1
        injection e1 with e1
        injection e1 with e1
        subst e1
        obtain ⟨c1, c2⟩ := hc k hlt
        have i0 : (0 : Int) ≤ (k : Int) := by omega
        have i1 : (k : Int) < (n : Int) := by omega
        have nO : Hid (OF (wr.setCell ⟨g, k, none⟩ (.int .i64 (Q + (k : Int)))) B (.slice (some ⟨g, 0, none⟩) n cap) n (fun j => if j < k + 1 then Q + (j : Int) else f j)) :=
          Lib.hid (rO.set k (Q + (k : Int)) hlt (fun j hj => by
            by_cases e : j = k
            · subst e; rw [if_pos (by omega), if_pos rfl]
            · rw [if_neg e]
              by_cases e' : j < k
              · rw [if_pos (by omega), if_pos e']
              · rw [if_neg (by omega), if_neg e']))
        have ng : Hid (w.grownBy (wr.setCell ⟨g, k, none⟩ (.int .i64 (Q + (k : Int)))) (some g)) := Lib.hid (rg.trans ⟨rfl, rfl, rfl, by simp, fun k hk hne => Below.heap_setCell _ _ _ _ (fun e => hne (by rw [e]))⟩)
        clear rO rg hc hf2
        go_wp2
        go_roundw
        case rel => exact ⟨k + 1, by omega, by go_num, by go_num, nO.out, ng.out⟩
        case measure => simp [intOf]; omega
      · obtain rfl : k = n := by omega
        have nO := Lib.hid (rO.congr (g := fun j => Q + (j : Int)) (fun j hj => by simp [hj]))
        clear rO
        go_wp2
        go_ret
        exact ⟨rfl, nO.out, rg⟩
  · obtain rfl : n = 0 := by omega
    have HV := Lib.hid (hv.congr (g := fun j => Q + (j : Int)) (fun j hj => absurd hj (Nat.not_lt_zero j)))
    clear ha hv
    go_enter Try.func19, Try.ntmps19
    go_wp2
    go_loop [5, 1] (fun i q => i = .int .i64 (0 : Nat) ∧ q = .int .i64 Q) (fun i _ => (intOf i).toNat)
    case atStart => exact ⟨rfl, rfl⟩
    case round =>
      obtain ⟨rfl, rfl⟩ := hrel
      go_wp2
      go_ret
      exact ⟨by simp, HV.out, ⟨rfl, rfl, rfl, Nat.le_refl _, fun _ _ _ => rfl⟩⟩
end Go.Proofs.Ytbllmgdnhjdphaa
