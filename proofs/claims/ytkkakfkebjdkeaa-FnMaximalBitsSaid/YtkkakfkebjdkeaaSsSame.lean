/- ssInts of two lists of the call's own with the same numbers. -/
import Derived.Test.YtkkakfkebjdkeaaInts
import Derived.BigQuiet
namespace Go.Proofs.Ytkkakfkebjdkeaa
open Go.RowKit
set_option linter.unusedVariables false
set_option maxRecDepth 100000 in
theorem ssInts_same (v u : Value) (B C n : Nat) (f : Nat → Int) (w : World) (hv : OF w B v n f) (hu : OF w C u n f) (hn : n ≤ 1000000) :
    Calls Try.prog 15 #[v, u] w fun e w' => e = .returned (.bool true) ∧ ∃ m, w' = w.drewN m := by
  obtain ⟨a, cap, rfl, ha⟩ := hv.form
  obtain ⟨b, cap', rfl, hb⟩ := hu.form
  clear hv hu
  by_cases h0 : 0 < n
  · obtain ⟨g, rfl, _, _, hg⟩ := ha h0
    obtain ⟨g', rfl, _, _, hg'⟩ := hb h0
    have HG := Lib.hid hg
    have HG' := Lib.hid hg'
    clear ha hb hg hg'
    go_enter Try.func15, Try.ntmps15
    go_wp2
    go_loopw [5] (fun i wr => ∃ k m : Nat, k ≤ n ∧ i = .int .i64 k ∧ wr = w.drewN m) (fun i _ => n - (intOf i).toNat)
    case atStart => exact ⟨0, 0, by omega, rfl, rfl⟩
    case round =>
      obtain ⟨k, m, hk, rfl, rfl⟩ := hrel
      by_cases hlt : k < n
      · have c1 : (w.drewN m).cell? ⟨g, k, none⟩ = some (.int .i64 (f k)) := (HG.out k hlt).1
        have c2 : (w.drewN m).cell? ⟨g', k, none⟩ = some (.int .i64 (f k)) := (HG'.out k hlt).1
        obtain ⟨W, hW⟩ : ∃ W, w.drewN m = W := ⟨_, rfl⟩
        rw [hW] at c1 c2 ⊢
        have HW := Lib.hid hW
        have i0 : (0 : Int) ≤ (k : Int) := by omega
        have i1 : (k : Int) < (n : Int) := by omega
        clear hW
        go_wp2_with fail
        go_quiet (fail)
        clear c1 c2
        go_wp2
        go_roundw
        case rel => exact ⟨k + 1, m + nq, by omega, by go_num, by rw [← HW.out, World.drewN_drewN]⟩
        case measure => simp [intOf]; omega
      · obtain rfl : k = n := by omega
        go_wp2
        go_ret
        exact ⟨rfl, m, rfl⟩
  · obtain rfl : n = 0 := by omega
    clear ha hb
    go_enter Try.func15, Try.ntmps15
    go_wp2
    go_loop [5] (fun i => i = .int .i64 (0 : Nat)) (fun i => (intOf i).toNat)
    case atStart => exact rfl
    case round =>
      obtain rfl := hrel
      go_wp2
      go_ret
      exact ⟨rfl, 0, rfl⟩
end Go.Proofs.Ytkkakfkebjdkeaa
