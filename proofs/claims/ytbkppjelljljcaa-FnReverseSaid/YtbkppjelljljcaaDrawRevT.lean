/- The draw of ReverseTaps; what IsMaximal of the program tells. -/
import Derived.Test.YtbkppjelljljcaaDraw3
import Derived.Test.YtbkppjelljljcaaMaxMath
import Derived.Test.YtbkppjelljljcaaOrbUse
import Derived.Test.YtbkppjelljljcaaRegMax
import Derived.BigQuiet
namespace Go.Proofs.Ytbkppjelljljcaa
open Go.RowKit
set_option linter.unusedVariables false
set_option maxRecDepth 100000
theorem drawRevT_any (a : Option Addr) (len cap : Nat) (zs : List Int) (w : World) (h : IsBytes w a len cap zs) :
    Calls Try.prog 17 #[.slice a len cap] w fun e w' => ∃ S T : Int, e = .returned (.tuple #[.int .i64 S, .int .i64 T]) ∧ Below w.heap.size w w' := by
  go_enter Try.func17, Try.ntmps17
  go_wp2_with fail
  refine (drawBack_any a len cap zs _ h).mono ?_
  rintro e w1 ⟨S, T, X, rfl, -, -, -, b1⟩
  clear h
  have b2 := b1.alloc b1.size (.cells #[.int .i64 S, .int .i64 T, .int .i64 X] 24)
  go_wp2_with fail
  go_quiet (fail)
  have b3 := below_drewN b2 nq
  clear b1 b2
  go_wp2
  refine bodyPost_ret (v := .tuple #[.int .i64 S, .int .i64 T]) (by simp [results, Try.results17, go_sem]) rfl ⟨S, T, rfl, b3⟩
theorem iMaxP (s t : Nat) (h2 : 2 ≤ s) (h8 : s ≤ 8) (h1 : 1 ≤ t) (ht : t < tw s) : ∃ bb : Bool, (bb = true ↔ MaxP s t) ∧
    (∀ w, Calls Try.prog 23 #[.int .i64 s, .int .i64 t] w fun e w' => e = .returned (.bool bb) ∧ Below w.heap.size w w') := by
  have h4 := tw_four s h2
  have hr : RegN s t 1 := ⟨h2, h8, h1, ht, by omega⟩
  obtain ⟨L, P, o, h256, ip, sp⟩ := per_all hr
  have hv : tapsB s t = true := (tapsB_iff _ _).2 ⟨by omega, by omega, by omega, by rw [Int.toNat_natCast]; omega⟩
  refine ⟨decide ((P : Int) = (tw s : Int) - 1), ⟨fun h => ?_, fun h => ?_⟩, fun w => iMaximal_of s t _ h8 hv ip w⟩
  · have e := of_decide_eq_true h
    obtain rfl : P = tw s - 1 := by omega
    exact ⟨hr, L, o⟩
  · obtain ⟨-, L', o'⟩ := h
    have e := (o.same o').2
    exact decide_eq_true (by omega)
end Go.Proofs.Ytbkppjelljljcaa
