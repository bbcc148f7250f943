/- The draw of TreeCode. -/
import Derived.Test.YtgfehabpoebaoaaDrawTree
namespace Go.Proofs.Ytgfehabpoebaoaa
open Go.RowKit
set_option linter.unusedVariables false
set_option maxRecDepth 100000
set_option maxHeartbeats 1600000 in
theorem drawTC_any (a : Option Addr) (len cap : Nat) (zs : List Int) (w : World) (h : IsBytes w a len cap zs) :
    Calls Try.prog 19 #[.slice a len cap] w fun e w' => ∃ z : ByteArray, e = .returned (.string z) ∧ z.size ≤ 1000 ∧ Below w.heap.size w w' := by
  go_enter Try.func19, Try.ntmps19
  go_wp2_with fail
  refine (open_any a len cap zs _ h).mono ?_
  rintro e w1 ⟨b, ys, rfl, hr, hb, hlb⟩
  clear h
  go_wp2_with fail
  refine (l1String_any b 0 6 ys _ hr (by omega) (by omega)).mono ?_
  rintro e w2 ⟨z, q, rfl, hz, hq, r2, h2⟩
  clear hr
  go_wp2_with fail
  refine (l3Bent_any b q ys z _ r2 (by omega) (by omega)).mono ?_
  rintro e w3 ⟨y, rfl, hy, r3, h3⟩
  have b3 := below_grown hb (Nat.le_refl _) (h2.trans h3) hlb
  clear hb h2 h3 r2 r3
  go_wp2
  go_ret
  exact ⟨y, rfl, by omega, b3⟩
end Go.Proofs.Ytgfehabpoebaoaa
