/- The draw of CrossValues. -/
import Derived.Test.YtmmonhagceacjaaDraw9
namespace Go.Proofs.Ytmmonhagceacjaa
open Go.RowKit
set_option linter.unusedVariables false
set_option maxRecDepth 100000 in
theorem drawVals_any (a : Option Addr) (len cap : Nat) (zs : List Int) (w : World) (h : IsBytes w a len cap zs) :
    Calls Try.prog 47 #[.slice a len cap] w (DrawTwo w) := by
  go_enter Try.func47, Try.ntmps47
  go_wp2_with fail
  refine (open_any a len cap zs _ h).mono ?_
  rintro e w1 ⟨b, ys, rfl, hr, hb, hlb⟩
  go_wp2_with fail
  refine (l2Two_any b 0 ys _ hr (by omega)).mono ?_
  rintro e w2 ⟨x, y, q, rfl, hx, hy, hq, hr2, hg2⟩
  have b2 := below_grown hb (Nat.le_refl _) hg2 hlb
  clear hr hb hg2
  go_wp2
  go_ret2
  exact ⟨x, y, rfl, hx, hy, b2⟩
end Go.Proofs.Ytmmonhagceacjaa
