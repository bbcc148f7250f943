/- The draw of ReverseBits. -/
import Derived.Test.YtmmonhagceacjaaDraw9
namespace Go.Proofs.Ytmmonhagceacjaa
open Go.RowKit
set_option linter.unusedVariables false
set_option maxRecDepth 100000
def OnePost (w : World) (e : Ending) (w' : World) : Prop := ∃ z : ByteArray, e = .returned (.string z) ∧ z.size ≤ 300 ∧ Below w.heap.size w w'
theorem drawRevB_any (a : Option Addr) (len cap : Nat) (zs : List Int) (w : World) (h : IsBytes w a len cap zs) :
    Calls Try.prog 36 #[.slice a len cap] w (OnePost w) := by
  go_enter Try.func36, Try.ntmps36
  go_wp2_with fail
  refine (open_any a len cap zs _ h).mono ?_
  rintro e w1 ⟨b, ys, rfl, hr, hb, hlb⟩
  clear h
  go_wp2_with fail
  refine (l2Open_any b 0 ys _ hr (by omega)).mono ?_
  rintro e w3 ⟨z, q, rfl, hz, hq, hr2, hg2⟩
  have b3 := below_grown hb (Nat.le_refl _) hg2 hlb
  clear hr hg2 hr2 hb
  go_wp2
  go_ret
  exact ⟨z, rfl, hz, b3⟩
end Go.Proofs.Ytmmonhagceacjaa
