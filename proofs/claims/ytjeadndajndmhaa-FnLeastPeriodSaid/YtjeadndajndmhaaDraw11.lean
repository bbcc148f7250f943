/- The draws of the laws on periods, rotations, shifts between sequences, peaks and tables. -/
import Derived.Test.YtjeadndajndmhaaDraw10
namespace Go.Proofs.Ytjeadndajndmhaa
open Go.RowKit
set_option linter.unusedVariables false
set_option maxRecDepth 100000 in
theorem drawLeast_any (a : Option Addr) (len cap : Nat) (zs : List Int) (w : World) (h : IsBytes w a len cap zs) :
    Calls Try.prog 9 #[.slice a len cap] w (DrawStr w) := by
  go_enter Try.func9, Try.ntmps9
  go_wp2_with fail
  refine (open_any a len cap zs _ h).mono ?_
  rintro e w1 ⟨b, ys, rfl, hr, hb, hlb⟩
  go_wp2_with fail
  refine (l2Open_any b 0 ys _ hr (by omega)).mono ?_
  rintro e w2 ⟨z, q, rfl, hz, hq, hr2, hg2⟩
  have b2 := below_grown hb (Nat.le_refl _) hg2 hlb
  clear hr hb hg2
  go_wp2
  go_ret
  exact ⟨z, rfl, hz, b2⟩
set_option maxRecDepth 100000 in
theorem drawRot_any (a : Option Addr) (len cap : Nat) (zs : List Int) (w : World) (h : IsBytes w a len cap zs) :
    Calls Try.prog 14 #[.slice a len cap] w (DrawStr w) := by
  go_enter Try.func14, Try.ntmps14
  go_wp2_with fail
  refine (open_any a len cap zs _ h).mono ?_
  rintro e w1 ⟨b, ys, rfl, hr, hb, hlb⟩
  go_wp2_with fail
  refine (l2Open_any b 0 ys _ hr (by omega)).mono ?_
  rintro e w2 ⟨z, q, rfl, hz, hq, hr2, hg2⟩
  have b2 := below_grown hb (Nat.le_refl _) hg2 hlb
  clear hr hb hg2
  go_wp2
  go_ret
  exact ⟨z, rfl, hz, b2⟩
set_option maxRecDepth 100000 in
theorem drawBetween_any (a : Option Addr) (len cap : Nat) (zs : List Int) (w : World) (h : IsBytes w a len cap zs) :
    Calls Try.prog 18 #[.slice a len cap] w (DrawTwo w) := by
  go_enter Try.func18, Try.ntmps18
  go_wp2_with fail
  refine (open_any a len cap zs _ h).mono ?_
  rintro e w1 ⟨b, ys, rfl, hr, hb, hlb⟩
  go_wp2_with fail
  refine (l2Two_any b 0 ys _ hr (by omega)).mono ?_
  rintro e w2 ⟨x, y, q, rfl, hx, hy, hq, hr2, hg2⟩
  have b2 := below_grown hb (Nat.le_refl _) hg2 hlb
  clear hr hb hg2
  go_wp2
  go_ret2
  exact ⟨x, y, rfl, hx, hy, b2⟩
set_option maxRecDepth 100000 in
theorem drawPeak_any (a : Option Addr) (len cap : Nat) (zs : List Int) (w : World) (h : IsBytes w a len cap zs) :
    Calls Try.prog 21 #[.slice a len cap] w (DrawTwo w) := by
  go_enter Try.func21, Try.ntmps21
  go_wp2_with fail
  refine (open_any a len cap zs _ h).mono ?_
  rintro e w1 ⟨b, ys, rfl, hr, hb, hlb⟩
  go_wp2_with fail
  refine (l2Two_any b 0 ys _ hr (by omega)).mono ?_
  rintro e w2 ⟨x, y, q, rfl, hx, hy, hq, hr2, hg2⟩
  have b2 := below_grown hb (Nat.le_refl _) hg2 hlb
  clear hr hb hg2
  go_wp2
  go_ret2
  exact ⟨x, y, rfl, hx, hy, b2⟩
set_option maxRecDepth 100000 in
theorem drawTable_any (a : Option Addr) (len cap : Nat) (zs : List Int) (w : World) (h : IsBytes w a len cap zs) :
    Calls Try.prog 25 #[.slice a len cap] w (DrawTwo w) := by
  go_enter Try.func25, Try.ntmps25
  go_wp2_with fail
  refine (open_any a len cap zs _ h).mono ?_
  rintro e w1 ⟨b, ys, rfl, hr, hb, hlb⟩
  go_wp2_with fail
  refine (l2Two_any b 0 ys _ hr (by omega)).mono ?_
  rintro e w2 ⟨x, y, q, rfl, hx, hy, hq, hr2, hg2⟩
  have b2 := below_grown hb (Nat.le_refl _) hg2 hlb
  clear hr hb hg2
  go_wp2
  go_ret2
  exact ⟨x, y, rfl, hx, hy, b2⟩
end Go.Proofs.Ytjeadndajndmhaa
