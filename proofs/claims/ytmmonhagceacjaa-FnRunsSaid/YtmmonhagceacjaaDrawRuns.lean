/- The draw of RunLengths. -/
import Derived.Test.YtmmonhagceacjaaDraw9
namespace Go.Proofs.Ytmmonhagceacjaa
open Go.RowKit
set_option linter.unusedVariables false
set_option maxRecDepth 100000
def RunsPost (w : World) (e : Ending) (w' : World) : Prop := ∃ z : ByteArray, e = .returned (.string z) ∧ z.size ≤ 300 ∧ Below w.heap.size w w'
theorem drawRuns_any (a : Option Addr) (len cap : Nat) (zs : List Int) (w : World) (h : IsBytes w a len cap zs) :
    Calls Try.prog 44 #[.slice a len cap] w (RunsPost w) := by
  go_enter Try.func44, Try.ntmps44
  go_wp2_with fail
  refine (open_any a len cap zs _ h).mono ?_
  rintro e w1 ⟨b, ys, rfl, hr, hb, hlb⟩
  clear h
  go_wp2_with fail
  refine (pick_any b 0 12 ys _ hr (by omega) (by omega) (by omega)).mono ?_
  rintro e w2 ⟨k, hk, rfl, hr1, hg1⟩
  clear hr
  by_cases k0 : k = 0
  · subst k0
    clear hk
    go_wp2_with fail
    refine (pick_any b (0 + 1) 9 ys _ hr1 (by omega) (by omega) (by omega)).mono ?_
    rintro e w3 ⟨k2, hk2, rfl, hr2, hg2⟩
    have b3 := below_grown hb (Nat.le_refl _) (hg1.trans hg2) hlb
    have hM := fun w => l9Many_any ⟨#[49]⟩ (1 + k2) w (by show 1 * (1 + k2) ≤ _; omega) (by omega)
    rw [show ((1 + k2 : Nat) : Int) = 1 + (k2 : Int) by omega] at hM
    have hsz := many_one_size (1 + k2)
    obtain ⟨Z, hZ⟩ : ∃ Z, many ⟨#[49]⟩ (1 + k2) = Z := ⟨_, rfl⟩
    rw [hZ] at hM hsz
    have HM := Lib.hid hM
    have HZ := Lib.hid hsz
    clear hM hsz hZ hr1 hg1 hr2 hg2 hb
    go_wp2_with fail
    refine (HM.out _).mono ?_
    rintro e w' ⟨rfl, rfl⟩
    go_wp2
    go_ret
    exact ⟨Z, rfl, by rw [HZ.out]; omega, b3⟩
  · have k1 : ((k : Int) == 0) = false := by rw [beq_eq_false_iff_ne]; omega
    clear hk k0
    go_wp2_with fail
    refine (l2Open_any b (0 + 1) ys _ hr1 (by omega)).mono ?_
    rintro e w3 ⟨z, q, rfl, hz, hq, hr2, hg2⟩
    have b3 := below_grown hb (Nat.le_refl _) (hg1.trans hg2) hlb
    clear hr1 hg1 hr2 hg2 hb
    go_wp2
    go_ret
    exact ⟨z, rfl, hz, b3⟩
end Go.Proofs.Ytmmonhagceacjaa
