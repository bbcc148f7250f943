/- The draw of HammingDecode. -/
import Derived.Test.YtabokoodpobnnaaDoorHamMath
import Derived.Test.YtabokoodpobnnaaDoorDrawFrm
import Derived.Test.YtabokoodpobnnaaDoorDrawHarm
import Derived.Test.YtabokoodpobnnaaDoorDrawBits
namespace Go.Proofs.YtabokoodpobnnaaDoor
open Go.RowKit
set_option linter.unusedVariables false
set_option maxRecDepth 100000
def HamPost (w : World) (e : Ending) (w' : World) : Prop := ∃ z : ByteArray, e = .returned (.string z) ∧ z.size ≤ 1000 ∧ Below w.heap.size w w'
set_option maxHeartbeats 1600000 in
theorem drawHamD_any (a : Option Addr) (len cap : Nat) (zs : List Int) (w : World) (h : IsBytes w a len cap zs) :
    Calls Tryd.prog 13 #[.slice a len cap] w (HamPost w) := by
  go_enter Tryd.func13, Tryd.ntmps13
  go_wp2_with fail
  refine (open_any a len cap zs _ h).mono ?_
  rintro e w1 ⟨b, ys, rfl, hr, hb, hlb⟩
  clear h
  go_wp2_with fail
  refine (l1String_bits b 0 24 ys _ hr (by omega) (by omega)).mono ?_
  rintro e w2 ⟨z, q, rfl, hok, hz, hq, hr2, hg2⟩
  have HP := Lib.hid (fun w => l6Padded_any z 4 w (by omega) (by omega) (by omega))
  have hps := padded_size z 4 (by omega)
  obtain ⟨P, hP⟩ : ∃ P, z ++ many ⟨#[48]⟩ (modN (-(z.size : Int)) 4) = P := ⟨_, rfl⟩
  rw [hP] at HP hps
  have HE := Lib.hid (fun w => sHe_any P w (by omega))
  obtain ⟨x1, x2⟩ := he_ok (z := P)
  obtain ⟨A, hA⟩ : ∃ A, heAns P = A := ⟨_, rfl⟩
  rw [hA] at HE x1 x2
  obtain ⟨X, ok⟩ := A
  have x1 : okB X X.size = true := x1
  have x2 : X.size ≤ 600 := x2
  have HX1 := Lib.hid x1
  clear hP hA hok hr x1
  go_wp2_with fail
  refine (HP.out _).mono ?_
  rintro e w' ⟨rfl, rfl⟩
  go_wp2_with fail
  refine (HE.out _).mono ?_
  rintro e w3 ⟨rfl, hb3⟩
  have hr3 := hr2.below hb3
  have hg3 := hg2.trans (grow hb3 (some b))
  clear hr2 hg2 hb3 HP HE
  go_wp2_with fail
  refine (l6Harm_any b q ys X _ hr3 (by omega) HX1.out (by omega)).mono ?_
  rintro e w4 ⟨y, q2, rfl, -, hy, hq2, hr4, hg4'⟩
  have hg4 := hg3.trans hg4'
  have hy6 : y.size ≤ 600 := by omega
  clear hr3 hg3 hg4' hy
  go_wp2_with fail
  refine (pick_any b q2 12 ys _ hr4 (by omega) (by omega) (by omega)).mono ?_
  rintro e w5 ⟨k, hk, rfl, hr5, hg5'⟩
  have hg5 := hg4.trans hg5'
  clear hr4 hg4 hg5'
  by_cases k0 : k = 0
  · subst k0
    have hzs : y.size + ByteArray.size ⟨#[49]⟩ ≤ 9223372036854775807 := by show y.size + 1 ≤ _; omega
    have hzz : (y ++ ⟨#[49]⟩).size = y.size + 1 := by rw [ByteArray.size_append]; rfl
    have HY := Lib.hid (show (y ++ ⟨#[49]⟩ : ByteArray).size ≤ 690 by omega)
    clear hk hzz
    go_wp2_with fail
    obtain ⟨Y, hY⟩ : ∃ Y, y ++ ⟨#[49]⟩ = Y := ⟨_, rfl⟩
    rw [hY] at HY ⊢
    clear hY hzs
    refine (l6Wild_any b (q2 + 1) ys Y _ hr5 (by omega) HY.out).mono ?_
    rintro e w6 ⟨v, q3, rfl, hv, hq3, hr6, hg6⟩
    have b6 := below_grown hb (Nat.le_refl _) (hg5.trans hg6) hlb
    clear hr5 hg5 hr6 hg6 hb
    go_wp2
    go_ret
    exact ⟨v, rfl, by omega, b6⟩
  · have k1 : ((k : Int) == 0) = false := by rw [beq_eq_false_iff_ne]; omega
    clear hk k0
    go_wp2_with fail
    refine (l6Wild_any b (q2 + 1) ys y _ hr5 (by omega) (by omega)).mono ?_
    rintro e w6 ⟨v, q3, rfl, hv, hq3, hr6, hg6⟩
    have b6 := below_grown hb (Nat.le_refl _) (hg5.trans hg6) hlb
    clear hr5 hg5 hr6 hg6 hb
    go_wp2
    go_ret
    exact ⟨v, rfl, by omega, b6⟩
end Go.Proofs.YtabokoodpobnnaaDoor
