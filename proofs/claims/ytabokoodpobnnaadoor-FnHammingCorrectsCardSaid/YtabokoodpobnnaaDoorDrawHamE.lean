/- The draw of HammingEncode. -/
import Derived.Test.YtabokoodpobnnaaDoorDrawFrm
import Derived.Test.YtabokoodpobnnaaDoorDrawHarm
import Derived.Test.YtabokoodpobnnaaDoorDrawBits
namespace Go.Proofs.YtabokoodpobnnaaDoor
open Go.RowKit
set_option linter.unusedVariables false
set_option maxRecDepth 100000
def HamEPost (w : World) (e : Ending) (w' : World) : Prop := ∃ z : ByteArray, e = .returned (.string z) ∧ z.size ≤ 1000 ∧ Below w.heap.size w w'
set_option maxHeartbeats 1600000 in
theorem drawHamE_any (a : Option Addr) (len cap : Nat) (zs : List Int) (w : World) (h : IsBytes w a len cap zs) :
    Calls Tryd.prog 17 #[.slice a len cap] w (HamEPost w) := by
  go_enter Tryd.func17, Tryd.ntmps17
  go_wp2_with fail
  refine (open_any a len cap zs _ h).mono ?_
  rintro e w1 ⟨b, ys, rfl, hr, hb, hlb⟩
  clear h
  go_wp2_with fail
  refine (l1String_bits b 0 24 ys _ hr (by omega) (by omega)).mono ?_
  rintro e w2 ⟨z, q, rfl, hok, hz, hq, hr2, hg2⟩
  have b2 := below_grown hb (Nat.le_refl _) hg2 hlb
  clear hr hb hg2 hok
  go_wp2_with fail
  refine (pick_any b q 8 ys _ hr2 (by omega) (by omega) (by omega)).mono ?_
  rintro e w3 ⟨k, hk, rfl, hr3, hg3⟩
  have b3 := below_grown b2 (Nat.le_refl _) hg3 hlb
  clear hr2 b2 hg3
  by_cases k0 : 0 < k
  · have k1 : (0 : Int) < (k : Int) := by omega
    have HP := Lib.hid (fun w => l6Padded_any z 4 w (by omega) (by omega) (by omega))
    have hps := padded_size z 4 (by omega)
    obtain ⟨P, hP⟩ : ∃ P, z ++ many ⟨#[48]⟩ (modN (-(z.size : Int)) 4) = P := ⟨_, rfl⟩
    rw [hP] at HP hps
    clear hP hk
    go_wp2_with fail
    refine (HP.out _).mono ?_
    rintro e w' ⟨rfl, rfl⟩
    go_wp2_with fail
    refine (pick_any b (q + 1) 24 ys _ hr3 (by omega) (by omega) (by omega)).mono ?_
    rintro e w4 ⟨k4, hk4, rfl, hr4, hg4⟩
    have b4 := below_grown b3 (Nat.le_refl _) hg4 hlb
    clear hr3 b3 hg4
    by_cases k40 : k4 = 0
    · subst k40
      clear hk4
      go_wp2_with fail
      refine (num_any b (q + 1 + 1) ys _ w4.heap.size 2 [85, 86] (hr4.alloc _) (IntsAt.new w4 _ [85, 86]) rfl hr4.1 (by omega) (by omega) (by omega)).mono ?_
      rintro e w5 ⟨v, hv, rfl, hr5, hg5⟩
      obtain ⟨s, rfl, hs5⟩ : ∃ s : Nat, v = s ∧ s ≤ 86 := by
        simp only [List.mem_cons, List.not_mem_nil, or_false] at hv
        exact ⟨v.toNat, by omega, by omega⟩
      have g5 := (World.grownBy_alloc w4 (.cells #[.int .i64 85, .int .i64 86] 3) (some b)).trans hg5
      have b5 := below_grown b4 (Nat.le_refl _) g5 hlb
      have hM := fun w => l9Many_any ⟨#[48, 49, 49, 48]⟩ s w (by show 4 * s ≤ _; omega) (by omega)
      have hsz := many_size ⟨#[48, 49, 49, 48]⟩ s
      have hsz2 : (many ⟨#[48, 49, 49, 48]⟩ s).size ≤ 400 := by rw [hsz]; show 4 * s ≤ _; omega
      obtain ⟨Z, hZ⟩ : ∃ Z, many ⟨#[48, 49, 49, 48]⟩ s = Z := ⟨_, rfl⟩
      rw [hZ] at hM hsz2
      have HM := Lib.hid hM
      clear hv hr4 hg5 g5 hM hsz hZ b4
      go_wp2_with fail
      refine (HM.out _).mono ?_
      rintro e w' ⟨rfl, rfl⟩
      go_wp2_with fail
      refine (l6Wild_any b (q + 1 + 1 + 1) ys Z _ hr5 (by omega) (by omega)).mono ?_
      rintro e w6 ⟨x, q6, rfl, hx, hq6, hr6, hg6⟩
      have b6 := below_grown b5 (Nat.le_refl _) hg6 hlb
      clear hr5 b5 hg6
      go_wp2
      go_ret
      exact ⟨x, rfl, by omega, b6⟩
    · have e0 : ((k4 : Int) == 0) = false := by rw [beq_eq_false_iff_ne]; omega
      clear hk4 k40
      go_wp2_with fail
      refine (l6Wild_any b (q + 1 + 1) ys P _ hr4 (by omega) (by omega)).mono ?_
      rintro e w6 ⟨x, q6, rfl, hx, hq6, hr6, hg6⟩
      have b6 := below_grown b4 (Nat.le_refl _) hg6 hlb
      clear hr4 b4 hg6
      go_wp2
      go_ret
      exact ⟨x, rfl, by omega, b6⟩
  · obtain rfl : k = 0 := by omega
    clear hk k0
    go_wp2_with fail
    refine (pick_any b (q + 1) 24 ys _ hr3 (by omega) (by omega) (by omega)).mono ?_
    rintro e w4 ⟨k4, hk4, rfl, hr4, hg4⟩
    have b4 := below_grown b3 (Nat.le_refl _) hg4 hlb
    clear hr3 b3 hg4
    by_cases k40 : k4 = 0
    · subst k40
      clear hk4
      go_wp2_with fail
      refine (num_any b (q + 1 + 1) ys _ w4.heap.size 2 [85, 86] (hr4.alloc _) (IntsAt.new w4 _ [85, 86]) rfl hr4.1 (by omega) (by omega) (by omega)).mono ?_
      rintro e w5 ⟨v, hv, rfl, hr5, hg5⟩
      obtain ⟨s, rfl, hs5⟩ : ∃ s : Nat, v = s ∧ s ≤ 86 := by
        simp only [List.mem_cons, List.not_mem_nil, or_false] at hv
        exact ⟨v.toNat, by omega, by omega⟩
      have g5 := (World.grownBy_alloc w4 (.cells #[.int .i64 85, .int .i64 86] 3) (some b)).trans hg5
      have b5 := below_grown b4 (Nat.le_refl _) g5 hlb
      have hM := fun w => l9Many_any ⟨#[48, 49, 49, 48]⟩ s w (by show 4 * s ≤ _; omega) (by omega)
      have hsz := many_size ⟨#[48, 49, 49, 48]⟩ s
      have hsz2 : (many ⟨#[48, 49, 49, 48]⟩ s).size ≤ 400 := by rw [hsz]; show 4 * s ≤ _; omega
      obtain ⟨Z, hZ⟩ : ∃ Z, many ⟨#[48, 49, 49, 48]⟩ s = Z := ⟨_, rfl⟩
      rw [hZ] at hM hsz2
      have HM := Lib.hid hM
      clear hv hr4 hg5 g5 hM hsz hZ b4
      go_wp2_with fail
      refine (HM.out _).mono ?_
      rintro e w' ⟨rfl, rfl⟩
      go_wp2_with fail
      refine (l6Wild_any b (q + 1 + 1 + 1) ys Z _ hr5 (by omega) (by omega)).mono ?_
      rintro e w6 ⟨x, q6, rfl, hx, hq6, hr6, hg6⟩
      have b6 := below_grown b5 (Nat.le_refl _) hg6 hlb
      clear hr5 b5 hg6
      go_wp2
      go_ret
      exact ⟨x, rfl, by omega, b6⟩
    · have e0 : ((k4 : Int) == 0) = false := by rw [beq_eq_false_iff_ne]; omega
      clear hk4 k40
      go_wp2_with fail
      refine (l6Wild_any b (q + 1 + 1) ys z _ hr4 (by omega) (by omega)).mono ?_
      rintro e w6 ⟨x, q6, rfl, hx, hq6, hr6, hg6⟩
      have b6 := below_grown b4 (Nat.le_refl _) hg6 hlb
      clear hr4 b4 hg6
      go_wp2
      go_ret
      exact ⟨x, rfl, by omega, b6⟩
end Go.Proofs.YtabokoodpobnnaaDoor
