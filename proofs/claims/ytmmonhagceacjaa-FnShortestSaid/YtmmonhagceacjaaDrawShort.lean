/- The draw of ShortestRegister. -/
import Derived.Test.YtmmonhagceacjaaDraw5
import Derived.BigQuiet
namespace Go.Proofs.Ytmmonhagceacjaa
open Go.RowKit
set_option linter.unusedVariables false
set_option maxRecDepth 100000
theorem sh_pick (b p : Nat) (zs : List Int) (w : World) (h : RdAt w b p zs) (hp : p ≤ 1000000) :
    Calls Try.prog 62 #[.pointer (some ⟨b, 0, none⟩), .int .i64 20] w (PickPost 20 b p zs w) := pick_any b p 20 zs w h hp (by omega) (by omega)
theorem sh_run (s t x k : Nat) (w : World) (h : RegN s t x) (hk : k ≤ 100) :
    Calls Try.prog 60 #[.agg #[.int .i64 s, .int .i64 t, .int .i64 x], .int .i64 (IntKind.i64.wrap (8 + (k : Int)))] w fun e w' => e = .returned (.string (runS s t x (8 + k))) ∧ Below w.heap.size w w' := by
  have := l1Run_any s t x (8 + k) w h (by omega)
  rw [show ((8 + k : Nat) : Int) = 8 + (k : Int) by omega] at this
  rw [show IntKind.i64.wrap (8 + (k : Int)) = 8 + (k : Int) from IntWalk.i64_in _ (by omega)]
  exact this
def ShortPost (w : World) (e : Ending) (w' : World) : Prop := ∃ z : ByteArray, e = .returned (.string z) ∧ z.size ≤ 1000 ∧ Below w.heap.size w w'
set_option maxHeartbeats 6400000 in
theorem drawShort_any (a : Option Addr) (len cap : Nat) (zs : List Int) (w : World) (h : IsBytes w a len cap zs) :
    Calls Try.prog 32 #[.slice a len cap] w (ShortPost w) := by
  go_enter Try.func32, Try.ntmps32
  go_wp2_with fail
  refine (open_any a len cap zs _ h).mono ?_
  rintro e w1 ⟨b, ys, rfl, hr, hb, hlb⟩
  clear h
  go_wp2_with fail
  refine (l1Some_any b 0 ys _ hr (by omega)).mono ?_
  rintro e w2 ⟨s, t, x, q, rfl, hR, hq, hr2, hg2⟩
  clear hr
  go_wp2_with fail
  refine (sh_pick b q ys _ hr2 (by omega)).mono ?_
  rintro e w3 ⟨k, hk, rfl, hr3, hg3⟩
  have g3 := hg2.trans hg3
  have hs8 : IntKind.i64.wrap (8 + (k : Int)) = 8 + (k : Int) := IntWalk.i64_in _ (by omega)
  have hrn := fun w => sh_run s t x k w hR (by omega)
  rw [hs8] at hrn
  have hzz := runS_size s t x (8 + k)
  obtain ⟨z, hz⟩ : ∃ z, runS s t x (8 + k) = z := ⟨_, rfl⟩
  rw [hz] at hrn hzz
  have HRN := Lib.hid hrn
  have hz1 : 0 < z.size := by omega
  have hz2 : z.size ≤ 108 := by omega
  clear hr2 hg2 hg3 hs8 hrn hz hzz hR
  go_wp2_with fail
  refine (HRN.out _).mono ?_
  rintro e w4 ⟨rfl, hb4⟩
  have r4 := hr3.below hb4
  have g4 := g3.trans (grow hb4 (some b))
  clear hr3 g3 hb4 HRN hk
  go_wp2_with fail
  refine (pick_any b (q + 1) 8 ys _ r4 (by omega) (by omega) (by omega)).mono ?_
  rintro e w5 ⟨c, hc, rfl, r5, g5'⟩
  have g5 := g4.trans g5'
  clear r4 g4 g5'
  by_cases c0 : c = 0
  · subst c0
    clear hc
    go_wp2_with fail
    refine (l1String_any b (q + 1 + 1) 20 ys _ r5 (by omega) (by omega)).mono ?_
    rintro e w6 ⟨y, q2, rfl, hy, hq2, r6, g6⟩
    have b6 := below_grown hb (Nat.le_refl _) (g5.trans g6) hlb
    clear g5 g6 r5 r6 hb
    go_wp2
    go_ret
    exact ⟨y, rfl, by omega, b6⟩
  by_cases c1 : c = 1
  · subst c1
    clear hc c0
    have z0 : (0 : Int) < (z.size : Int) := by omega
    go_wp2_with fail
    refine (pick_any b (q + 1 + 1) z.size ys _ r5 (by omega) (by omega) (by omega)).mono ?_
    rintro e w6 ⟨k, hk, rfl, r6, g6⟩
    have b6 := below_grown hb (Nat.le_refl _) (g5.trans g6) hlb
    clear g5 g6 r5 r6 hb
    have s1 := size_extract z 0 k (by omega)
    have s3 := size_extract z (k + 1) z.size (Nat.le_refl _)
    obtain ⟨J, hJ⟩ : ∃ J, k + 1 = J := ⟨_, rfl⟩
    rw [hJ] at s3
    obtain ⟨A, hA⟩ : ∃ A, z.extract 0 k = A := ⟨_, rfl⟩
    obtain ⟨D, hD⟩ : ∃ A, z.extract J z.size = A := ⟨_, rfl⟩
    rw [hA] at s1
    rw [hD] at s3
    have v1 : IntKind.i64.wrap ((k : Int) + 1) = (J : Int) := by rw [show (k : Int) + 1 = (J : Int) by omega]; exact IntWalk.i64_in _ (by omega)
    have i0 : (0 : Int) ≤ (k : Int) := by omega
    have i1' : (k : Int) ≤ (z.size : Int) := by omega
    have i3 : (J : Int) ≤ (z.size : Int) := by omega
    have i4 : (0 : Int) ≤ (J : Int) := by omega
    have o1 : ByteArray.size ⟨#[49]⟩ = 1 := rfl
    have q1 : A.size + ByteArray.size ⟨#[49]⟩ ≤ 9223372036854775807 := by rw [o1]; omega
    have q2 : (A ++ ⟨#[49]⟩ : ByteArray).size + D.size ≤ 9223372036854775807 := by rw [ByteArray.size_append, o1]; omega
    have q3 := fun w => run_string_add_sum (P := Try.prog) w A ⟨#[49]⟩ q1
    have q4 := fun w => run_string_add_sum (P := Try.prog) w (A ++ ⟨#[49]⟩) D q2
    have HS : Hid (((A ++ ⟨#[49]⟩) ++ D : ByteArray).size ≤ 1000) := Lib.hid (by rw [ByteArray.size_append, ByteArray.size_append, o1]; omega)
    have a1 : (A.size : Int) ≤ 8388608 := by omega
    have a3 : (D.size : Int) ≤ 8388608 := by omega
    have q5 : ¬ (9223372036854775807 < A.size + 1) := by omega
    have q6 : ¬ (9223372036854775807 < A.size + 1 + D.size) := by omega
    clear hJ s1 s3 o1
    go_wp2_with fail
    go_quiet (fail)
    have b7 := below_drewN b6 nq
    go_wp2
    go_ret
    exact ⟨_, rfl, HS.out, b7⟩
  by_cases c2 : c = 2
  · subst c2
    clear hc c0 c1
    go_wp2_with fail
    refine (num_any b (q + 1 + 1) ys _ w5.heap.size 2 [44, 60] (r5.alloc _) (IntsAt.new w5 _ [44, 60]) rfl r5.1 (by omega) (by omega) (by omega)).mono ?_
    rintro e w6 ⟨v, hv, rfl, r6, g6⟩
    obtain ⟨m, rfl, hm⟩ : ∃ s : Nat, v = s ∧ s ≤ 60 := by
      simp only [List.mem_cons, List.not_mem_nil, or_false] at hv
      exact ⟨v.toNat, by omega, by omega⟩
    have g7 := g5.trans ((World.grownBy_alloc w5 _ (some b)).trans g6)
    have hM := fun w => l9Many_any ⟨#[48]⟩ m w (by show 1 * m ≤ _; omega) (by omega)
    have hsz : (many ⟨#[48]⟩ m).size = m := by rw [many_size]; show 1 * m = m; omega
    obtain ⟨Y, hY⟩ : ∃ Y, many ⟨#[48]⟩ m = Y := ⟨_, rfl⟩
    rw [hY] at hM hsz
    have HM := Lib.hid hM
    have q1 : z.size + Y.size ≤ 9223372036854775807 := by omega
    have HS : Hid ((z ++ Y : ByteArray).size ≤ 1000) := Lib.hid (by rw [ByteArray.size_append]; omega)
    have b7 := below_grown hb (Nat.le_refl _) g7 hlb
    clear hM hY hsz hv g5 g6 r5 r6 g7 hb
    go_wp2_with fail
    refine (HM.out _).mono ?_
    rintro e w' ⟨rfl, rfl⟩
    go_wp2
    go_ret
    exact ⟨_, rfl, HS.out, b7⟩
  · have e0 : ((c : Int) == 0) = false := by rw [beq_eq_false_iff_ne]; omega
    have e1 : ((c : Int) == 1) = false := by rw [beq_eq_false_iff_ne]; omega
    have e2 : ((c : Int) == 2) = false := by rw [beq_eq_false_iff_ne]; omega
    have b5 := below_grown hb (Nat.le_refl _) g5 hlb
    clear hc c0 c1 c2 g5 r5 hb
    go_wp2
    go_ret
    exact ⟨z, rfl, by omega, b5⟩
end Go.Proofs.Ytmmonhagceacjaa
