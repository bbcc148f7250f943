/- Contracts of the draws of a register and of a count: l1Open, l1Count, DrawRunRegister. -/
import Derived.Test.YtmmonhagceacjaaDraw4
namespace Go.Proofs.Ytmmonhagceacjaa
open Go.RowKit
set_option linter.unusedVariables false
set_option maxHeartbeats 1600000 in
set_option maxRecDepth 100000 in
theorem l1Open_any (b p : Nat) (zs : List Int) (w : World) (hr : RdAt w b p zs) (hp : p ≤ 800000) :
    Calls Try.prog 54 #[.pointer (some ⟨b, 0, none⟩)] w fun e w' => ∃ (S T X : Int) (q : Nat), e = .returned (.agg #[.int .i64 S, .int .i64 T, .int .i64 X]) ∧ FitsI S ∧ FitsI T ∧ FitsI X ∧ q ≤ p + 100 ∧ RdAt w' b q zs ∧ w.grownBy w' (some b) := by
  have hbl := hr.1
  go_enter Try.func54, Try.ntmps54
  go_wp2_with fail
  obtain ⟨W, hB, hD, hf, hz, hW⟩ := one_new w 24
  rw [hW]
  have hr' := hr.below hB
  clear hW
  refine (l1Some_any b p zs _ hr' (by omega)).mono ?_
  rintro e w1 ⟨s, t, x, q, rfl, hreg, hq, hr1, hg1⟩
  have hD1 := hD.kept hg1 (by simp; omega)
  have hf1 : Hid (∀ o, w1.frozen? ⟨w.heap.size, o, none⟩ = false) := fun o => frozen_kept' (hf o) hD.2.2.2 hg1 (by simp; omega)
  have hgw := (grow hB (some b)).trans hg1
  go_wp2_with fail
  refine (l1Bad_any b q zs s t x _ hr1 (by omega) hreg).mono ?_
  rintro e w2 ⟨S, T, X, q2, rfl, fS, fT, fX, hq2, hr2, hg2⟩
  have hD2 := hD1.kept hg2 (by simp; omega)
  have g0 := frozen_kept' (hf1.out 0) hD1.2.2.2 hg2 (by simp; omega)
  have g1 := frozen_kept' (hf1.out 1) hD1.2.2.2 hg2 (by simp; omega)
  have g2 := frozen_kept' (hf1.out 2) hD1.2.2.2 hg2 (by simp; omega)
  obtain ⟨d0, d1, d2, dl⟩ := hD2
  have hg3 := hgw.trans hg2
  clear hD hf hD1 hf1 hr1 hg1 hg2 hB hr hr' hgw
  go_wp2
  refine bodyPost_ret (v := .agg #[.int .i64 S, .int .i64 T, .int .i64 X]) (by simp [results, Try.results54, go_sem, d0, d1, d2]) rfl ⟨S, T, X, q2, rfl, fS, fT, fX, by omega, ((hr2.setNew hbl _).setNew hbl _).setNew hbl _, ((grown_setNew hg3 (Nat.le_refl _) _).trans ⟨rfl, rfl, rfl, Nat.le_refl _, fun _ _ _ => rfl⟩ |> fun h => grown_setNew h (Nat.le_refl _) _) |> fun h => grown_setNew h (Nat.le_refl _) _⟩
set_option maxHeartbeats 1600000 in
set_option maxRecDepth 100000 in
theorem l1Count_any (b p : Nat) (zs : List Int) (w : World) (hr : RdAt w b p zs) (hp : p ≤ 800000) :
    Calls Try.prog 55 #[.pointer (some ⟨b, 0, none⟩)] w fun e w' => ∃ (C : Int) (q : Nat), e = .returned (.int .i64 C) ∧ FitsI C ∧ q ≤ p + 10 ∧ RdAt w' b q zs ∧ w.grownBy w' (some b) := by
  have hbl := hr.1
  go_enter Try.func55, Try.ntmps55
  go_wp2_with fail
  refine (pick_any b p 12 zs _ hr (by omega) (by omega) (by omega)).mono ?_
  rintro e w1 ⟨k, hk, rfl, hr1, hg1⟩
  by_cases hk0 : k = 0
  · subst hk0
    go_wp2_with fail
    refine (num_any b (p + 1) zs _ w1.heap.size 4 [-1, 600, 601, 9223372036854775807] (hr1.alloc _) (IntsAt.new w1 _ [-1, 600, 601, 9223372036854775807]) rfl hr1.1 (by omega) (by omega) (by omega)).mono ?_
    rintro e w2 ⟨v, hv, rfl, hr2, hg2⟩
    have fK : FitsI v := by
      simp only [List.mem_cons, List.not_mem_nil, or_false] at hv
      unfold FitsI
      omega
    have hg := (hg1.trans (World.grownBy_alloc w1 _ (some b))).trans hg2
    go_wp2
    go_ret
    exact ⟨v, _, rfl, fK, by omega, hr2, hg⟩
  · have hkk : ((k : Int) == 0) = false := by simp; omega
    go_wp2_with fail
    refine (pick_any b (p + 1) 40 zs _ hr1 (by omega) (by omega) (by omega)).mono ?_
    rintro e w2 ⟨k2, hk2, rfl, hr2, hg2⟩
    go_wp2
    go_ret
    exact ⟨k2, _, rfl, FitsI.nat k2 (by omega), by omega, hr2, hg1.trans hg2⟩
set_option maxHeartbeats 1600000 in
set_option maxRecDepth 100000 in
theorem drawRun_any (a : Option Addr) (len cap : Nat) (zs : List Int) (w : World) (h : IsBytes w a len cap zs) :
    Calls Try.prog 13 #[.slice a len cap] w (DrawRegInt w) := by
  go_enter Try.func13, Try.ntmps13
  go_wp2_with fail
  obtain ⟨W, hB, hD, hf, hz, hW⟩ := one_new w 24
  rw [hW]
  clear hW
  have h' : IsBytes W a len cap zs := h.below hB
  refine (open_any a len cap zs _ h').mono ?_
  rintro e w1 ⟨b, ys, rfl, hr1, hb1, hlb⟩
  have b1 := below_then hB (Nat.le_refl _) hb1
  have hD1 := hD.below hb1 hD.2.2.2
  have HF1 : Hid (∀ o, w1.frozen? ⟨w.heap.size, o, none⟩ = false) := fun o => (hb1.frozen (p := ⟨w.heap.size, o, none⟩) hD.2.2.2).trans (hf o)
  have hlb' : w.heap.size < b := by omega
  clear hB hD hf h h' hb1 hlb hz
  go_wp2_with fail
  refine (l1Open_any b 0 ys _ hr1 (by omega)).mono ?_
  rintro e w2 ⟨S, T, X, q, rfl, fS, fT, fX, hq, hr2, hg2⟩
  have b2 := below_grown b1 (Nat.le_refl _) hg2 (by omega)
  have hD2 := hD1.kept hg2 (by simp; omega)
  have HF2 : Hid (∀ o, w2.frozen? ⟨w.heap.size, o, none⟩ = false) := fun o => frozen_kept' (HF1.out o) hD1.2.2.2 hg2 (by simp; omega)
  clear b1 hr1 hD1 HF1 hg2
  go_wp2_with fail
  obtain ⟨V, b3, hA3, hD3, HF3, hr3, hlt3, hV⟩ : ∃ V, Below w.heap.size w V ∧ RegAt V w2.heap.size S T X ∧ RegAt V w.heap.size 0 0 0 ∧ Hid (∀ o, V.frozen? ⟨w.heap.size, o, none⟩ = false) ∧ RdAt V b q ys ∧ b < w2.heap.size ∧
      w2.alloc (.cells #[.int .i64 S, .int .i64 T, .int .i64 X] 24) = V :=
    ⟨_, b2.alloc b2.size _, RegAt.new w2 _ S T X, hD2.kept (World.grownBy_alloc w2 _ none) (by simp), fun o => frozen_kept' (HF2.out o) hD2.2.2.2 (World.grownBy_alloc w2 _ none) (by simp), hr2.alloc _, hr2.1, rfl⟩
  rw [hV]
  clear hV b2 hr2 hD2 HF2
  obtain ⟨c0, c1, c2, cl⟩ := id hA3
  go_region_with ((go_at_call 55; refine (l1Count_any b q ys _ hr3.drew (by omega)).mono ?_; rintro e w5 ⟨C, q2, rfl, fK, hq2, hr5, hg5⟩; obtain ⟨m0, m1, m2, ml⟩ := (hA3.kept (drew_grow V none) (by simp)).kept hg5 (by simp; omega); have b5 := below_grown b3.drew (Nat.le_refl _) hg5 (by omega); have hD5 := (hD3.kept (drew_grow V none) (by simp)).kept hg5 (by simp; omega); have g0 := frozen_kept' (HF3.out 0) hD3.2.2.2 ((drew_grow V (some b)).trans hg5) (by simp; omega); have g1 := frozen_kept' (HF3.out 1) hD3.2.2.2 ((drew_grow V (some b)).trans hg5) (by simp; omega); have g2 := frozen_kept' (HF3.out 2) hD3.2.2.2 ((drew_grow V (some b)).trans hg5) (by simp; omega); obtain ⟨d0, d1, d2, dl⟩ := hD5))
  all_goals
    clear hA3 hD3 HF3 b3 hr3 hr5 hg5
    go_wp2
    refine bodyPost_ret (v := .tuple #[.agg #[.int .i64 S, .int .i64 T, .int .i64 X], .int .i64 C]) (by simp [results, Try.results13, go_sem, d0, d1, d2]) rfl ⟨S, T, X, C, rfl, fS, fT, fX, fK, ?_⟩
    go_grown
end Go.Proofs.Ytmmonhagceacjaa
