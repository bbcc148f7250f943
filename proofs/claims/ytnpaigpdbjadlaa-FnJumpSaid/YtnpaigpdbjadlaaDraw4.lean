/- The draw for jumps. -/
import Derived.Test.YtnpaigpdbjadlaaDraw3
import Derived.Deep.RegionWith
namespace Go.Proofs.Ytnpaigpdbjadlaa
open Go.RowKit
/-- A register and a number were drawn, which fit; what was there is as it was. -/
def DrawRegInt (w : World) (e : Ending) (w' : World) : Prop :=
  ∃ S T X K : Int, e = .returned (.tuple #[.agg #[.int .i64 S, .int .i64 T, .int .i64 X], .int .i64 K]) ∧ FitsI S ∧ FitsI T ∧ FitsI X ∧ FitsI K ∧ Below w.heap.size w w'
theorem RdAt.drew {w : World} {b p : Nat} {zs : List Int} (h : RdAt w b p zs) : RdAt w.drew b p zs := h.below ((Below.refl _ _).drew)
theorem IntsAt.drew {w : World} {L : Nat} {xs : List Int} (h : IntsAt w L xs) : IntsAt w.drew L xs := h
theorem grow_drew (w : World) (o : Obj) (row : Option Nat) : w.grownBy (w.alloc o).drew row := ⟨rfl, rfl, rfl, by simp, fun k hk _ => Below.heap_alloc _ _ _ hk⟩
theorem drew_grow (w : World) (row : Option Nat) : w.grownBy w.drew row := ⟨rfl, rfl, rfl, Nat.le_refl _, fun _ _ _ => rfl⟩
theorem pick_256 (b p : Nat) (zs : List Int) (w : World) (h : RdAt w b p zs) (hp : p ≤ 1000000) :
    Calls Try.prog 58 #[.pointer (some ⟨b, 0, none⟩), .int .i64 256] w (PickPost 256 b p zs w) := pick_any b p 256 zs w h hp (by omega) (by omega)
theorem pick_100 (b p : Nat) (zs : List Int) (w : World) (h : RdAt w b p zs) (hp : p ≤ 1000000) :
    Calls Try.prog 58 #[.pointer (some ⟨b, 0, none⟩), .int .i64 100] w (PickPost 100 b p zs w) := pick_any b p 100 zs w h hp (by omega) (by omega)
set_option maxHeartbeats 3200000 in
set_option maxRecDepth 100000 in
theorem drawJump_any (a : Option Addr) (len cap : Nat) (zs : List Int) (w : World) (h : IsBytes w a len cap zs) :
    Calls Try.prog 32 #[.slice a len cap] w (DrawRegInt w) := by
  go_enter Try.func32, Try.ntmps32
  go_wp2_with fail
  obtain ⟨W, hB, hD, hf, hz, hW⟩ := one_new w 24
  rw [hW]
  clear hW
  have h' : IsBytes W a len cap zs := h.below hB
  refine (open_any a len cap zs _ h').mono ?_
  rintro e w1 ⟨b, ys, rfl, hr1, hb1, hlb⟩
  have b1 := below_then hB (Nat.le_refl _) hb1
  have hD1 := hD.below hb1 hD.2.2.2
  have HF1 : Hid (∀ o, w1.frozen? ⟨w.heap.size, o, none⟩ = false) := fun o => (hb1.frozen (p := ⟨w.heap.size, o, none⟩) hD.2.2.2).trans (hf o)
  have h1 : IsBytes w1 a len cap zs := h'.below hb1
  have hlb' : w.heap.size < b := by omega
  clear hB hD hf h h' hb1 hlb hz
  go_wp2_with fail
  refine (drawBack_any a len cap zs _ h1).mono ?_
  rintro e w2 ⟨S, T, X, rfl, fS, fT, fX, hb2⟩
  have b2 := below_then b1 (Nat.le_refl _) hb2
  have hr2 := hr1.below hb2
  have hD2 := hD1.below hb2 hD1.2.2.2
  have HF2 : Hid (∀ o, w2.frozen? ⟨w.heap.size, o, none⟩ = false) := fun o => (hb2.frozen (p := ⟨w.heap.size, o, none⟩) hD1.2.2.2).trans (HF1.out o)
  clear b1 hr1 hD1 HF1 hb2 h1
  go_wp2_with fail
  obtain ⟨V, b3, hA3, hD3, HF3, hr3, hlt3, hV⟩ : ∃ V, Below w.heap.size w V ∧ RegAt V w2.heap.size S T X ∧ RegAt V w.heap.size 0 0 0 ∧ Hid (∀ o, V.frozen? ⟨w.heap.size, o, none⟩ = false) ∧ RdAt V b 0 ys ∧ b < w2.heap.size ∧
      w2.alloc (.cells #[.int .i64 S, .int .i64 T, .int .i64 X] 24) = V :=
    ⟨_, b2.alloc b2.size _, RegAt.new w2 _ S T X, hD2.kept (World.grownBy_alloc w2 _ none) (by simp), fun o => frozen_kept' (HF2.out o) hD2.2.2.2 (World.grownBy_alloc w2 _ none) (by simp), hr2.alloc _, hr2.1, rfl⟩
  rw [hV]
  clear hV b2 hr2 hD2 HF2
  refine (pick_any b 0 12 ys _ hr3 (by omega) (by omega) (by omega)).mono ?_
  rintro e w4 ⟨k, hk, rfl, hr4, hg4⟩
  have b4 := below_grown b3 (Nat.le_refl _) hg4 (by omega)
  have hA4 := hA3.kept hg4 (by simp; omega)
  have hD4 := hD3.kept hg4 (by simp; omega)
  have HF4 : Hid (∀ o, w4.frozen? ⟨w.heap.size, o, none⟩ = false) := fun o => frozen_kept' (HF3.out o) hD3.2.2.2 hg4 (by simp; omega)
  clear b3 hA3 hD3 HF3 hr3 hg4
  obtain ⟨c0, c1, c2, cl⟩ := id hA4
  by_cases hk0 : k = 0
  · subst hk0
    go_wp2_with fail
    go_region_with ((go_at_call 60; refine (num_any b 1 ys _ w4.heap.size 6 [5000, 5001, -5000, -5001, 9223372036854775807, -9223372036854775808] (hr4.alloc _).drew (IntsAt.new w4 _ [5000, 5001, -5000, -5001, 9223372036854775807, -9223372036854775808]).drew rfl hr4.1 (by omega) (by omega) (by omega)).mono ?_; rintro e w5 ⟨v, hv, rfl, hr5, hg5⟩; obtain ⟨m0, m1, m2, ml⟩ := (hA4.kept (grow_drew w4 _ none) (by simp)).kept hg5 (by simp; omega); have b5 := below_grown (b4.trans ((Below.refl _ _).alloc b4.size _).drew) (Nat.le_refl _) hg5 (by omega); have hD5 := (hD4.kept (grow_drew w4 _ none) (by simp)).kept hg5 (by simp; omega); have g0 := frozen_kept' (HF4.out 0) hD4.2.2.2 ((grow_drew w4 _ (some b)).trans hg5) (by simp; omega); have g1 := frozen_kept' (HF4.out 1) hD4.2.2.2 ((grow_drew w4 _ (some b)).trans hg5) (by simp; omega); have g2 := frozen_kept' (HF4.out 2) hD4.2.2.2 ((grow_drew w4 _ (some b)).trans hg5) (by simp; omega); obtain ⟨d0, d1, d2, dl⟩ := hD5))
    all_goals
      have fK : FitsI v := by
        simp only [List.mem_cons, List.not_mem_nil, or_false] at hv
        unfold FitsI
        omega
      clear hv hA4 hD4 HF4 b4 hr4 hr5 hg5
      go_wp2
      refine bodyPost_ret (v := .tuple #[.agg #[.int .i64 S, .int .i64 T, .int .i64 X], .int .i64 v]) (by simp [results, Try.results32, go_sem, d0, d1, d2]) rfl ⟨S, T, X, v, rfl, fS, fT, fX, fK, ?_⟩
      go_grown
  · have hkk : ((k : Int) == 0) = false := by simp; omega
    go_wp2_with fail
    go_region_with ((go_at_call 58; (first
      | ((with_reducible refine (pick_256 b 1 ys _ hr4.drew (by omega)).mono ?_); rintro e w5 ⟨k1, hk1, rfl, hr5, hg5⟩; have hA5 := (hA4.kept (drew_grow w4 none) (by simp)).kept hg5 (by simp; omega); have hD5 := (hD4.kept (drew_grow w4 none) (by simp)).kept hg5 (by simp; omega); have b5 := below_grown b4.drew (Nat.le_refl _) hg5 (by omega); have HF5 : Hid (∀ o, w5.frozen? ⟨w.heap.size, o, none⟩ = false) := (fun o => frozen_kept' (HF4.out o) hD4.2.2.2 ((drew_grow w4 (some b)).trans hg5) (by simp; omega)); obtain ⟨m0, m1, m2, ml⟩ := id hA5)
      | ((with_reducible refine (pick_100 b 2 ys _ hr5 (by omega)).mono ?_); rintro e w6 ⟨k2, hk2, rfl, hr6, hg6⟩; obtain ⟨q0, q1, q2, ql⟩ := hA5.kept hg6 (by simp; omega); obtain ⟨d0, d1, d2, dl⟩ := hD5.kept hg6 (by simp; omega); have b6 := below_grown b5 (Nat.le_refl _) hg6 (by omega); have g0 := frozen_kept' (HF5.out 0) hD5.2.2.2 hg6 (by simp; omega); have g1 := frozen_kept' (HF5.out 1) hD5.2.2.2 hg6 (by simp; omega); have g2 := frozen_kept' (HF5.out 2) hD5.2.2.2 hg6 (by simp; omega)))))
    all_goals
      have fK : FitsI ((k1 : Int) + (k2 : Int) - 170) := by unfold FitsI; omega
      have w1' : IntKind.i64.wrap ((k1 : Int) + (k2 : Int)) = (k1 : Int) + (k2 : Int) := IntWalk.i64_in _ (by omega)
      have w2' : IntKind.i64.wrap ((k1 : Int) + (k2 : Int) - 170) = (k1 : Int) + (k2 : Int) - 170 := IntWalk.i64_in _ (by omega)
      clear hA4 hD4 HF4 b4 hr4 hr5 hg5 hr6 hg6 hA5 hD5 HF5 b5
      go_wp2
      refine bodyPost_ret (v := .tuple #[.agg #[.int .i64 S, .int .i64 T, .int .i64 X], .int .i64 ((k1 : Int) + (k2 : Int) - 170)]) (by simp [results, Try.results32, go_sem, d0, d1, d2, w1', w2']) rfl ⟨S, T, X, _, rfl, fS, fT, fX, fK, ?_⟩
      go_grown
end Go.Proofs.Ytnpaigpdbjadlaa
