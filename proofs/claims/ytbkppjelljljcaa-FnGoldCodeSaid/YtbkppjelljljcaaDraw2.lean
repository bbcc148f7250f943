/- Contracts of the draws of registers. -/
import Derived.Test.YtbkppjelljljcaaDraw
import Derived.Test.YtbkppjelljljcaaRegBase
namespace Go.Proofs.Ytbkppjelljljcaa
open Go.RowKit
/-- What drawing a register leaves, behind some places of the reader. -/
def SomePost (b p : Nat) (zs : List Int) (w : World) (e : Ending) (w' : World) : Prop :=
  ∃ s t x q : Nat, e = .returned (.agg #[.int .i64 s, .int .i64 t, .int .i64 x]) ∧ RegN s t x ∧ q ≤ p + 10 ∧ RdAt w' b q zs ∧ w.grownBy w' (some b)
theorem grow {w w' : World} (h : Below w.heap.size w w') (row : Option Nat) : w.grownBy w' row := ⟨h.os, h.tape, h.output, h.size, fun k hk _ => h.block k hk⟩
/-- One block that is laid first: the result's. -/
theorem one_new (w : World) (t : TypeId) : ∃ W, Below w.heap.size w W ∧ RegAt W w.heap.size 0 0 0 ∧ (∀ o, W.frozen? ⟨w.heap.size, o, none⟩ = false) ∧ W.heap.size = w.heap.size + 1 ∧ w.alloc (.cells #[.int .i64 0, .int .i64 0, .int .i64 0] t) = W :=
  ⟨_, (Below.refl _ w).alloc (Nat.le_refl _) _, RegAt.new w t 0 0 0, fun o => by simp, by simp, rfl⟩
theorem some_new {w w1 w2 : World} {b : Nat} (h : w.grownBy w1 (some b)) (k : w1.grownBy w2 (some w.heap.size)) : w.grownBy w2 (some b) :=
  h.andThen k (fun j e => by cases e; exact .inl (Nat.le_refl _))
theorem some_taps (s : Nat) (h2 : 2 ≤ s) (h8 : s ≤ 8) : ∃ t : Nat, 1 ≤ t ∧ t < tw s ∧ ([3, 3, 3, 5, 3, 3, 29] : List Int).getD (s - 2) 0 = t := by
  have : s = 2 ∨ s = 3 ∨ s = 4 ∨ s = 5 ∨ s = 6 ∨ s = 7 ∨ s = 8 := by omega
  rcases this with rfl | rfl | rfl | rfl | rfl | rfl | rfl
  · exact ⟨3, by omega, by decide, rfl⟩
  · exact ⟨3, by omega, by decide, rfl⟩
  · exact ⟨3, by omega, by decide, rfl⟩
  · exact ⟨5, by omega, by decide, rfl⟩
  · exact ⟨3, by omega, by decide, rfl⟩
  · exact ⟨3, by omega, by decide, rfl⟩
  · exact ⟨29, by omega, by decide, rfl⟩
set_option maxRecDepth 100000 in
theorem l1Some_any (b p : Nat) (zs : List Int) (w : World) (hr : RdAt w b p zs) (hp : p ≤ 900000) :
    Calls Try.prog 56 #[.pointer (some ⟨b, 0, none⟩)] w (SomePost b p zs w) := by
  have hbl := hr.1
  go_enter Try.func56, Try.ntmps56
  go_wp2_with fail
  obtain ⟨W, hB, hD, hf, hz, hW⟩ := one_new w 24
  rw [hW]
  clear hW
  have hr0 := hr.below hB
  have hx := IntsAt.new W 3 [3, 4, 5, 2, 6, 7, 8]
  rw [hz] at hx
  refine (num_any b p zs _ (w.heap.size + 1) 7 [3, 4, 5, 2, 6, 7, 8] (hr0.alloc _) hx rfl (by omega) (by omega) (by omega) (by omega)).mono ?_
  rintro e w1 ⟨v, hv, rfl, hr1, hg1⟩
  obtain ⟨s, rfl, hs2, hs8⟩ : ∃ s : Nat, v = s ∧ 2 ≤ s ∧ s ≤ 8 := by
    simp only [List.mem_cons, List.not_mem_nil, or_false] at hv
    exact ⟨v.toNat, by omega, by omega, by omega⟩
  have hg1' : w.grownBy w1 (some b) := (grow hB (some b)).trans ((World.grownBy_alloc W _ (some b)).trans hg1)
  have hD1 : RegAt w1 w.heap.size 0 0 0 := (hD.below ((Below.refl _ W).alloc (Nat.le_refl _) _) hD.2.2.2).kept hg1 (by simp; omega)
  have htw := tw_le s hs8
  have htw4 := tw_four s hs2
  have hf1 : ∀ o, w1.frozen? ⟨w.heap.size, o, none⟩ = false := fun o => frozen_kept' (hf o) hD.2.2.2 ((World.grownBy_alloc W _ (some b)).trans hg1) (by simp; omega)
  obtain ⟨m, hm⟩ : ∃ m, tw s = m + 1 := ⟨tw s - 1, by omega⟩
  have hm' : ((tw s : Nat) : Int) - 1 = (m : Int) := by omega
  have hm1 : 1 ≤ m := by omega
  have hm2 : m ≤ 256 := by omega
  have HM := Lib.hid hm
  clear hm
  have HF1 := Lib.hid hf1
  clear hv hg1 hD hf hf1 hx hr0 hr hB hz
  go_wp2_with fail
  refine (l1Two_any s _ hs8).mono ?_
  rintro e w' ⟨rfl, rfl⟩
  go_wp2_with fail
  refine (pick_any b (p + 1) m zs _ hr1 (by omega) (by omega) (by omega)).mono ?_
  rintro e w2 ⟨k1, hk1, rfl, hr2, hg2⟩
  have hg2' := hg1'.trans hg2
  have hD2 := hD1.kept hg2 (by simp; omega)
  have hf2 : ∀ o, w2.frozen? ⟨w.heap.size, o, none⟩ = false := fun o => frozen_kept' (HF1.out o) hD1.2.2.2 hg2 (by simp; omega)
  have HF2 := Lib.hid hf2
  have hk1' : 1 + k1 < tw s := by have := HM.out; omega
  clear hr1 hg1' hD1 HF1 hf2 hg2 hm' HM
  go_wp2_with fail
  refine (pick_any b (p + 1 + 1) 2 zs _ hr2 (by omega) (by omega) (by omega)).mono ?_
  rintro e w3 ⟨k2, hk2, rfl, hr3, hg3⟩
  have hg3' := hg2'.trans hg3
  have hD3 := hD2.kept hg3 (by simp; omega)
  have hf3 : ∀ o, w3.frozen? ⟨w.heap.size, o, none⟩ = false := fun o => frozen_kept' (HF2.out o) hD2.2.2.2 hg3 (by simp; omega)
  have HF3 := Lib.hid hf3
  clear hr2 hg2' hD2 HF2 hf3 hg3
  -- both ways end alike: taps t, then the state
  have fin : ∀ (W : World) (t : Nat), 1 ≤ t → t < tw s → RdAt W b (p + 1 + 1 + 1) zs → w.grownBy W (some b) → RegAt W w.heap.size 0 0 0 → Hid (∀ o, W.frozen? ⟨w.heap.size, o, none⟩ = false) → True := fun _ _ _ _ _ _ _ _ => trivial
  clear fin
  by_cases h0 : k2 = 0
  · subst h0
    obtain ⟨t, ht1, ht2, ht3⟩ := some_taps s hs2 hs8
    have hc : (#[Value.int .i64 3, .int .i64 3, .int .i64 3, .int .i64 5, .int .i64 3, .int .i64 3, .int .i64 29] : Array Value)[s - 2]? = some (.int .i64 t) := by
      have hx := (IntsAt.new w3 3 [3, 3, 3, 5, 3, 3, 29]).2 (s - 2) (by simp; omega)
      rw [ht3, World.cell?_alloc_new] at hx
      exact hx
    have hs2' : ((s : Int) - 2).toNat = s - 2 := by omega
    go_wp2_with fail
    clear hc hs2'
    have hD4 : RegAt (w3.alloc (.cells #[.int .i64 3, .int .i64 3, .int .i64 3, .int .i64 5, .int .i64 3, .int .i64 3, .int .i64 29] 3)) w.heap.size 0 0 0 := hD3.below ((Below.refl _ _).alloc (Nat.le_refl _) _) hD3.2.2.2
    have hr4 := hr3.alloc (.cells #[.int .i64 3, .int .i64 3, .int .i64 3, .int .i64 5, .int .i64 3, .int .i64 3, .int .i64 29] 3)
    have hg4 := hg3'.trans (World.grownBy_alloc w3 (.cells #[.int .i64 3, .int .i64 3, .int .i64 3, .int .i64 5, .int .i64 3, .int .i64 3, .int .i64 29] 3) (some b))
    have hf4 : ∀ o, (w3.alloc (.cells #[.int .i64 3, .int .i64 3, .int .i64 3, .int .i64 5, .int .i64 3, .int .i64 3, .int .i64 29] 3)).frozen? ⟨w.heap.size, o, none⟩ = false := fun o => frozen_kept' (HF3.out o) hD3.2.2.2 (World.grownBy_alloc w3 _ none) (by simp)
    have HF4 := Lib.hid hf4
    clear hf4 hr3 hg3' hD3 HF3
    refine (l1Two_any s _ hs8).mono ?_
    rintro e w' ⟨rfl, rfl⟩
    go_wp2_with fail
    refine (pick_any b (p + 1 + 1 + 1) (tw s) zs _ hr4 (by omega) (by omega) (by omega)).mono ?_
    rintro e w5 ⟨x, hx, rfl, hr5, hg5⟩
    have hg5' := hg4.trans hg5
    obtain ⟨d0, d1, d2, dl⟩ := hD4.kept hg5 (by simp; omega)
    have f0 := frozen_kept' (HF4.out 0) hD4.2.2.2 hg5 (by simp; omega)
    have f1 := frozen_kept' (HF4.out 1) hD4.2.2.2 hg5 (by simp; omega)
    have f2 := frozen_kept' (HF4.out 2) hD4.2.2.2 hg5 (by simp; omega)
    clear hr4 hg4 hD4 HF4 hg5
    go_wp2
    refine bodyPost_ret (v := .agg #[.int .i64 s, .int .i64 t, .int .i64 x]) (by simp [results, Try.results56, go_sem, d0, d1, d2]) rfl ?_
    obtain ⟨q1, q2, q3⟩ := RegAt.set3 ⟨d0, d1, d2, dl⟩ s t x
    exact ⟨s, t, x, p + 1 + 1 + 1 + 1, rfl, ⟨hs2, hs8, ht1, ht2, hx⟩, by omega, hr5.kept q3 (fun k e => by cases e; exact hbl), some_new hg5' q3⟩
  · have hk0 : ((k2 : Int) == 0) = false := by simp; omega
    have ht1 : 1 ≤ 1 + k1 := by omega
    have ht2 : 1 + k1 < tw s := hk1'
    go_wp2_with fail
    refine (l1Two_any s _ hs8).mono ?_
    rintro e w' ⟨rfl, rfl⟩
    go_wp2_with fail
    refine (pick_any b (p + 1 + 1 + 1) (tw s) zs _ hr3 (by omega) (by omega) (by omega)).mono ?_
    rintro e w5 ⟨x, hx, rfl, hr5, hg5⟩
    have hg5' := hg3'.trans hg5
    obtain ⟨d0, d1, d2, dl⟩ := hD3.kept hg5 (by simp; omega)
    have f0 := frozen_kept' (HF3.out 0) hD3.2.2.2 hg5 (by simp; omega)
    have f1 := frozen_kept' (HF3.out 1) hD3.2.2.2 hg5 (by simp; omega)
    have f2 := frozen_kept' (HF3.out 2) hD3.2.2.2 hg5 (by simp; omega)
    clear hr3 hg3' hD3 HF3 hg5
    go_wp2
    refine bodyPost_ret (v := .agg #[.int .i64 s, .int .i64 (1 + (k1 : Int)), .int .i64 x]) (by simp [results, Try.results56, go_sem, d0, d1, d2]) rfl ?_
    obtain ⟨q1, q2, q3⟩ := RegAt.set3 ⟨d0, d1, d2, dl⟩ s (1 + (k1 : Int)) x
    exact ⟨s, 1 + k1, x, p + 1 + 1 + 1 + 1, rfl, ⟨hs2, hs8, ht1, ht2, hx⟩, by omega, hr5.kept q3 (fun k e => by cases e; exact hbl), some_new hg5' q3⟩
/-- Does a number fit an int? -/
def FitsI (n : Int) : Prop := -9223372036854775808 ≤ n ∧ n ≤ 9223372036854775807
theorem FitsI.nat (n : Nat) (h : n ≤ 1000000) : FitsI n := by unfold FitsI; omega
/-- What turning a register into one that is sometimes not valid leaves. -/
def BadPost (b p : Nat) (zs : List Int) (w : World) (e : Ending) (w' : World) : Prop :=
  ∃ (S T X : Int) (q : Nat), e = .returned (.agg #[.int .i64 S, .int .i64 T, .int .i64 X]) ∧ FitsI S ∧ FitsI T ∧ FitsI X ∧ q ≤ p + 10 ∧ RdAt w' b q zs ∧ w.grownBy w' (some b)
theorem RdAt.setNew {w : World} {b p : Nat} {zs : List Int} {a : Addr} (h : RdAt w b p zs) (hb : b < a.block) (v : Value) : RdAt (w.setCell a v) b p zs :=
  h.kept (row := some a.block) ⟨rfl, rfl, rfl, by simp, fun k _ hne => Below.heap_setCell _ _ _ _ (fun e => hne (by rw [e]))⟩ (fun k e => by cases e; exact hb)
theorem grown_setNew {w w1 : World} {b : Nat} {a : Addr} (h : w.grownBy w1 (some b)) (ha : w.heap.size ≤ a.block) (v : Value) : w.grownBy (w1.setCell a v) (some b) :=
  h.andThen (row' := some a.block) ⟨rfl, rfl, rfl, by simp, fun k _ hne => Below.heap_setCell _ _ _ _ (fun e => hne (by rw [e]))⟩ (fun j e => by cases e; exact .inl ha)
theorem fits_mem {v : Int} {xs : List Int} (h : ∀ x ∈ xs, FitsI x) (hv : v ∈ xs) : FitsI v := h v hv
set_option maxHeartbeats 1600000 in
set_option maxRecDepth 100000 in
theorem l1Bad_any (b p : Nat) (zs : List Int) (s t x : Nat) (w : World) (hr : RdAt w b p zs) (hp : p ≤ 900000) (h : RegN s t x) :
    Calls Try.prog 57 #[.pointer (some ⟨b, 0, none⟩), .agg #[.int .i64 s, .int .i64 t, .int .i64 x]] w (BadPost b p zs w) := by
  have hbl := hr.1
  have htw := tw_le s h.hi
  have fs := FitsI.nat s (by have := h.hi; omega)
  have ft := FitsI.nat t (by have := h.tapLt; omega)
  have fx := FitsI.nat x (by have := h.lt; omega)
  go_enter Try.func57, Try.ntmps57
  go_wp2_with fail
  obtain ⟨W, hB, hA, hD, hf, hf', hz, hW⟩ := two_new w 24 s t x
  rw [hW]
  clear hW
  have hr0 := hr.below hB
  refine (pick_any b p 40 zs _ hr0 (by omega) (by omega) (by omega)).mono ?_
  rintro e w1 ⟨k, hk, rfl, hr1, hg1⟩
  have hg1' := (grow hB (some b)).trans hg1
  have hA1 := hA.kept hg1 (by simp; omega)
  have hD1 := hD.kept hg1 (by simp; omega)
  have hf1 : ∀ o, w1.frozen? ⟨w.heap.size, o, none⟩ = false := fun o => frozen_kept' (hf o) hA.2.2.2 hg1 (by simp; omega)
  have hf1' : ∀ o, w1.frozen? ⟨w.heap.size + 1, o, none⟩ = false := fun o => frozen_kept' (hf' o) hD.2.2.2 hg1 (by simp; omega)
  have HF := Lib.hid hf1
  have HF' := Lib.hid hf1'
  clear hr hr0 hB hA hD hf hf' hg1 hf1 hf1' hz
  by_cases h0 : k = 0
  · subst h0
    go_wp2_with fail
    have hxs : ∀ y ∈ ([1, 9, 0, -1, 9223372036854775807] : List Int), FitsI y := by
      intro y hy
      simp only [List.mem_cons, List.not_mem_nil, or_false] at hy
      unfold FitsI
      omega
    refine (num_any b (p + 1) zs _ w1.heap.size 5 [1, 9, 0, -1, 9223372036854775807] (hr1.alloc _) (IntsAt.new w1 _ [1, 9, 0, -1, 9223372036854775807]) rfl hr1.1 (by omega) (by omega) (by omega)).mono ?_
    rintro e w2 ⟨v, hvm, rfl, hr2, hg2⟩
    have hv := fits_mem hxs hvm
    have hg2' := hg1'.trans ((World.grownBy_alloc w1 _ (some b)).trans hg2)
    obtain ⟨c0, c1, c2, cl⟩ := (hA1.kept (World.grownBy_alloc w1 _ none) (by simp)).kept hg2 (by simp; omega)
    obtain ⟨d0, d1, d2, dl⟩ := (hD1.kept (World.grownBy_alloc w1 _ none) (by simp)).kept hg2 (by simp; omega)
    have f0 := frozen_kept' (HF.out 0) hA1.2.2.2 ((World.grownBy_alloc w1 _ (some b)).trans hg2) (by simp; omega)
    have g0 := frozen_kept' (HF'.out 0) hD1.2.2.2 ((World.grownBy_alloc w1 _ (some b)).trans hg2) (by simp; omega)
    have g1 := frozen_kept' (HF'.out 1) hD1.2.2.2 ((World.grownBy_alloc w1 _ (some b)).trans hg2) (by simp; omega)
    have g2 := frozen_kept' (HF'.out 2) hD1.2.2.2 ((World.grownBy_alloc w1 _ (some b)).trans hg2) (by simp; omega)
    clear hxs hvm hr1 hA1 hD1 HF HF' hg1' hg2
    go_wp2
    refine bodyPost_ret (v := .agg #[.int .i64 v, .int .i64 (t : Int), .int .i64 (x : Int)]) (by simp [results, Try.results57, go_sem, d0, d1, d2]) rfl ?_
    exact ⟨v, (t : Int), (x : Int), p + 1 + 1, rfl, hv, ft, fx, by omega, by repeat (first | exact hr2 | (refine RdAt.setNew ?_ ?_ _; rotate_left; · simp; omega)), by repeat (first | exact hg2' | (refine grown_setNew ?_ ?_ _; rotate_left; · simp))⟩
  by_cases h1 : k = 1
  · subst h1
    obtain ⟨c0, c1, c2, cl⟩ := id hA1
    go_wp2_with fail
    refine (l1Two_any s _ h.hi).mono ?_
    rintro e w' ⟨rfl, rfl⟩
    go_wp2_with fail
    clear c0 c1 c2 cl
    have hxs : ∀ y ∈ ([0, 256, -1, ((tw s : Nat) : Int)] : List Int), FitsI y := by
      intro y hy
      simp only [List.mem_cons, List.not_mem_nil, or_false] at hy
      unfold FitsI
      omega
    refine (num_any b (p + 1) zs _ w1.heap.size 4 [0, 256, -1, ((tw s : Nat) : Int)] (hr1.alloc _) (IntsAt.new w1 _ [0, 256, -1, ((tw s : Nat) : Int)]) rfl hr1.1 (by omega) (by omega) (by omega)).mono ?_
    rintro e w2 ⟨v, hvm, rfl, hr2, hg2⟩
    have hv := fits_mem hxs hvm
    have hg2' := hg1'.trans ((World.grownBy_alloc w1 _ (some b)).trans hg2)
    obtain ⟨c0, c1, c2, cl⟩ := (hA1.kept (World.grownBy_alloc w1 _ none) (by simp)).kept hg2 (by simp; omega)
    obtain ⟨d0, d1, d2, dl⟩ := (hD1.kept (World.grownBy_alloc w1 _ none) (by simp)).kept hg2 (by simp; omega)
    have f1 := frozen_kept' (HF.out 1) hA1.2.2.2 ((World.grownBy_alloc w1 _ (some b)).trans hg2) (by simp; omega)
    have g0 := frozen_kept' (HF'.out 0) hD1.2.2.2 ((World.grownBy_alloc w1 _ (some b)).trans hg2) (by simp; omega)
    have g1 := frozen_kept' (HF'.out 1) hD1.2.2.2 ((World.grownBy_alloc w1 _ (some b)).trans hg2) (by simp; omega)
    have g2 := frozen_kept' (HF'.out 2) hD1.2.2.2 ((World.grownBy_alloc w1 _ (some b)).trans hg2) (by simp; omega)
    clear hxs hvm hr1 hA1 hD1 HF HF' hg1' hg2
    go_wp2
    refine bodyPost_ret (v := .agg #[.int .i64 (s : Int), .int .i64 v, .int .i64 (x : Int)]) (by simp [results, Try.results57, go_sem, d0, d1, d2]) rfl ?_
    exact ⟨(s : Int), v, (x : Int), p + 1 + 1, rfl, fs, hv, fx, by omega, by repeat (first | exact hr2 | (refine RdAt.setNew ?_ ?_ _; rotate_left; · simp; omega)), by repeat (first | exact hg2' | (refine grown_setNew ?_ ?_ _; rotate_left; · simp))⟩
  by_cases h2 : k = 2
  · subst h2
    obtain ⟨c0, c1, c2, cl⟩ := id hA1
    go_wp2_with fail
    refine (l1Two_any s _ h.hi).mono ?_
    rintro e w' ⟨rfl, rfl⟩
    go_wp2_with fail
    clear c0 c1 c2 cl
    have hxs : ∀ y ∈ ([-1, ((tw s : Nat) : Int), 9223372036854775807] : List Int), FitsI y := by
      intro y hy
      simp only [List.mem_cons, List.not_mem_nil, or_false] at hy
      unfold FitsI
      omega
    refine (num_any b (p + 1) zs _ w1.heap.size 3 [-1, ((tw s : Nat) : Int), 9223372036854775807] (hr1.alloc _) (IntsAt.new w1 _ [-1, ((tw s : Nat) : Int), 9223372036854775807]) rfl hr1.1 (by omega) (by omega) (by omega)).mono ?_
    rintro e w2 ⟨v, hvm, rfl, hr2, hg2⟩
    have hv := fits_mem hxs hvm
    have hg2' := hg1'.trans ((World.grownBy_alloc w1 _ (some b)).trans hg2)
    obtain ⟨c0, c1, c2, cl⟩ := (hA1.kept (World.grownBy_alloc w1 _ none) (by simp)).kept hg2 (by simp; omega)
    obtain ⟨d0, d1, d2, dl⟩ := (hD1.kept (World.grownBy_alloc w1 _ none) (by simp)).kept hg2 (by simp; omega)
    have f2 := frozen_kept' (HF.out 2) hA1.2.2.2 ((World.grownBy_alloc w1 _ (some b)).trans hg2) (by simp; omega)
    have g0 := frozen_kept' (HF'.out 0) hD1.2.2.2 ((World.grownBy_alloc w1 _ (some b)).trans hg2) (by simp; omega)
    have g1 := frozen_kept' (HF'.out 1) hD1.2.2.2 ((World.grownBy_alloc w1 _ (some b)).trans hg2) (by simp; omega)
    have g2 := frozen_kept' (HF'.out 2) hD1.2.2.2 ((World.grownBy_alloc w1 _ (some b)).trans hg2) (by simp; omega)
    clear hxs hvm hr1 hA1 hD1 HF HF' hg1' hg2
    go_wp2
    refine bodyPost_ret (v := .agg #[.int .i64 (s : Int), .int .i64 (t : Int), .int .i64 v]) (by simp [results, Try.results57, go_sem, d0, d1, d2]) rfl ?_
    exact ⟨(s : Int), (t : Int), v, p + 1 + 1, rfl, fs, ft, hv, by omega, by repeat (first | exact hr2 | (refine RdAt.setNew ?_ ?_ _; rotate_left; · simp; omega)), by repeat (first | exact hg2' | (refine grown_setNew ?_ ?_ _; rotate_left; · simp))⟩
  · have e0 : ((k : Int) == 0) = false := by simp; omega
    have e1 : ((k : Int) == 1) = false := by simp; omega
    have e2 : ((k : Int) == 2) = false := by simp; omega
    obtain ⟨c0, c1, c2, cl⟩ := hA1
    obtain ⟨d0, d1, d2, dl⟩ := hD1
    have g0 := HF'.out 0
    have g1 := HF'.out 1
    have g2 := HF'.out 2
    have hr2 := hr1
    have hg2' := hg1'
    clear hr1 HF HF' hg1'
    go_wp2
    refine bodyPost_ret (v := .agg #[.int .i64 (s : Int), .int .i64 (t : Int), .int .i64 (x : Int)]) (by simp [results, Try.results57, go_sem, d0, d1, d2]) rfl ?_
    exact ⟨(s : Int), (t : Int), (x : Int), p + 1, rfl, fs, ft, fx, by omega, by repeat (first | exact hr2 | (refine RdAt.setNew ?_ ?_ _; rotate_left; · simp; omega)), by repeat (first | exact hg2' | (refine grown_setNew ?_ ?_ _; rotate_left; · simp))⟩
end Go.Proofs.Ytbkppjelljljcaa
