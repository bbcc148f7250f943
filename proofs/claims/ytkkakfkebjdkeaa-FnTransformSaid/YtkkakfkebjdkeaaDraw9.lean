/- Contracts of the draws of sequences: what is sometimes none, shifts, two sequences, the draws of the laws. Contracts of the draws of two sequences. -/
import Derived.Test.YtkkakfkebjdkeaaDraw5
import Derived.Test.YtkkakfkebjdkeaaSeqFun3
namespace Go.Proofs.Ytkkakfkebjdkeaa
open Go.RowKit
set_option linter.unusedVariables false
/-- A string that may be none: not longer than 300. -/
def AnyPost (b p : Nat) (zs : List Int) (w : World) (e : Ending) (w' : World) : Prop :=
  ∃ (z : ByteArray) (q : Nat), e = .returned (.string z) ∧ z.size ≤ 300 ∧ q ≤ p + 300 ∧ RdAt w' b q zs ∧ w.grownBy w' (some b)
theorem TxtAt.three (w : World) (t : TypeId) : TxtAt (w.alloc (.cells #[.string ⟨#[50]⟩, .string ⟨#[120]⟩, .string ⟨#[32]⟩] t)) w.heap.size 3 1 := by
  refine ⟨by simp, fun i hi => ?_⟩
  have : i = 0 ∨ i = 1 ∨ i = 2 := by omega
  rcases this with rfl | rfl | rfl
  · exact ⟨⟨#[50]⟩, by rw [World.cell?_alloc_new]; rfl, Nat.le_refl _⟩
  · exact ⟨⟨#[120]⟩, by rw [World.cell?_alloc_new]; rfl, Nat.le_refl _⟩
  · exact ⟨⟨#[32]⟩, by rw [World.cell?_alloc_new]; rfl, Nat.le_refl _⟩
set_option maxHeartbeats 1600000 in
set_option maxRecDepth 100000 in
theorem l2Bad_any (b p : Nat) (zs : List Int) (z : ByteArray) (w : World) (hr : RdAt w b p zs) (hp : p ≤ 800000) (hz : z.size ≤ 200) :
    Calls Try.prog 114 #[.pointer (some ⟨b, 0, none⟩), .string z] w (AnyPost b p zs w) := by
  have hbl := hr.1
  go_enter Try.func114, Try.ntmps114
  go_wp2_with fail
  refine (pick_any b p 40 zs _ hr (by omega) (by omega) (by omega)).mono ?_
  rintro e w1 ⟨k, hk, rfl, hr1, hg1⟩
  clear hr
  by_cases k0 : k = 0
  · subst k0
    clear hk
    go_wp2_with fail
    refine (of_any b (p + 1) w1.heap.size 3 1 zs _ (hr1.alloc _) (TxtAt.three w1 _) hr1.1 (by omega) (by omega) (by omega)).mono ?_
    rintro e w2 ⟨y, q, rfl, hy, hq, hr2, hg2⟩
    have hg2' := hg1.trans ((World.grownBy_alloc w1 _ (some b)).trans hg2)
    have hzs : z.size + y.size ≤ 9223372036854775807 := by omega
    have HZ : Hid ((z ++ y).size ≤ 300) := Lib.hid (by rw [ByteArray.size_append]; omega)
    clear hr1 hg1 hg2
    go_wp2
    go_ret
    exact ⟨_, q, rfl, HZ.out, by omega, hr2, hg2'⟩
  by_cases k1 : k = 1
  · subst k1
    clear hk k0
    go_wp2
    go_ret
    exact ⟨⟨#[]⟩, p + 1, rfl, by decide, by omega, hr1, hg1⟩
  by_cases k2 : k = 2
  · subst k2
    clear hk k0 k1
    go_wp2_with fail
    refine (num_any b (p + 1) zs _ w1.heap.size 2 [255, 256] (hr1.alloc _) (IntsAt.new w1 _ [255, 256]) rfl hr1.1 (by omega) (by omega) (by omega)).mono ?_
    rintro e w2 ⟨v, hv, rfl, hr2, hg2⟩
    obtain ⟨s, rfl, hs5⟩ : ∃ s : Nat, v = s ∧ s ≤ 256 := by
      simp only [List.mem_cons, List.not_mem_nil, or_false] at hv
      exact ⟨v.toNat, by omega, by omega⟩
    have hg2' := hg1.trans ((World.grownBy_alloc w1 _ (some b)).trans hg2)
    have hM := fun w => l9Many_any ⟨#[49]⟩ s w (by show 1 * s ≤ _; omega) (by omega)
    have hsz := many_one_size s
    obtain ⟨Z, hZ⟩ : ∃ Z, many ⟨#[49]⟩ s = Z := ⟨_, rfl⟩
    rw [hZ] at hM hsz
    have HM := Lib.hid hM
    have HZ := Lib.hid (show Z.size ≤ 300 by omega)
    clear hv hr1 hg1 hg2 hM hsz hZ
    go_wp2_with fail
    refine (HM.out _).mono ?_
    rintro e w' ⟨rfl, rfl⟩
    go_wp2
    go_ret
    exact ⟨Z, p + 1 + 1, rfl, HZ.out, by omega, hr2, hg2'⟩
  · have e0 : ((k : Int) == 0) = false := by simp; omega
    have e1 : ((k : Int) == 1) = false := by simp; omega
    have e2 : ((k : Int) == 2) = false := by simp; omega
    go_wp2
    go_ret
    exact ⟨z, p + 1, rfl, by omega, by omega, hr1, hg1⟩
set_option maxRecDepth 100000 in
theorem l2Open_any (b p : Nat) (zs : List Int) (w : World) (hr : RdAt w b p zs) (hp : p ≤ 700000) :
    Calls Try.prog 75 #[.pointer (some ⟨b, 0, none⟩)] w fun e w' => ∃ (z : ByteArray) (q : Nat), e = .returned (.string z) ∧ z.size ≤ 300 ∧ q ≤ p + 500 ∧ RdAt w' b q zs ∧ w.grownBy w' (some b) := by
  go_enter Try.func75, Try.ntmps75
  go_wp2_with fail
  refine (l2Some_any b p zs _ hr (by omega)).mono ?_
  rintro e w1 ⟨z, q, rfl, hz1, hz2, hq, hr1, hg1⟩
  clear hr
  go_wp2_with fail
  refine (l2Bad_any b q zs z _ hr1 (by omega) (by omega)).mono ?_
  rintro e w2 ⟨y, q2, rfl, hy, hq2, hr2, hg2⟩
  have hg2' := hg1.trans hg2
  clear hr1 hg1 hg2
  go_wp2
  go_ret
  exact ⟨y, q2, rfl, hy, by omega, hr2, hg2'⟩
/-- A sequence and a number were drawn. -/
def DrawStrInt (w : World) (e : Ending) (w' : World) : Prop := ∃ (z : ByteArray) (k : Int), e = .returned (.tuple #[.string z, .int .i64 k]) ∧ z.size ≤ 300 ∧ FitsI k ∧ Below w.heap.size w w'
def DrawStr (w : World) (e : Ending) (w' : World) : Prop := ∃ z : ByteArray, e = .returned (.string z) ∧ z.size ≤ 300 ∧ Below w.heap.size w w'
end Go.Proofs.Ytkkakfkebjdkeaa
namespace Go.Proofs.Ytkkakfkebjdkeaa
open Go.RowKit
set_option linter.unusedVariables false
def TwoPost (b p : Nat) (zs : List Int) (w : World) (e : Ending) (w' : World) : Prop :=
  ∃ (x y : ByteArray) (q : Nat), e = .returned (.tuple #[.string x, .string y]) ∧ x.size ≤ 300 ∧ y.size ≤ 300 ∧ q ≤ p + 2000 ∧ RdAt w' b q zs ∧ w.grownBy w' (some b)
def DrawTwo (w : World) (e : Ending) (w' : World) : Prop := ∃ x y : ByteArray, e = .returned (.tuple #[.string x, .string y]) ∧ x.size ≤ 300 ∧ y.size ≤ 300 ∧ Below w.heap.size w w'
def DrawTwoInt (w : World) (e : Ending) (w' : World) : Prop := ∃ (x y : ByteArray) (k : Int), e = .returned (.tuple #[.string x, .string y, .int .i64 k]) ∧ x.size ≤ 300 ∧ y.size ≤ 300 ∧ FitsI k ∧ Below w.heap.size w w'
end Go.Proofs.Ytkkakfkebjdkeaa
