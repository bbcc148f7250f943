/- Draws of bits for chapter 6. -/
import Derived.Test.YtdafepfjjmdkeaaDoorDraw5
import Derived.Test.YtdafepfjjmdkeaaDoorSeqFun3
namespace Go.Proofs.YtdafepfjjmdkeaaDoor
open Go.RowKit
set_option linter.unusedVariables false
set_option maxRecDepth 100000
/-- A string that may be none: not longer than 700. -/
def WildPost (b p : Nat) (zs : List Int) (w : World) (e : Ending) (w' : World) : Prop :=
  ∃ (z : ByteArray) (q : Nat), e = .returned (.string z) ∧ z.size ≤ 700 ∧ q ≤ p + 300 ∧ RdAt w' b q zs ∧ w.grownBy w' (some b)
def DrawBits (w : World) (e : Ending) (w' : World) : Prop := ∃ z : ByteArray, e = .returned (.string z) ∧ z.size ≤ 700 ∧ Below w.heap.size w w'
def DrawBitsInt (w : World) (e : Ending) (w' : World) : Prop := ∃ (z : ByteArray) (k : Int), e = .returned (.tuple #[.string z, .int .i64 k]) ∧ z.size ≤ 700 ∧ FitsI k ∧ Below w.heap.size w w'
theorem many_byte_size (c : UInt8) (n : Nat) : (many ⟨#[c]⟩ n).size = n := by rw [many_size]; show 1 * n = n; omega
theorem TxtAt.two (w : World) (t : TypeId) : TxtAt (w.alloc (.cells #[.string ⟨#[50]⟩, .string ⟨#[120]⟩] t)) w.heap.size 2 1 := by
  refine ⟨by simp, fun i hi => ?_⟩
  have : i = 0 ∨ i = 1 := by omega
  rcases this with rfl | rfl
  · exact ⟨⟨#[50]⟩, by rw [World.cell?_alloc_new]; rfl, Nat.le_refl _⟩
  · exact ⟨⟨#[120]⟩, by rw [World.cell?_alloc_new]; rfl, Nat.le_refl _⟩
set_option maxHeartbeats 1600000 in
theorem l6Wild_any (b p : Nat) (zs : List Int) (z : ByteArray) (w : World) (hr : RdAt w b p zs) (hp : p ≤ 800000) (hz : z.size ≤ 690) :
    Calls Tryd.prog 42 #[.pointer (some ⟨b, 0, none⟩), .string z] w (WildPost b p zs w) := by
  have hbl := hr.1
  go_enter Tryd.func42, Tryd.ntmps42
  go_wp2_with fail
  refine (pick_any b p 40 zs _ hr (by omega) (by omega) (by omega)).mono ?_
  rintro e w1 ⟨k, hk, rfl, hr1, hg1⟩
  clear hr
  by_cases k0 : k = 0
  · subst k0
    clear hk
    go_wp2_with fail
    refine (of_any b (p + 1) w1.heap.size 2 1 zs _ (hr1.alloc _) (TxtAt.two w1 _) hr1.1 (by omega) (by omega) (by omega)).mono ?_
    rintro e w2 ⟨y, q, rfl, hy, hq, hr2, hg2⟩
    have hg2' := hg1.trans ((World.grownBy_alloc w1 _ (some b)).trans hg2)
    have hzs : z.size + y.size ≤ 9223372036854775807 := by omega
    have HZ : Hid ((z ++ y).size ≤ 700) := Lib.hid (by rw [ByteArray.size_append]; omega)
    clear hr1 hg1 hg2
    go_wp2
    go_ret
    exact ⟨_, q, rfl, HZ.out, by omega, hr2, hg2'⟩
  by_cases k1 : k = 1
  · subst k1
    clear hk k0
    go_wp2_with fail
    refine (num_any b (p + 1) zs _ w1.heap.size 3 [600, 601, 599] (hr1.alloc _) (IntsAt.new w1 _ [600, 601, 599]) rfl hr1.1 (by omega) (by omega) (by omega)).mono ?_
    rintro e w2 ⟨v, hv, rfl, hr2, hg2⟩
    obtain ⟨s, rfl, hs5⟩ : ∃ s : Nat, v = s ∧ s ≤ 601 := by
      simp only [List.mem_cons, List.not_mem_nil, or_false] at hv
      exact ⟨v.toNat, by omega, by omega⟩
    have hg2' := hg1.trans ((World.grownBy_alloc w1 _ (some b)).trans hg2)
    have hM := fun w => l9Many_any ⟨#[48]⟩ s w (by show 1 * s ≤ _; omega) (by omega)
    have hsz := many_byte_size 48 s
    obtain ⟨Z, hZ⟩ : ∃ Z, many ⟨#[48]⟩ s = Z := ⟨_, rfl⟩
    rw [hZ] at hM hsz
    have HM := Lib.hid hM
    have HZ := Lib.hid (show Z.size ≤ 700 by omega)
    clear hv hr1 hg1 hg2 hM hsz hZ
    go_wp2_with fail
    refine (HM.out _).mono ?_
    rintro e w' ⟨rfl, rfl⟩
    go_wp2
    go_ret
    exact ⟨Z, p + 1 + 1, rfl, HZ.out, by omega, hr2, hg2'⟩
  · have e0 : ((k : Int) == 0) = false := by simp; omega
    have e1 : ((k : Int) == 1) = false := by simp; omega
    go_wp2
    go_ret
    exact ⟨z, p + 1, rfl, by omega, by omega, hr1, hg1⟩
end Go.Proofs.YtdafepfjjmdkeaaDoor
