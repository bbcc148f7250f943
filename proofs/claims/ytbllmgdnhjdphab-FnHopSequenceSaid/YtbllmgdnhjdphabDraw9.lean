/- Contracts of the draws of sequences: what is sometimes none, shifts, two sequences, the draws of the laws. Contracts of the draws of two sequences. -/
import Derived.Test.YtbllmgdnhjdphabDraw5
import Derived.Test.YtbllmgdnhjdphabSeqFun3
namespace Go.Proofs.Ytbllmgdnhjdphab
open Go.RowKit
set_option linter.unusedVariables false
/-- A string that may be none: not longer than 300. -/
def AnyPost (b p : Nat) (zs : List Int) (w : World) (e : Ending) (w' : World) : Prop :=
  ∃ (z : ByteArray) (q : Nat), e = .returned (.string z) ∧ z.size ≤ 300 ∧ q ≤ p + 300 ∧ RdAt w' b q zs ∧ w.grownBy w' (some b)
set_option maxRecDepth 100000 in
theorem l2Number_any (b p : Nat) (zs : List Int) (w : World) (hr : RdAt w b p zs) (hp : p ≤ 900000) :
    Calls Try.prog 69 #[.pointer (some ⟨b, 0, none⟩)] w fun e w' => ∃ (k : Int) (q : Nat), e = .returned (.int .i64 k) ∧ FitsI k ∧ q ≤ p + 5 ∧ RdAt w' b q zs ∧ w.grownBy w' (some b) := by
  have hbl := hr.1
  go_enter Try.func69, Try.ntmps69
  go_wp2_with fail
  refine (pick_any b p 12 zs _ hr (by omega) (by omega) (by omega)).mono ?_
  rintro e w1 ⟨k, hk, rfl, hr1, hg1⟩
  clear hr
  by_cases k0 : k = 0
  · subst k0
    clear hk
    go_wp2_with fail
    refine (num_any b (p + 1) zs _ w1.heap.size 6 [-1, 255, 256, 1000, 9223372036854775807, -9223372036854775808] (hr1.alloc _) (IntsAt.new w1 _ [-1, 255, 256, 1000, 9223372036854775807, -9223372036854775808]) rfl hr1.1 (by omega) (by omega) (by omega)).mono ?_
    rintro e w2 ⟨v, hv, rfl, hr2, hg2⟩
    have hf : FitsI v := by
      simp only [List.mem_cons, List.not_mem_nil, or_false] at hv
      unfold FitsI; omega
    have hg2' := hg1.trans ((World.grownBy_alloc w1 _ (some b)).trans hg2)
    clear hr1 hg1 hg2 hv
    go_wp2
    go_ret
    exact ⟨v, p + 1 + 1, rfl, hf, by omega, hr2, hg2'⟩
  · have e0 : ((k : Int) == 0) = false := by simp; omega
    go_wp2_with fail
    clear e0
    refine (pick_any b (p + 1) 70 zs _ hr1 (by omega) (by omega) (by omega)).mono ?_
    rintro e w2 ⟨k2, hk2, rfl, hr2, hg2⟩
    have hg2' := hg1.trans hg2
    clear hr1 hg1 hg2
    go_wp2
    go_ret
    exact ⟨(k2 : Int) - 20, p + 1 + 1, rfl, by unfold FitsI; omega, by omega, hr2, hg2'⟩
/-- A sequence and a number were drawn. -/
def DrawStrInt (w : World) (e : Ending) (w' : World) : Prop := ∃ (z : ByteArray) (k : Int), e = .returned (.tuple #[.string z, .int .i64 k]) ∧ z.size ≤ 300 ∧ FitsI k ∧ Below w.heap.size w w'
def DrawStr (w : World) (e : Ending) (w' : World) : Prop := ∃ z : ByteArray, e = .returned (.string z) ∧ z.size ≤ 300 ∧ Below w.heap.size w w'
end Go.Proofs.Ytbllmgdnhjdphab
namespace Go.Proofs.Ytbllmgdnhjdphab
open Go.RowKit
set_option linter.unusedVariables false
def TwoPost (b p : Nat) (zs : List Int) (w : World) (e : Ending) (w' : World) : Prop :=
  ∃ (x y : ByteArray) (q : Nat), e = .returned (.tuple #[.string x, .string y]) ∧ x.size ≤ 300 ∧ y.size ≤ 300 ∧ q ≤ p + 2000 ∧ RdAt w' b q zs ∧ w.grownBy w' (some b)
def DrawTwo (w : World) (e : Ending) (w' : World) : Prop := ∃ x y : ByteArray, e = .returned (.tuple #[.string x, .string y]) ∧ x.size ≤ 300 ∧ y.size ≤ 300 ∧ Below w.heap.size w w'
def DrawTwoInt (w : World) (e : Ending) (w' : World) : Prop := ∃ (x y : ByteArray) (k : Int), e = .returned (.tuple #[.string x, .string y, .int .i64 k]) ∧ x.size ≤ 300 ∧ y.size ≤ 300 ∧ FitsI k ∧ Below w.heap.size w w'
end Go.Proofs.Ytbllmgdnhjdphab
