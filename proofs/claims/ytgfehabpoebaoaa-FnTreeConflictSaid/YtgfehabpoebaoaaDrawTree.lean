/- The draws of used paths: l3Bent, DrawAllocateTree, DrawFreePaths. -/
import Derived.Test.YtgfehabpoebaoaaDraw5
import Derived.Test.YtgfehabpoebaoaaFamFree2
namespace Go.Proofs.Ytgfehabpoebaoaa
open Go.RowKit
set_option linter.unusedVariables false
set_option maxRecDepth 100000
theorem alloc_sz6 (n : Nat) (f : Nat → ByteArray) (D : Int) : (allocAns n f D).1.size ≤ 6 := by
  unfold allocAns
  split
  · rename_i hu
    have hD := ((usedB_iff _ _ _).1 hu).2.1
    split
    · decide
    · rename_i hl
      show (LS (frL n f D.toNat (tw D.toNat)) 0).size ≤ 6
      have hm : LS (frL n f D.toNat (tw D.toNat)) 0 ∈ frL n f D.toNat (tw D.toNat) := by
        unfold LS
        rw [List.getD_eq_getElem?_getD, List.getElem?_eq_getElem (by omega)]
        exact List.getElem_mem _
      obtain ⟨y, hy⟩ : ∃ y, LS (frL n f D.toNat (tw D.toNat)) 0 = y := ⟨_, rfl⟩
      rw [hy] at hm ⊢
      unfold frL at hm
      simp at hm
      obtain ⟨i, _, rfl⟩ := hm
      exact ((pathB_iff _).1 (digS_path i D.toNat (by omega))).2
  · decide
theorem own_neS {w : World} {B b : Nat} {v : Value} {n : Nat} {f : Nat → ByteArray} (h : SF w B v n f) (hb : b < B) : v.ownBlock = none ∨ v.ownBlock ≠ some b := by
  cases hv : v.ownBlock with
  | none => exact .inl rfl
  | some q => exact .inr (fun e => by have := (h.lt q hv).1; injection e with e; omega)
/-- A list with one string more. -/
def snocF (f : Nat → ByteArray) (n : Nat) (y : ByteArray) (j : Nat) : ByteArray := if j < n then f j else y
theorem snocF_sz {f : Nat → ByteArray} {n M : Nat} {y : ByteArray} (hf : ∀ i, i < n → (f i).size ≤ M) (hy : y.size ≤ M) : ∀ i, i < n + 1 → (snocF f n y i).size ≤ M := fun i _ => by
  unfold snocF; split
  · exact hf i (by assumption)
  · exact hy
theorem l3Bent_any (b p : Nat) (zs : List Int) (z : ByteArray) (w : World) (hr : RdAt w b p zs) (hp : p ≤ 800000) (hz : z.size ≤ 50) :
    Calls Try.prog 47 #[.pointer (some ⟨b, 0, none⟩), .string z] w fun e w' => ∃ y : ByteArray, e = .returned (.string y) ∧ y.size ≤ 60 ∧ RdAt w' b (p + 1) zs ∧ w.grownBy w' (some b) := by
  go_enter Try.func47, Try.ntmps47
  go_wp2_with fail
  refine (pick_any b p 20 zs _ hr (by omega) (by omega) (by omega)).mono ?_
  rintro e w1 ⟨k, hk, rfl, hr1, hg1⟩
  clear hr
  by_cases k0 : k = 0
  · subst k0
    clear hk
    have hzs : z.size + ByteArray.size ⟨#[50]⟩ ≤ 9223372036854775807 := by show z.size + 1 ≤ _; omega
    have HZ : Hid ((z ++ ⟨#[50]⟩ : ByteArray).size ≤ 60) := Lib.hid (by rw [ByteArray.size_append]; show z.size + 1 ≤ _; omega)
    go_wp2
    go_ret
    exact ⟨_, rfl, HZ.out, hr1, hg1⟩
  by_cases k1 : k = 1
  · subst k1
    clear hk k0
    go_wp2
    go_ret
    exact ⟨_, rfl, by decide, hr1, hg1⟩
  · have e0 : ((k : Int) == 0) = false := by simp; omega
    have e1 : ((k : Int) == 1) = false := by simp; omega
    go_wp2
    go_ret
    exact ⟨z, rfl, by omega, hr1, hg1⟩
/-- Used paths and a length were drawn. -/
def TreeUsed (w : World) (e : Ending) (w' : World) : Prop := ∃ (v : Value) (n : Nat) (f : Nat → ByteArray) (D : Int) (B : Nat), e = .returned (.tuple #[v, .int .i64 D]) ∧ SF w' B v n f ∧ w.heap.size ≤ B ∧ n ≤ 6 ∧ (∀ i, i < n → (f i).size ≤ 60) ∧ -1 ≤ D ∧ D ≤ 7 ∧ Below w.heap.size w w'
end Go.Proofs.Ytgfehabpoebaoaa
