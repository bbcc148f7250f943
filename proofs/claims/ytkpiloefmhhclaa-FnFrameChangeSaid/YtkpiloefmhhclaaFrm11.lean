/- ParseFrame, of both sides. -/
import Derived.Test.YtkpiloefmhhclaaFrm10
import Derived.BigQuiet
namespace Go.Proofs.Ytkpiloefmhhclaa
open Go.RowKit
set_option linter.unusedVariables false
set_option maxRecDepth 100000
def noP : ByteArray × Int × Bool := (⟨#[]⟩, 0, false)
def parAns (z : ByteArray) (k : Int) : ByteArray × Int × Bool :=
  if bitsB z = true ∧ 0 ≤ k ∧ k ≤ z.size ∧ hitB z k.toNat = true then (parP z k.toNat, ((k.toNat + 23 + nAt z k.toNat : Nat) : Int), true) else noP
theorem par_no {z : ByteArray} {k : Int} (h : ¬ (bitsB z = true ∧ 0 ≤ k ∧ k ≤ z.size ∧ hitB z k.toNat = true)) : parAns z k = noP := by unfold parAns; rw [if_neg h]
theorem par_yes {z : ByteArray} {a : Nat} (hb : bitsB z = true) (h : hitB z a = true) : parAns z a = (parP z a, ((a + 23 + nAt z a : Nat) : Int), true) := by
  have := ((hitB_iff z a).1 h).1
  unfold parAns
  rw [Int.toNat_natCast, if_pos ⟨hb, by omega, by omega, h⟩]
theorem ret_P {A : ByteArray × Int × Bool} {x : ByteArray} {i : Int} {c : Bool} (h : A = (x, i, c)) : Ending.returned (.tuple #[.string x, .int .i64 i, .bool c]) = .returned (.tuple #[.string A.1, .int .i64 A.2.1, .bool A.2.2]) := by rw [h]
set_option maxHeartbeats 800000 in
theorem iParse_any (z : ByteArray) (k : Int) (w : World) (hs : z.size ≤ 1048576) :
    Calls Try.prog 28 #[.string z, .int .i64 k] w fun e w' => e = .returned (.tuple #[.string (parAns z k).1, .int .i64 (parAns z k).2.1, .bool (parAns z k).2.2]) ∧ Below w.heap.size w w' := by
  have HV := Lib.hid (fun w => bitsValid_any z w (by omega))
  cases hb : bitsB z with
  | false =>
    have HX := Lib.hid (par_no (z := z) (k := k) (by rw [hb]; simp))
    rw [hb] at HV
    clear hb
    go_enter Try.func28, Try.ntmps28
    go_wp2_with fail
    refine (HV.out _).mono ?_
    rintro e w1 ⟨rfl, rfl⟩
    go_wp2
    refine bodyPost_ret (v := .tuple #[.string ⟨#[]⟩, .int .i64 0, .bool false]) (by simp [results, Try.results28, go_sem]) rfl ?_
    exact ⟨ret_P HX.out, Below.refl _ _⟩
  | true =>
    rw [hb] at HV
    by_cases h0 : k < 0
    · have HX := Lib.hid (par_no (z := z) (k := k) (fun h => by omega))
      clear hb
      go_enter Try.func28, Try.ntmps28
      go_wp2_with fail
      refine (HV.out _).mono ?_
      rintro e w1 ⟨rfl, rfl⟩
      go_wp2
      refine bodyPost_ret (v := .tuple #[.string ⟨#[]⟩, .int .i64 0, .bool false]) (by simp [results, Try.results28, go_sem]) rfl ?_
      exact ⟨ret_P HX.out, Below.refl _ _⟩
    · obtain ⟨a, rfl⟩ : ∃ a : Nat, k = a := ⟨k.toNat, by omega⟩
      by_cases h1 : a ≤ z.size
      · have i1 : ¬ (z.size : Int) < (a : Int) := by omega
        have HR := Lib.hid (fun w => read_any z a w hb h1)
        cases hh : hitB z a with
        | false =>
          have HX := Lib.hid (par_no (z := z) (k := a) (fun h => by rw [Int.toNat_natCast, hh] at h; exact absurd h.2.2.2 (by simp)))
          have HH := Lib.hid hh
          clear hb hh
          go_enter Try.func28, Try.ntmps28
          go_wp2_with fail
          refine (HV.out _).mono ?_
          rintro e w1 ⟨rfl, rfl⟩
          go_wp2_with fail
          refine (HR.out _).mono ?_
          rintro e w1 ⟨b, _, hE, b1⟩
          obtain ⟨rfl, _, _⟩ := hE HH.out
          clear hE
          have b2 := b1.alloc b1.size (.cells #[.string ⟨#[]⟩, .int .i64 0, .int .i64 0] 64)
          obtain ⟨⟨d0, d1, d2⟩, dl, g0, g1, g2⟩ := FrmAt.new w1 64 ⟨#[]⟩ 0 0
          go_wp2_with fail
          obtain ⟨W, hW⟩ : ∃ W, w1.alloc (.cells #[.string ⟨#[]⟩, .int .i64 0, .int .i64 0] 64) = W := ⟨_, rfl⟩
          rw [hW] at b2 d0 d1 d2 ⊢
          clear hW
          go_quiet (fail)
          have b3 := below_drewN b2 nq
          go_wp2
          refine bodyPost_ret (v := .tuple #[.string ⟨#[]⟩, .int .i64 0, .bool false]) (by simp [results, Try.results28, go_sem]) rfl ?_
          exact ⟨ret_P HX.out, b3⟩
        | true =>
          have HX := Lib.hid (par_yes hb hh)
          have HH := Lib.hid hh
          obtain ⟨P, hP⟩ : ∃ P, parP z a = P := ⟨_, rfl⟩
          obtain ⟨E, hE2⟩ : ∃ P, a + 23 + nAt z a = P := ⟨_, rfl⟩
          rw [hP, hE2] at HX
          have HP := Lib.hid hP
          have HE := Lib.hid hE2
          clear hb hh hP hE2
          go_enter Try.func28, Try.ntmps28
          go_wp2_with fail
          refine (HV.out _).mono ?_
          rintro e w1 ⟨rfl, rfl⟩
          go_wp2_with fail
          refine (HR.out _).mono ?_
          rintro e w1 ⟨b, hE, _, b1⟩
          have hE' := hE HH.out
          rw [HP.out, HE.out] at hE'
          subst hE'
          clear hE
          have b2 := b1.alloc b1.size (.cells #[.string P, .int .i64 a, .int .i64 E] 64)
          obtain ⟨⟨d0, d1, d2⟩, dl, g0, g1, g2⟩ := FrmAt.new w1 64 P a E
          go_wp2_with fail
          obtain ⟨W, hW⟩ : ∃ W, w1.alloc (.cells #[.string P, .int .i64 a, .int .i64 E] 64) = W := ⟨_, rfl⟩
          rw [hW] at b2 d0 d1 d2 ⊢
          clear hW
          go_quiet (fail)
          have b3 := below_drewN b2 nq
          go_wp2
          refine bodyPost_ret (v := .tuple #[.string P, .int .i64 E, .bool true]) (by simp [results, Try.results28, go_sem]) rfl ?_
          exact ⟨ret_P HX.out, b3⟩
      · have HX := Lib.hid (par_no (z := z) (k := a) (fun h => by omega))
        have i1 : (z.size : Int) < (a : Int) := by omega
        clear hb
        go_enter Try.func28, Try.ntmps28
        go_wp2_with fail
        refine (HV.out _).mono ?_
        rintro e w1 ⟨rfl, rfl⟩
        go_wp2
        refine bodyPost_ret (v := .tuple #[.string ⟨#[]⟩, .int .i64 0, .bool false]) (by simp [results, Try.results28, go_sem]) rfl ?_
        exact ⟨ret_P HX.out, Below.refl _ _⟩
end Go.Proofs.Ytkpiloefmhhclaa
