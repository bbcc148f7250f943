/- FindFrame of the model. -/
import Derived.Test.YtdafepfjjmdkeaaDoorFndMath
namespace Go.Proofs.YtdafepfjjmdkeaaDoor
open Go.RowKit
set_option linter.unusedVariables false
set_option maxRecDepth 100000
theorem sFind_any (z : ByteArray) (k : Int) (w : World) (hs : z.size ≤ 1048576) :
    Calls Tryd.prog 10 #[.string z, .int .i64 k] w fun e w' => e = .returned (.int .i64 (fndV z k)) ∧ Below w.heap.size w w' := by
  have HV := Lib.hid (fun w => l1Bits_any z w (by omega))
  cases hb : bitsB z with
  | false =>
    have HX := Lib.hid (fndV_no (z := z) (k := k) (by rw [hb]; simp))
    rw [hb] at HV
    clear hb
    go_enter Tryd.func10, Tryd.ntmps10
    go_wp2_with fail
    refine (HV.out _).mono ?_
    rintro e w1 ⟨rfl, rfl⟩
    go_wp2
    go_ret
    exact ⟨ret_int HX.out.symm, Below.refl _ _⟩
  | true =>
    rw [hb] at HV
    by_cases h0 : k < 0
    · have HX := Lib.hid (fndV_no (z := z) (k := k) (fun h => by omega))
      clear hb
      go_enter Tryd.func10, Tryd.ntmps10
      go_wp2_with fail
      refine (HV.out _).mono ?_
      rintro e w1 ⟨rfl, rfl⟩
      go_wp2
      go_ret
      exact ⟨ret_int HX.out.symm, Below.refl _ _⟩
    · obtain ⟨a, rfl⟩ : ∃ a : Nat, k = a := ⟨k.toNat, by omega⟩
      have HP := Lib.hid (fun (i : Nat) w => sParse_any z (i : Int) w hs)
      have HY := Lib.hid (fun (i : Nat) (h : hitB z i = true) => par_yes hb h)
      have HN := Lib.hid (fun (i : Nat) (h : hitB z i = false) => par_no (z := z) (k := (i : Int)) (fun hh => by rw [Int.toNat_natCast, h] at hh; exact absurd hh.2.2.2 (by simp)))
      have HB := Lib.hid hb
      obtain ⟨V, hV⟩ : ∃ V, fndV z (a : Int) = V := ⟨_, rfl⟩
      have HA := Lib.hid hV
      rw [hV]
      clear hb hV
      go_enter Tryd.func10, Tryd.ntmps10
      go_wp2_with fail
      refine (HV.out _).mono ?_
      rintro e w1 ⟨rfl, rfl⟩
      go_wp2_with fail
      go_loopw [1] (fun i wr => ∃ k : Nat, i = .int .i64 k ∧ Hid (nx z k = nx z a) ∧ Below w.heap.size w wr) (fun i _ => z.size - (intOf i).toNat)
      case atStart => exact ⟨a, rfl, Lib.hid rfl, Below.refl _ _⟩
      case round =>
        obtain ⟨i, rfl, HK, hb⟩ := hrel
        by_cases hi : i < z.size
        · have i1 : (i : Int) < (z.size : Int) := by omega
          cases hh : hitB z i with
          | true =>
            have HF : Hid (V = (i : Int)) := Lib.hid (by
              rw [← HA.out, fndV_yes HB.out (by rw [← HK.out, nx_hit hh]; exact hi), ← HK.out, nx_hit hh])
            have hy := HY.out i hh
            have HPi := Lib.hid (HP.out i)
            rw [hy] at HPi
            clear hh hy
            go_wp2_with fail
            refine (HPi.out _).mono ?_
            rintro e w1 ⟨rfl, hb1⟩
            have qb := below_then hb (Nat.le_refl _) hb1
            clear hb hb1
            go_wp2
            go_ret
            exact ⟨ret_int HF.out.symm, qb⟩
          | false =>
            have HK2 := Lib.hid ((nx_miss hh hi).symm.trans HK.out)
            have hn := HN.out i hh
            have HPi := Lib.hid (HP.out i)
            rw [hn] at HPi
            clear hh hn
            go_wp2_with fail
            refine (HPi.out _).mono ?_
            rintro e w1 ⟨rfl, hb1⟩
            have qb := below_then hb (Nat.le_refl _) hb1
            clear hb hb1
            go_wp2
            go_roundw
            case rel => exact ⟨i + 1, by go_num, HK2, qb⟩
            case measure => simp [intOf]; omega
        · have i1 : ¬ (i : Int) < (z.size : Int) := by omega
          have HF : Hid (V = -1) := Lib.hid (by rw [← HA.out]; exact fndV_off (by rw [← HK.out, nx_end (by omega)]; omega))
          go_wp2
          go_ret
          exact ⟨ret_int HF.out.symm, hb⟩
end Go.Proofs.YtdafepfjjmdkeaaDoor
