/- FindFrame of the program. -/
import Derived.Test.YtdafepfjjmdkeaaDoorScan
import Derived.Test.YtdafepfjjmdkeaaDoorFndS
import Derived.BigQuiet
namespace Go.Proofs.YtdafepfjjmdkeaaDoor
open Go.RowKit
set_option linter.unusedVariables false
set_option maxRecDepth 100000
set_option maxHeartbeats 800000 in
theorem iFind_any (z : ByteArray) (k : Int) (w : World) (hs : z.size ≤ 1048576) (hd : DoorAt w) :
    Calls Tryd.prog 11 #[.string z, .int .i64 k] w fun e w' => e = .returned (.int .i64 (fndV z k)) ∧ Below w.heap.size w w' := by
  have HV := Lib.hid (fun w => bitsValid_any z w (by omega))
  cases hb : bitsB z with
  | false =>
    have HX := Lib.hid (fndV_no (z := z) (k := k) (by rw [hb]; simp))
    rw [hb] at HV
    clear hb
    go_enter Tryd.func11, Tryd.ntmps11
    go_wp2_with fail
    refine (HV.out _).mono ?_
    rintro e w1 ⟨rfl, rfl⟩
    go_wp2
    go_ret
    exact ⟨ret_int HX.out.symm, Below.refl _ _⟩
  | true =>
    rw [hb] at HV
    by_cases h0 : k < 0
    · have HX := Lib.hid (fndV_no (z := z) (k := k) (fun h => by omega))
      clear hb
      go_enter Tryd.func11, Tryd.ntmps11
      go_wp2_with fail
      refine (HV.out _).mono ?_
      rintro e w1 ⟨rfl, rfl⟩
      go_wp2
      go_ret
      exact ⟨ret_int HX.out.symm, Below.refl _ _⟩
    · obtain ⟨a, rfl⟩ : ∃ a : Nat, k = a := ⟨k.toNat, by omega⟩
      by_cases h1 : a ≤ z.size
      · have i1 : ¬ (z.size : Int) < (a : Int) := by omega
        have HR := Lib.hid (fun w hd => scan_any z a w hb h1 hd)
        by_cases h2 : nx z a < z.size
        · have HX := Lib.hid (fndV_yes hb h2)
          have HH := Lib.hid h2
          obtain ⟨P, hP⟩ : ∃ P, parP z (nx z a) = P := ⟨_, rfl⟩
          obtain ⟨E, hE⟩ : ∃ E, endF z (nx z a) = E := ⟨_, rfl⟩
          obtain ⟨n, hn⟩ : ∃ n, nx z a = n := ⟨_, rfl⟩
          rw [hn] at HX hP hE
          have HP := Lib.hid hP
          have HE := Lib.hid hE
          have HN := Lib.hid hn
          clear hb h2 hP hE hn
          go_enter Tryd.func11, Tryd.ntmps11
          go_wp2_with fail
          refine (HV.out _).mono ?_
          rintro e w1 ⟨rfl, rfl⟩
          go_wp2_with fail
          refine (HR.out _ hd).mono ?_
          rintro e w1 ⟨hE, _, b1⟩
          have hE' := hE HH.out
          rw [HN.out, HP.out, HE.out] at hE'
          subst hE'
          have b2 := b1.alloc b1.size (.cells #[.string P, .int .i64 n, .int .i64 E] 41)
          obtain ⟨⟨d0, d1, d2⟩, dl, g0, g1, g2⟩ := FrmAt.new w1 41 P n E
          clear hE HR
          go_wp2
          go_ret
          exact ⟨ret_int HX.out.symm, b2⟩
        · have HX := Lib.hid (fndV_off (z := z) (a := a) (by omega))
          have HH : Hid (z.size ≤ nx z a) := Lib.hid (by omega)
          clear hb h2
          go_enter Tryd.func11, Tryd.ntmps11
          go_wp2_with fail
          refine (HV.out _).mono ?_
          rintro e w1 ⟨rfl, rfl⟩
          go_wp2_with fail
          refine (HR.out _ hd).mono ?_
          rintro e w1 ⟨_, hE, b1⟩
          obtain rfl := hE HH.out
          have b2 := b1.alloc b1.size (.cells #[.string ⟨#[]⟩, .int .i64 0, .int .i64 0] 41)
          clear hE HR
          go_wp2
          go_ret
          exact ⟨ret_int HX.out.symm, b2⟩
      · have HX := Lib.hid (fndV_no (z := z) (k := a) (fun h => by
          have h3 := nx_le z a
          rw [Int.toNat_natCast] at h
          omega))
        have i1 : (z.size : Int) < (a : Int) := by omega
        clear hb
        go_enter Tryd.func11, Tryd.ntmps11
        go_wp2_with fail
        refine (HV.out _).mono ?_
        rintro e w1 ⟨rfl, rfl⟩
        go_wp2
        go_ret
        exact ⟨ret_int HX.out.symm, Below.refl _ _⟩
end Go.Proofs.YtdafepfjjmdkeaaDoor
