/- The walk of the law FnParseFrame. -/
import Derived.Test.YtdafepfjjmdkeaaDoorFndI
import Derived.Test.YtdafepfjjmdkeaaDoorDrawFnd
namespace Go.Proofs.YtdafepfjjmdkeaaDoor
open Go.RowKit
set_option linter.unusedVariables false
set_option maxRecDepth 100000
/-- A payload that is read is one, and its frame stands there. -/
theorem hit_pay {z : ByteArray} {a : Nat} (hb : bitsB z = true) (h : hitB z a = true) : payB (parP z a) = true ∧ frmS (parP z a) = z.extract a (a + 23 + nAt z a) ∧ a + 23 + nAt z a ≤ z.size := by
  obtain ⟨h1, h2, h3, h4⟩ := (hitB_iff z a).1 h
  have ho := (bits_of2 hb).1
  have hs : (parP z a).size = nAt z a := by unfold parP; rw [size_extract _ _ _ (by omega)]; omega
  refine ⟨(payB_iff _).2 ⟨bits_mk (ok_part ho _ _ (by omega)) (by rw [hs]; omega), by rw [hs]; exact h2⟩, h4, h3⟩
set_option maxHeartbeats 1600000 in
theorem fnParseFrame_walk (a0 : Option Addr) (len0 cap0 : Nat) (z0 : List Int) (w : World) (w0 : IsBytes w a0 len0 cap0 z0) (hd : DoorAt w) :
    Calls Tryd.prog 6 #[.slice a0 len0 cap0] w fun e w' => e = .returned (.bool true) ∧ Below w.heap.size w w' := by
  by_cases hl : 1048576 < len0
  · go_enter Tryd.func6, Tryd.ntmps6
    go_wp2
    go_ret
    exact ⟨rfl, Below.refl _ _⟩
  go_enter Tryd.func6, Tryd.ntmps6
  go_wp2_with fail
  refine (drawParse_any a0 len0 cap0 z0 _ w0).mono ?_
  rintro e W1 ⟨z, n, rfl, hz, hn, b1⟩
  clear w0
  have hI := fun w => iParse_any z n w (by omega)
  have hS := fun w => sParse_any z n w (by omega)
  by_cases hy : bitsB z = true ∧ 0 ≤ n ∧ n ≤ z.size ∧ hitB z n.toNat = true
  · obtain ⟨hb, h0, h1, hh⟩ := hy
    obtain ⟨a, rfl⟩ : ∃ a : Nat, n = a := ⟨n.toNat, by omega⟩
    rw [Int.toNat_natCast] at hh
    rw [par_yes hb hh] at hI hS
    obtain ⟨hp, he, h3⟩ := hit_pay hb hh
    have hF := fun w => iFrame_any (parP z a) w (by have := ((payB_iff _).1 hp).2; omega)
    rw [show frmAns (parP z a) = (frmS (parP z a), true) by unfold frmAns; rw [hp]; rfl] at hF
    have hD := fun w1 (b1 : Below w.heap.size w w1) => iFind_any z a w1 (by omega) (hd.below b1 hd.lt)
    simp only [fndV_yes hb (show nx z a < z.size by rw [nx_hit hh]; have := hit_lt hh; omega), nx_hit hh] at hD
    obtain ⟨P, hP⟩ : ∃ P, parP z a = P := ⟨_, rfl⟩
    obtain ⟨E, hE⟩ : ∃ E, a + 23 + nAt z a = E := ⟨_, rfl⟩
    rw [hP] at hI hS hF he
    rw [hE] at hI hS he h3
    obtain ⟨F, hF2⟩ : ∃ F, frmS P = F := ⟨_, rfl⟩
    rw [hF2] at hF he
    have HI := Lib.hid hI
    have HS := Lib.hid hS
    have HF := Lib.hid hF
    have HD := Lib.hid hD
    have i0 : (0 : Int) ≤ (a : Int) := by omega
    have i1 : (a : Int) ≤ (E : Int) := by omega
    have i2 : (E : Int) ≤ (z.size : Int) := by omega
    have hx := he.symm
    clear hI hS hF hD hp hP hE hF2 hb hh hd he
    go_wp2_with fail
    refine (HI.out _).mono ?_
    rintro e w' ⟨rfl, hB⟩
    have c1 := below_then b1 (Nat.le_refl _) hB
    clear hB b1
    go_wp2_with fail
    refine (HS.out _).mono ?_
    rintro e w' ⟨rfl, hB⟩
    have c2 := below_then c1 (Nat.le_refl _) hB
    clear hB c1 HI HS
    go_wp2_with fail
    refine (HF.out _).mono ?_
    rintro e w' ⟨rfl, hB⟩
    have c3 := below_then c2 (Nat.le_refl _) hB
    clear hB c2 HF
    go_wp2_with fail
    refine (HD.out _ c3).mono ?_
    rintro e w' ⟨rfl, hB⟩
    have c4 := below_then c3 (Nat.le_refl _) hB
    clear hB c3 HD
    go_wp2
    go_ret
    exact ⟨rfl, c4⟩
  · rw [par_no hy] at hI hS
    have HI := Lib.hid hI
    have HS := Lib.hid hS
    clear hI hS hy
    go_wp2_with fail
    refine (HI.out _).mono ?_
    rintro e w' ⟨rfl, hB⟩
    have c1 := below_then b1 (Nat.le_refl _) hB
    clear hB b1
    go_wp2_with fail
    refine (HS.out _).mono ?_
    rintro e w' ⟨rfl, hB⟩
    have c2 := below_then c1 (Nat.le_refl _) hB
    clear hB c1
    go_wp2
    go_ret
    exact ⟨rfl, c2⟩
end Go.Proofs.YtdafepfjjmdkeaaDoor
