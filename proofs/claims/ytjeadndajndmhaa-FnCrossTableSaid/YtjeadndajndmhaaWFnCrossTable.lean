/- The walk of the law FnCrossTable. -/
import Derived.Test.YtjeadndajndmhaaDraw11
import Derived.Test.YtjeadndajndmhaaSeqYes
import Derived.Test.YtjeadndajndmhaaSeqAlg3
import Derived.Deep.RegionWith
namespace Go.Proofs.Ytjeadndajndmhaa
open Go.RowKit
set_option linter.unusedVariables false
set_option maxHeartbeats 1600000 in
set_option maxRecDepth 100000 in
theorem fnCrossTable_walk (a0 : Option Addr) (len0 cap0 : Nat) (z0 : List Int) (w : World) (w0 : IsBytes w a0 len0 cap0 z0) :
    Calls Try.prog 7 #[.slice a0 len0 cap0] w fun e w' => e = .returned (.bool true) ∧ Below w.heap.size w w' := by
  by_cases hl0 : 1048576 < len0
  · go_enter Try.func7, Try.ntmps7
    go_wp2
    go_ret
    exact ⟨rfl, Below.refl _ _⟩
  go_enter Try.func7, Try.ntmps7
  go_wp2_with fail
  refine (drawTable_any a0 len0 cap0 z0 _ w0).mono ?_
  rintro e W1 ⟨a, b, rfl, ha, hb, b1⟩
  clear w0
  have hI := fun w => iTab_any a b w (by omega) (by omega)
  have hS := fun w => sTab_any a b w (by omega) (by omega)
  cases hv : pairB a b with
  | false =>
    rw [show tabN a b = 0 by unfold tabN; rw [hv]; rfl] at hI hS
    have HI := Lib.hid hI
    have HS := Lib.hid hS
    clear hI hS hv
    go_wp2_with fail
    refine (HI.out _).mono ?_
    rintro e w1 ⟨v, rfl, O1, hB⟩
    have c1 := below_then b1 (Nat.le_refl _) hB
    clear hB b1
    obtain ⟨sl, cap, rfl, _⟩ := O1.form
    have Q1 := Lib.hid O1
    clear O1
    go_wp2_with fail
    refine (HS.out _).mono ?_
    rintro e w2 ⟨u, rfl, O2, hB⟩
    have c2 := below_then c1 (Nat.le_refl _) hB
    have Q2 := Lib.hid (Q1.out.below hB)
    have Q3 := Lib.hid O2
    clear hB c1 Q1 O2
    go_wp2_with fail
    refine (ssInts_same _ _ _ _ _ _ _ Q2.out Q3.out (by omega)).mono ?_
    rintro e w3 ⟨rfl, m, rfl⟩
    have c3 := below_drewN c2 m
    have Q4 := Lib.hid (Q2.out.drewN m)
    clear Q2 Q3
    go_wp2_with fail
    refine (HS.out _).mono ?_
    rintro e w4 ⟨u', rfl, O3, hB⟩
    have c4 := below_then c3 (Nat.le_refl _) hB
    have Q5 := Lib.hid (Q4.out.below hB)
    have Q6 := Lib.hid O3
    clear hB c3 Q4 O3
    go_wp2_with fail
    refine (ssInts_same _ _ _ _ _ _ _ Q5.out Q6.out (by omega)).mono ?_
    rintro e w5 ⟨rfl, m', rfl⟩
    have c5 := below_drewN c4 m'
    clear Q5 Q6
    go_wp2
    go_ret
    exact ⟨rfl, c5⟩
  | true =>
    obtain ⟨ha1, hb1, hab⟩ := (pairB_iff a b).1 hv
    have h12 := size_le ha1
    rw [show tabN a b = a.size by unfold tabN; rw [hv]; rfl] at hI hS
    have hsum : sumI (tabF a b) a.size = balN a * balN b := cross_sum a b ((seqB_iff a).1 ha1).1 ((seqB_iff b).1 hb1).1 hab (by omega)
    have hC : ∀ k : Nat, k < a.size → ∀ w, Calls Try.prog 28 #[.string a, .string b, .int .i64 (k : Nat)] w fun e w' => e = .returned (.int .i64 (tabF a b k)) ∧ Below w.heap.size w w' := fun k hk w => by
      have := ssCross_yes a b (k : Int) w hv
      rw [modN_of_nat, Nat.mod_eq_of_lt (by omega)] at this
      exact this
    have hbd : ∀ i, -255 ≤ tabF a b i ∧ tabF a b i ≤ 255 := fun i => by have := crossN_bd a b i; unfold tabF; omega
    have H1 := Lib.hid (fun w => iBal_yes' a w ha1)
    have H2 := Lib.hid (fun w => iBal_yes' b w hb1)
    obtain ⟨f, hF⟩ : ∃ f, tabF a b = f := ⟨_, rfl⟩
    rw [hF] at hI hS hsum hC hbd
    obtain ⟨X, hX⟩ : ∃ X, balN a = X := ⟨_, rfl⟩
    obtain ⟨Y, hY⟩ : ∃ Y, balN b = Y := ⟨_, rfl⟩
    rw [hX] at hsum H1
    rw [hY] at hsum H2
    have hsb := fun n => sumI_bd2 (f := f) (M := 255) (by omega) hbd n
    have HI := Lib.hid hI
    have HS := Lib.hid hS
    have HC := Lib.hid hC
    have HBD := Lib.hid hbd
    have HSB := Lib.hid hsb
    have HSUM := Lib.hid hsum
    have hz0 : ((a.size : Int) == 0) = false := beq_eq_false_iff_ne.2 (by omega)
    clear hI hS hC hbd hsb hsum hF hX hY hv ha1 hb1 hab
    go_wp2_with fail
    refine (HI.out _).mono ?_
    rintro e w1 ⟨v, rfl, O1, hB⟩
    have c1 := below_then b1 (Nat.le_refl _) hB
    clear hB b1
    obtain ⟨sl, cap, rfl, hsl⟩ := O1.form
    obtain ⟨g, rfl, _, _, _⟩ := hsl (by omega)
    have Q1 := Lib.hid O1
    clear O1 hsl
    go_wp2_with fail
    refine (HS.out _).mono ?_
    rintro e w2 ⟨u, rfl, O2, hB⟩
    have c2 := below_then c1 (Nat.le_refl _) hB
    have Q2 := Lib.hid (Q1.out.below hB)
    have Q3 := Lib.hid O2
    clear hB c1 Q1 O2
    go_wp2_with fail
    refine (ssInts_same _ _ _ _ _ _ _ Q2.out Q3.out (by omega)).mono ?_
    rintro e w3 ⟨rfl, m, rfl⟩
    have c3 := below_drewN c2 m
    have Q4 := Lib.hid (Q2.out.drewN m)
    clear Q2 Q3 c2
    obtain ⟨w3, h3⟩ : ∃ w3, w2.drewN m = w3 := ⟨_, rfl⟩
    rw [h3] at c3 Q4 ⊢
    clear h3
    go_wp2_with fail
    go_loopw [6, 7] (fun s i wr => ∃ k : Nat, k ≤ a.size ∧ s = .int .i64 (sumI f k) ∧ i = .int .i64 k ∧ Below w.heap.size w wr ∧ Hid (OF wr W1.heap.size (.slice (some ⟨g, 0, none⟩) a.size cap) a.size f)) (fun _ i _ => a.size - (intOf i).toNat)
    case atStart => exact ⟨0, by omega, rfl, rfl, c3, Q4⟩
    case round =>
      obtain ⟨k, hk, rfl, rfl, rb, rO⟩ := hrel
      have hsk := HSB.out k
      by_cases hlt : k < a.size
      · have hcell := (rO.out.at k hlt).1
        have hC := HC.out k hlt
        have hxb := HBD.out k
        have hnext : sumI f (k + 1) = sumI f k + f k := rfl
        have hsk' : -65025 ≤ sumI f k ∧ sumI f k ≤ 65025 := by
          have : (k : Int) ≤ 255 := by omega
          omega
        obtain ⟨S, hS⟩ : ∃ S, sumI f k = S := ⟨_, rfl⟩
        obtain ⟨x, hx⟩ : ∃ x, f k = x := ⟨_, rfl⟩
        rw [hS] at hnext hsk' ⊢
        rw [hx] at hcell hC hxb hnext
        obtain ⟨s1, s2⟩ := hsk'
        obtain ⟨x1, x2⟩ := hxb
        have HCk := Lib.hid hC
        have HN := Lib.hid hnext
        have HX := Lib.hid hx
        have i0 : (0 : Int) ≤ (k : Int) := by omega
        have i1 : (k : Int) < (a.size : Int) := by omega
        clear hC hnext hS hx hsk
        go_wp2_with fail
        go_region_with ((go_at_call 28; refine (HCk.out _).mono ?_; rintro e w5 ⟨rfl, hb5⟩; have b5 := below_then rb.drew (Nat.le_refl _) hb5; have O5 := Lib.hid (OF.below (OF.below rO.out (Below.refl _ _).drew) hb5); have cell5 := (O5.out.at k hlt).1; rw [HX.out] at cell5))
        all_goals
          clear hcell
          go_wp2
          go_roundw
          case rel => exact ⟨k + 1, by omega, by rw [HN.out], by go_num, b5, O5⟩
          case measure => simp [intOf]; omega
      · obtain rfl : k = a.size := by omega
        have hsum := HSUM.out
        have hsk' : -65025 ≤ sumI f a.size ∧ sumI f a.size ≤ 65025 := by
          have : (a.size : Int) ≤ 255 := by omega
          omega
        obtain ⟨S, hS⟩ : ∃ S, sumI f a.size = S := ⟨_, rfl⟩
        rw [hS] at hsum hsk' ⊢
        have hXY : X * Y = S := hsum.symm
        obtain ⟨s1, s2⟩ := hsk'
        clear hS hsum hsk
        go_wp2_with fail
        refine (H1.out _).mono ?_
        rintro e w' ⟨rfl, hB⟩
        have c7 := below_then rb (Nat.le_refl _) hB
        clear hB rb
        go_wp2_with fail
        refine (H2.out _).mono ?_
        rintro e w' ⟨rfl, hB⟩
        have c8 := below_then c7 (Nat.le_refl _) hB
        clear hB c7
        go_wp2
        go_ret
        exact ⟨rfl, c8⟩
end Go.Proofs.Ytjeadndajndmhaa
