/- Contracts of the draws of two sequences. -/
import Derived.Test.YtjeadndajndmhaaDraw9
namespace Go.Proofs.Ytjeadndajndmhaa
open Go.RowKit
set_option linter.unusedVariables false
def TwoPost (b p : Nat) (zs : List Int) (w : World) (e : Ending) (w' : World) : Prop :=
  ∃ (x y : ByteArray) (q : Nat), e = .returned (.tuple #[.string x, .string y]) ∧ x.size ≤ 300 ∧ y.size ≤ 300 ∧ q ≤ p + 2000 ∧ RdAt w' b q zs ∧ w.grownBy w' (some b)
def strLen : Value → Nat
  | .string s => s.size
  | _ => 0
set_option maxHeartbeats 6400000 in
set_option maxRecDepth 100000 in
theorem l2Two_any (b p : Nat) (zs : List Int) (w : World) (hr : RdAt w b p zs) (hp : p ≤ 500000) :
    Calls Try.prog 43 #[.pointer (some ⟨b, 0, none⟩)] w (TwoPost b p zs w) := by
  go_enter Try.func43, Try.ntmps43
  go_wp2_with fail
  refine (l2Some_any b p zs _ hr (by omega)).mono ?_
  rintro e w1 ⟨a, q, rfl, ha1, ha2, hq, hr1, hg1⟩
  clear hr
  go_wp2_with fail
  refine (pick_any b q 20 zs _ hr1 (by omega) (by omega) (by omega)).mono ?_
  rintro e w2 ⟨k1, hk1, rfl, hr2, hg2⟩
  have hG2 := hg1.trans hg2
  clear hr1 hg1 hg2
  have hbs := shift_size a (k1 : Int)
  have hL := fun w => l2Shift_any a (k1 : Int) w ha1 (by omega)
  obtain ⟨B, hB⟩ : ∃ B, shift a (k1 : Int) = B := ⟨_, rfl⟩
  rw [hB] at hbs hL
  have hb1 : 1 ≤ B.size := by omega
  have hb2 : B.size ≤ 40 := by omega
  have HL := Lib.hid hL
  clear hB hL hbs
  go_wp2_with fail
  refine (HL.out _).mono ?_
  rintro e w3 ⟨rfl, nd, rfl⟩
  have hr3 : RdAt (w2.drewN nd) b (q + 1) zs := hr2.below (below_drewN (Below.refl _ _) nd)
  have hG3 : w.grownBy (w2.drewN nd) (some b) := hG2.trans (grownBy_drewN' w2 nd _)
  obtain ⟨W3, hW3⟩ : ∃ W3, w2.drewN nd = W3 := ⟨_, rfl⟩
  rw [hW3] at hr3 hG3 ⊢
  clear hW3 hr2 hG2 HL
  go_wp2_with fail
  refine (pick_any b (q + 1) 4 zs _ hr3 (by omega) (by omega) (by omega)).mono ?_
  rintro e w4 ⟨k2, hk2, rfl, hr4, hg4⟩
  have hG4 := hG3.trans hg4
  clear hr3 hG3 hg4
  by_cases c0 : k2 = 0
  · subst c0
    clear hk2
    go_wp2_with fail
    refine (pick_any b (q + 1 + 1) B.size zs _ hr4 (by omega) hb1 (by omega)).mono ?_
    rintro e w5 ⟨k3, hk3, rfl, hr5, hg5⟩
    have hG5 := hG4.trans hg5
    clear hr4 hG4 hg5
    have s1 := size_extract B 0 k3 (by omega)
    have s2 := size_extract B (k3 + 1) B.size (by omega)
    have s3 : (B.extract 0 k3).size + ByteArray.size ⟨#[49]⟩ ≤ 9223372036854775807 := by rw [s1]; show k3 - 0 + 1 ≤ _; omega
    have s4 : (B.extract 0 k3 ++ ⟨#[49]⟩).size = k3 + 1 := by rw [ByteArray.size_append, s1]; show k3 - 0 + 1 = _; omega
    have s5 : (B.extract 0 k3 ++ ⟨#[49]⟩).size + (B.extract (k3 + 1) B.size).size ≤ 9223372036854775807 := by rw [s4, s2]; omega
    have s6 : (B.extract 0 k3 ++ ⟨#[49]⟩ ++ B.extract (k3 + 1) B.size).size = B.size := by rw [ByteArray.size_append, s4, s2]; omega
    obtain ⟨Y, hY⟩ : ∃ Y, B.extract 0 k3 ++ ⟨#[49]⟩ ++ B.extract (k3 + 1) B.size = Y := ⟨_, rfl⟩
    have HY : Hid (Y.size = B.size) := Lib.hid (by rw [← hY]; exact s6)
    have j0 : IntKind.i64.wrap ((k3 : Int) + 1) = (k3 : Int) + 1 := IntWalk.i64_in _ (by omega)
    have j1 : ((k3 : Int) + 1).toNat = k3 + 1 := by omega
    have i0 : (0 : Int) ≤ (k3 : Int) := by omega
    have i1 : (k3 : Int) ≤ (B.size : Int) := by omega
    have i2 : (k3 : Int) + 1 ≤ (B.size : Int) := by omega
    have i3 : (0 : Int) ≤ (k3 : Int) + 1 := by omega
    have hY2 : Y.size ≤ 40 := by rw [HY.out]; exact hb2
    clear s1 s2 s4 s6
    go_wp2_with fail
    go_quiet (fail)
    have hr6 : RdAt (w5.drewN nq) b (q + 1 + 1 + 1) zs := hr5.below (below_drewN (Below.refl _ _) nq)
    have hG6 : w.grownBy (w5.drewN nq) (some b) := hG5.trans (grownBy_drewN' w5 nq _)
    obtain ⟨W6, hW6⟩ : ∃ W6, w5.drewN nq = W6 := ⟨_, rfl⟩
    rw [hW6] at hr6 hG6 ⊢
    clear hW6 hr5 hG5 s3 s5 j0 hY i0 i1 i2 i3
    go_wp2_with fail
    refine (pick_any b (q + 1 + 1 + 1) 16 zs _ hr6 (by omega) (by omega) (by omega)).mono ?_
    rintro e wA ⟨kA, hkA, rfl, hrA, hgA⟩
    have hGA := hG6.trans hgA
    clear hr6 hG6 hgA
    by_cases kz : kA = 0
    · subst kz
      go_wp2_with fail
      refine (l2Some_any b ((q + 1 + 1 + 1) + 1) zs _ hrA (by omega)).mono ?_
      rintro e wB ⟨yB, qB, rfl, hyB1, hyB2, hqB, hrB, hgB⟩
      have hGB := hGA.trans hgB
      clear hrA hGA hgB
      go_wp2_with fail
      refine (l2Bad_any b qB zs a _ hrB (by omega) (by omega)).mono ?_
      rintro e wC ⟨xC, qC, rfl, hxC, hqC, hrC, hgC⟩
      have hGC := hGB.trans hgC
      clear hrB hGB hgC
      go_wp2_with fail
      refine (l2Bad_any b qC zs yB _ hrC (by omega) (by omega)).mono ?_
      rintro e wD ⟨xD, qD, rfl, hxD, hqD, hrD, hgD⟩
      have hGD := hGC.trans hgD
      clear hrC hGC hgD
      go_wp2
      go_ret2
      exact ⟨xC, xD, qD, rfl, hxC, hxD, by omega, hrD, hGD⟩
    · have ez : ((kA : Int) == 0) = false := by simp; omega
      go_wp2_with fail
      clear ez
      refine (l2Bad_any b ((q + 1 + 1 + 1) + 1) zs a _ hrA (by omega) (by omega)).mono ?_
      rintro e wC ⟨xC, qC, rfl, hxC, hqC, hrC, hgC⟩
      have hGC := hGA.trans hgC
      clear hrA hGA hgC
      go_wp2_with fail
      refine (l2Bad_any b qC zs Y _ hrC (by omega) (by omega)).mono ?_
      rintro e wD ⟨xD, qD, rfl, hxD, hqD, hrD, hgD⟩
      have hGD := hGC.trans hgD
      clear hrC hGC hgD
      go_wp2
      go_ret2
      exact ⟨xC, xD, qD, rfl, hxC, hxD, by omega, hrD, hGD⟩
  by_cases c1 : k2 = 1
  · subst c1
    clear hk2 c0
    go_wp2_with fail
    go_loopw [5] (fun v wr => ∃ Y : ByteArray, v = .string Y ∧ Y.size ≤ a.size ∧ RdAt wr b (q + 1 + 1 + Y.size) zs ∧ w.grownBy wr (some b)) (fun v _ => a.size - strLen v)
    case atStart => exact ⟨⟨#[]⟩, rfl, Nat.zero_le _, hr4, hG4⟩
    case round =>
      obtain ⟨Y, rfl, hYa, rR, rg⟩ := hrel
      clear hr4 hG4
      by_cases hlt : Y.size < a.size
      · go_wp2_with fail
        refine (pick_any b (q + 1 + 1 + Y.size) 2 zs _ rR (by omega) (by omega) (by omega)).mono ?_
        rintro e w5 ⟨k3, hk3, rfl, hr5, hg5⟩
        have hG5 := rg.trans hg5
        clear rR rg hg5
        go_wp2_with fail
        refine (l9Dec_digit k3 _ (by omega)).mono ?_
        rintro e w6 ⟨⟨D, rfl, hD⟩, hb6⟩
        have hr6 := hr5.below hb6
        have hG6 := hG5.trans (grow hb6 (some b))
        have hs1 : Y.size + D.size ≤ 9223372036854775807 := by omega
        have HS : Hid ((Y ++ D).size = Y.size + 1) := Lib.hid (by rw [ByteArray.size_append, hD])
        clear hr5 hG5 hb6 hD
        go_wp2
        go_roundw
        case rel => exact ⟨Y ++ D, rfl, by rw [HS.out]; omega, by rw [HS.out]; exact hr6, hG6⟩
        case measure => have := HS.out; simp only [strLen]; simp [this]; omega
      · have hY2 : Y.size ≤ 40 := by omega
        go_wp2_with fail
        refine (pick_any b (q + 1 + 1 + Y.size) 16 zs _ rR (by omega) (by omega) (by omega)).mono ?_
        rintro e wA ⟨kA, hkA, rfl, hrA, hgA⟩
        have hGA := rg.trans hgA
        clear rR rg hgA
        by_cases kz : kA = 0
        · subst kz
          go_wp2_with fail
          refine (l2Some_any b ((q + 1 + 1 + Y.size) + 1) zs _ hrA (by omega)).mono ?_
          rintro e wB ⟨yB, qB, rfl, hyB1, hyB2, hqB, hrB, hgB⟩
          have hGB := hGA.trans hgB
          clear hrA hGA hgB
          go_wp2_with fail
          refine (l2Bad_any b qB zs a _ hrB (by omega) (by omega)).mono ?_
          rintro e wC ⟨xC, qC, rfl, hxC, hqC, hrC, hgC⟩
          have hGC := hGB.trans hgC
          clear hrB hGB hgC
          go_wp2_with fail
          refine (l2Bad_any b qC zs yB _ hrC (by omega) (by omega)).mono ?_
          rintro e wD ⟨xD, qD, rfl, hxD, hqD, hrD, hgD⟩
          have hGD := hGC.trans hgD
          clear hrC hGC hgD
          go_wp2
          go_ret2
          exact ⟨xC, xD, qD, rfl, hxC, hxD, by omega, hrD, hGD⟩
        · have ez : ((kA : Int) == 0) = false := by simp; omega
          go_wp2_with fail
          clear ez
          refine (l2Bad_any b ((q + 1 + 1 + Y.size) + 1) zs a _ hrA (by omega) (by omega)).mono ?_
          rintro e wC ⟨xC, qC, rfl, hxC, hqC, hrC, hgC⟩
          have hGC := hGA.trans hgC
          clear hrA hGA hgC
          go_wp2_with fail
          refine (l2Bad_any b qC zs Y _ hrC (by omega) (by omega)).mono ?_
          rintro e wD ⟨xD, qD, rfl, hxD, hqD, hrD, hgD⟩
          have hGD := hGC.trans hgD
          clear hrC hGC hgD
          go_wp2
          go_ret2
          exact ⟨xC, xD, qD, rfl, hxC, hxD, by omega, hrD, hGD⟩
  · have e0 : ((k2 : Int) == 0) = false := by simp; omega
    have e1 : ((k2 : Int) == 1) = false := by simp; omega
    have hY2 := hb2
    go_wp2_with fail
    clear e0 e1
    refine (pick_any b (q + 1 + 1) 16 zs _ hr4 (by omega) (by omega) (by omega)).mono ?_
    rintro e wA ⟨kA, hkA, rfl, hrA, hgA⟩
    have hGA := hG4.trans hgA
    clear hr4 hG4 hgA
    by_cases kz : kA = 0
    · subst kz
      go_wp2_with fail
      refine (l2Some_any b ((q + 1 + 1) + 1) zs _ hrA (by omega)).mono ?_
      rintro e wB ⟨yB, qB, rfl, hyB1, hyB2, hqB, hrB, hgB⟩
      have hGB := hGA.trans hgB
      clear hrA hGA hgB
      go_wp2_with fail
      refine (l2Bad_any b qB zs a _ hrB (by omega) (by omega)).mono ?_
      rintro e wC ⟨xC, qC, rfl, hxC, hqC, hrC, hgC⟩
      have hGC := hGB.trans hgC
      clear hrB hGB hgC
      go_wp2_with fail
      refine (l2Bad_any b qC zs yB _ hrC (by omega) (by omega)).mono ?_
      rintro e wD ⟨xD, qD, rfl, hxD, hqD, hrD, hgD⟩
      have hGD := hGC.trans hgD
      clear hrC hGC hgD
      go_wp2
      go_ret2
      exact ⟨xC, xD, qD, rfl, hxC, hxD, by omega, hrD, hGD⟩
    · have ez : ((kA : Int) == 0) = false := by simp; omega
      go_wp2_with fail
      clear ez
      refine (l2Bad_any b ((q + 1 + 1) + 1) zs a _ hrA (by omega) (by omega)).mono ?_
      rintro e wC ⟨xC, qC, rfl, hxC, hqC, hrC, hgC⟩
      have hGC := hGA.trans hgC
      clear hrA hGA hgC
      go_wp2_with fail
      refine (l2Bad_any b qC zs B _ hrC (by omega) (by omega)).mono ?_
      rintro e wD ⟨xD, qD, rfl, hxD, hqD, hrD, hgD⟩
      have hGD := hGC.trans hgD
      clear hrC hGC hgD
      go_wp2
      go_ret2
      exact ⟨xC, xD, qD, rfl, hxC, hxD, by omega, hrD, hGD⟩
def DrawTwo (w : World) (e : Ending) (w' : World) : Prop := ∃ x y : ByteArray, e = .returned (.tuple #[.string x, .string y]) ∧ x.size ≤ 300 ∧ y.size ≤ 300 ∧ Below w.heap.size w w'
def DrawTwoInt (w : World) (e : Ending) (w' : World) : Prop := ∃ (x y : ByteArray) (k : Int), e = .returned (.tuple #[.string x, .string y, .int .i64 k]) ∧ x.size ≤ 300 ∧ y.size ≤ 300 ∧ FitsI k ∧ Below w.heap.size w w'
end Go.Proofs.Ytjeadndajndmhaa
