/- Contracts of the draws of sequences: what is sometimes none, shifts, two sequences, the draws of the laws. Contracts of the draws of two sequences. -/
import Derived.Test.YtmmonhagceacjaaDraw5
import Derived.Test.YtmmonhagceacjaaSeqFun3
namespace Go.Proofs.Ytmmonhagceacjaa
open Go.RowKit
set_option linter.unusedVariables false
/-- A string that may be none: not longer than 300. -/
def AnyPost (b p : Nat) (zs : List Int) (w : World) (e : Ending) (w' : World) : Prop :=
  ∃ (z : ByteArray) (q : Nat), e = .returned (.string z) ∧ z.size ≤ 300 ∧ q ≤ p + 300 ∧ RdAt w' b q zs ∧ w.grownBy w' (some b)
theorem TxtAt.three (w : World) (t : TypeId) : TxtAt (w.alloc (.cells #[.string ⟨#[50]⟩, .string ⟨#[120]⟩, .string ⟨#[32]⟩] t)) w.heap.size 3 1 := by
  refine ⟨by simp, fun i hi => ?_⟩
  have : i = 0 ∨ i = 1 ∨ i = 2 := by omega
  rcases this with rfl | rfl | rfl
  · exact ⟨⟨#[50]⟩, by rw [World.cell?_alloc_new]; rfl, Nat.le_refl _⟩
  · exact ⟨⟨#[120]⟩, by rw [World.cell?_alloc_new]; rfl, Nat.le_refl _⟩
  · exact ⟨⟨#[32]⟩, by rw [World.cell?_alloc_new]; rfl, Nat.le_refl _⟩
set_option maxHeartbeats 1600000 in
set_option maxRecDepth 100000 in
theorem l2Bad_any (b p : Nat) (zs : List Int) (z : ByteArray) (w : World) (hr : RdAt w b p zs) (hp : p ≤ 800000) (hz : z.size ≤ 200) :
    Calls Try.prog 102 #[.pointer (some ⟨b, 0, none⟩), .string z] w (AnyPost b p zs w) := by
  have hbl := hr.1
  go_enter Try.func102, Try.ntmps102
  go_wp2_with fail
  refine (pick_any b p 40 zs _ hr (by omega) (by omega) (by omega)).mono ?_
  rintro e w1 ⟨k, hk, rfl, hr1, hg1⟩
  clear hr
  by_cases k0 : k = 0
  · subst k0
    clear hk
    go_wp2_with fail
    refine (of_any b (p + 1) w1.heap.size 3 1 zs _ (hr1.alloc _) (TxtAt.three w1 _) hr1.1 (by omega) (by omega) (by omega)).mono ?_
    rintro e w2 ⟨y, q, rfl, hy, hq, hr2, hg2⟩
    have hg2' := hg1.trans ((World.grownBy_alloc w1 _ (some b)).trans hg2)
    have hzs : z.size + y.size ≤ 9223372036854775807 := by omega
    have HZ : Hid ((z ++ y).size ≤ 300) := Lib.hid (by rw [ByteArray.size_append]; omega)
    clear hr1 hg1 hg2
    go_wp2
    go_ret
    exact ⟨_, q, rfl, HZ.out, by omega, hr2, hg2'⟩
  by_cases k1 : k = 1
  · subst k1
    clear hk k0
    go_wp2
    go_ret
    exact ⟨⟨#[]⟩, p + 1, rfl, by decide, by omega, hr1, hg1⟩
  by_cases k2 : k = 2
  · subst k2
    clear hk k0 k1
    go_wp2_with fail
    refine (num_any b (p + 1) zs _ w1.heap.size 2 [255, 256] (hr1.alloc _) (IntsAt.new w1 _ [255, 256]) rfl hr1.1 (by omega) (by omega) (by omega)).mono ?_
    rintro e w2 ⟨v, hv, rfl, hr2, hg2⟩
    obtain ⟨s, rfl, hs5⟩ : ∃ s : Nat, v = s ∧ s ≤ 256 := by
      simp only [List.mem_cons, List.not_mem_nil, or_false] at hv
      exact ⟨v.toNat, by omega, by omega⟩
    have hg2' := hg1.trans ((World.grownBy_alloc w1 _ (some b)).trans hg2)
    have hM := fun w => l9Many_any ⟨#[49]⟩ s w (by show 1 * s ≤ _; omega) (by omega)
    have hsz := many_one_size s
    obtain ⟨Z, hZ⟩ : ∃ Z, many ⟨#[49]⟩ s = Z := ⟨_, rfl⟩
    rw [hZ] at hM hsz
    have HM := Lib.hid hM
    have HZ := Lib.hid (show Z.size ≤ 300 by omega)
    clear hv hr1 hg1 hg2 hM hsz hZ
    go_wp2_with fail
    refine (HM.out _).mono ?_
    rintro e w' ⟨rfl, rfl⟩
    go_wp2
    go_ret
    exact ⟨Z, p + 1 + 1, rfl, HZ.out, by omega, hr2, hg2'⟩
  · have e0 : ((k : Int) == 0) = false := by simp; omega
    have e1 : ((k : Int) == 1) = false := by simp; omega
    have e2 : ((k : Int) == 2) = false := by simp; omega
    go_wp2
    go_ret
    exact ⟨z, p + 1, rfl, by omega, by omega, hr1, hg1⟩
set_option maxRecDepth 100000 in
theorem l2Open_any (b p : Nat) (zs : List Int) (w : World) (hr : RdAt w b p zs) (hp : p ≤ 700000) :
    Calls Try.prog 80 #[.pointer (some ⟨b, 0, none⟩)] w fun e w' => ∃ (z : ByteArray) (q : Nat), e = .returned (.string z) ∧ z.size ≤ 300 ∧ q ≤ p + 500 ∧ RdAt w' b q zs ∧ w.grownBy w' (some b) := by
  go_enter Try.func80, Try.ntmps80
  go_wp2_with fail
  refine (l2Some_any b p zs _ hr (by omega)).mono ?_
  rintro e w1 ⟨z, q, rfl, hz1, hz2, hq, hr1, hg1⟩
  clear hr
  go_wp2_with fail
  refine (l2Bad_any b q zs z _ hr1 (by omega) (by omega)).mono ?_
  rintro e w2 ⟨y, q2, rfl, hy, hq2, hr2, hg2⟩
  have hg2' := hg1.trans hg2
  clear hr1 hg1 hg2
  go_wp2
  go_ret
  exact ⟨y, q2, rfl, hy, by omega, hr2, hg2'⟩
/-- A sequence and a number were drawn. -/
def DrawStrInt (w : World) (e : Ending) (w' : World) : Prop := ∃ (z : ByteArray) (k : Int), e = .returned (.tuple #[.string z, .int .i64 k]) ∧ z.size ≤ 300 ∧ FitsI k ∧ Below w.heap.size w w'
def DrawStr (w : World) (e : Ending) (w' : World) : Prop := ∃ z : ByteArray, e = .returned (.string z) ∧ z.size ≤ 300 ∧ Below w.heap.size w w'
set_option maxRecDepth 100000 in
theorem drawRev_any (a : Option Addr) (len cap : Nat) (zs : List Int) (w : World) (h : IsBytes w a len cap zs) :
    Calls Try.prog 36 #[.slice a len cap] w (DrawStr w) := by
  go_enter Try.func36, Try.ntmps36
  go_wp2_with fail
  refine (open_any a len cap zs _ h).mono ?_
  rintro e w1 ⟨b, ys, rfl, hr, hb, hlb⟩
  go_wp2_with fail
  refine (l2Open_any b 0 ys _ hr (by omega)).mono ?_
  rintro e w2 ⟨z, q, rfl, hz, hq, hr2, hg2⟩
  have b2 := below_grown hb (Nat.le_refl _) hg2 hlb
  clear hr hb hg2
  go_wp2
  go_ret
  exact ⟨z, rfl, hz, b2⟩
end Go.Proofs.Ytmmonhagceacjaa
namespace Go.Proofs.Ytmmonhagceacjaa
open Go.RowKit
set_option linter.unusedVariables false
def TwoPost (b p : Nat) (zs : List Int) (w : World) (e : Ending) (w' : World) : Prop :=
  ∃ (x y : ByteArray) (q : Nat), e = .returned (.tuple #[.string x, .string y]) ∧ x.size ≤ 300 ∧ y.size ≤ 300 ∧ q ≤ p + 2000 ∧ RdAt w' b q zs ∧ w.grownBy w' (some b)
def strLen : Value → Nat
  | .string s => s.size
  | _ => 0
set_option maxHeartbeats 6400000 in
set_option maxRecDepth 100000 in
theorem l2Two_any (b p : Nat) (zs : List Int) (w : World) (hr : RdAt w b p zs) (hp : p ≤ 500000) :
    Calls Try.prog 91 #[.pointer (some ⟨b, 0, none⟩)] w (TwoPost b p zs w) := by
  go_enter Try.func91, Try.ntmps91
  go_wp2_with fail
  refine (l2Some_any b p zs _ hr (by omega)).mono ?_
  rintro e w1 ⟨a, q, rfl, ha1, ha2, hq, hr1, hg1⟩
  clear hr
  go_wp2_with fail
  refine (pick_any b q 20 zs _ hr1 (by omega) (by omega) (by omega)).mono ?_
  rintro e w2 ⟨k1, hk1, rfl, hr2, hg2⟩
  have hG2 := hg1.trans hg2
  clear hr1 hg1 hg2
  have hbs := shift_size a (k1 : Int)
  have hL := fun w => l2Shift_any a (k1 : Int) w ha1 (by omega)
  obtain ⟨B, hB⟩ : ∃ B, shift a (k1 : Int) = B := ⟨_, rfl⟩
  rw [hB] at hbs hL
  have hb1 : 1 ≤ B.size := by omega
  have hb2 : B.size ≤ 40 := by omega
  have HL := Lib.hid hL
  clear hB hL hbs
  go_wp2_with fail
  refine (HL.out _).mono ?_
  rintro e w3 ⟨rfl, nd, rfl⟩
  have hr3 : RdAt (w2.drewN nd) b (q + 1) zs := hr2.below (below_drewN (Below.refl _ _) nd)
  have hG3 : w.grownBy (w2.drewN nd) (some b) := hG2.trans (grownBy_drewN' w2 nd _)
  obtain ⟨W3, hW3⟩ : ∃ W3, w2.drewN nd = W3 := ⟨_, rfl⟩
  rw [hW3] at hr3 hG3 ⊢
  clear hW3 hr2 hG2 HL
  go_wp2_with fail
  refine (pick_any b (q + 1) 4 zs _ hr3 (by omega) (by omega) (by omega)).mono ?_
  rintro e w4 ⟨k2, hk2, rfl, hr4, hg4⟩
  have hG4 := hG3.trans hg4
  clear hr3 hG3 hg4
  by_cases c0 : k2 = 0
  · subst c0
    clear hk2
    go_wp2_with fail
    refine (pick_any b (q + 1 + 1) B.size zs _ hr4 (by omega) hb1 (by omega)).mono ?_
    rintro e w5 ⟨k3, hk3, rfl, hr5, hg5⟩
    have hG5 := hG4.trans hg5
    clear hr4 hG4 hg5
    have s1 := size_extract B 0 k3 (by omega)
    have s2 := size_extract B (k3 + 1) B.size (by omega)
    have s3 : (B.extract 0 k3).size + ByteArray.size ⟨#[49]⟩ ≤ 9223372036854775807 := by rw [s1]; show k3 - 0 + 1 ≤ _; omega
    have s4 : (B.extract 0 k3 ++ ⟨#[49]⟩).size = k3 + 1 := by rw [ByteArray.size_append, s1]; show k3 - 0 + 1 = _; omega
    have s5 : (B.extract 0 k3 ++ ⟨#[49]⟩).size + (B.extract (k3 + 1) B.size).size ≤ 9223372036854775807 := by rw [s4, s2]; omega
    have s6 : (B.extract 0 k3 ++ ⟨#[49]⟩ ++ B.extract (k3 + 1) B.size).size = B.size := by rw [ByteArray.size_append, s4, s2]; omega
    obtain ⟨Y, hY⟩ : ∃ Y, B.extract 0 k3 ++ ⟨#[49]⟩ ++ B.extract (k3 + 1) B.size = Y := ⟨_, rfl⟩
    have HY : Hid (Y.size = B.size) := Lib.hid (by rw [← hY]; exact s6)
    have j0 : IntKind.i64.wrap ((k3 : Int) + 1) = (k3 : Int) + 1 := IntWalk.i64_in _ (by omega)
    have j1 : ((k3 : Int) + 1).toNat = k3 + 1 := by omega
    have i0 : (0 : Int) ≤ (k3 : Int) := by omega
    have i1 : (k3 : Int) ≤ (B.size : Int) := by omega
    have i2 : (k3 : Int) + 1 ≤ (B.size : Int) := by omega
    have i3 : (0 : Int) ≤ (k3 : Int) + 1 := by omega
    have hY2 : Y.size ≤ 40 := by rw [HY.out]; exact hb2
    clear s1 s2 s4 s6
    go_wp2_with fail
    go_quiet (fail)
    have hr6 : RdAt (w5.drewN nq) b (q + 1 + 1 + 1) zs := hr5.below (below_drewN (Below.refl _ _) nq)
    have hG6 : w.grownBy (w5.drewN nq) (some b) := hG5.trans (grownBy_drewN' w5 nq _)
    obtain ⟨W6, hW6⟩ : ∃ W6, w5.drewN nq = W6 := ⟨_, rfl⟩
    rw [hW6] at hr6 hG6 ⊢
    clear hW6 hr5 hG5 s3 s5 j0 hY i0 i1 i2 i3
    go_wp2_with fail
    refine (pick_any b (q + 1 + 1 + 1) 16 zs _ hr6 (by omega) (by omega) (by omega)).mono ?_
    rintro e wA ⟨kA, hkA, rfl, hrA, hgA⟩
    have hGA := hG6.trans hgA
    clear hr6 hG6 hgA
    by_cases kz : kA = 0
    · subst kz
      go_wp2_with fail
      refine (l2Some_any b ((q + 1 + 1 + 1) + 1) zs _ hrA (by omega)).mono ?_
      rintro e wB ⟨yB, qB, rfl, hyB1, hyB2, hqB, hrB, hgB⟩
      have hGB := hGA.trans hgB
      clear hrA hGA hgB
      go_wp2_with fail
      refine (l2Bad_any b qB zs a _ hrB (by omega) (by omega)).mono ?_
      rintro e wC ⟨xC, qC, rfl, hxC, hqC, hrC, hgC⟩
      have hGC := hGB.trans hgC
      clear hrB hGB hgC
      go_wp2_with fail
      refine (l2Bad_any b qC zs yB _ hrC (by omega) (by omega)).mono ?_
      rintro e wD ⟨xD, qD, rfl, hxD, hqD, hrD, hgD⟩
      have hGD := hGC.trans hgD
      clear hrC hGC hgD
      go_wp2
      go_ret2
      exact ⟨xC, xD, qD, rfl, hxC, hxD, by omega, hrD, hGD⟩
    · have ez : ((kA : Int) == 0) = false := by simp; omega
      go_wp2_with fail
      clear ez
      refine (l2Bad_any b ((q + 1 + 1 + 1) + 1) zs a _ hrA (by omega) (by omega)).mono ?_
      rintro e wC ⟨xC, qC, rfl, hxC, hqC, hrC, hgC⟩
      have hGC := hGA.trans hgC
      clear hrA hGA hgC
      go_wp2_with fail
      refine (l2Bad_any b qC zs Y _ hrC (by omega) (by omega)).mono ?_
      rintro e wD ⟨xD, qD, rfl, hxD, hqD, hrD, hgD⟩
      have hGD := hGC.trans hgD
      clear hrC hGC hgD
      go_wp2
      go_ret2
      exact ⟨xC, xD, qD, rfl, hxC, hxD, by omega, hrD, hGD⟩
  by_cases c1 : k2 = 1
  · subst c1
    clear hk2 c0
    go_wp2_with fail
    go_loopw [5] (fun v wr => ∃ Y : ByteArray, v = .string Y ∧ Y.size ≤ a.size ∧ RdAt wr b (q + 1 + 1 + Y.size) zs ∧ w.grownBy wr (some b)) (fun v _ => a.size - strLen v)
    case atStart => exact ⟨⟨#[]⟩, rfl, Nat.zero_le _, hr4, hG4⟩
    case round =>
      obtain ⟨Y, rfl, hYa, rR, rg⟩ := hrel
      clear hr4 hG4
      by_cases hlt : Y.size < a.size
      · go_wp2_with fail
        refine (pick_any b (q + 1 + 1 + Y.size) 2 zs _ rR (by omega) (by omega) (by omega)).mono ?_
        rintro e w5 ⟨k3, hk3, rfl, hr5, hg5⟩
        have hG5 := rg.trans hg5
        clear rR rg hg5
        go_wp2_with fail
        refine (l9Dec_digit k3 _ (by omega)).mono ?_
        rintro e w6 ⟨⟨D, rfl, hD⟩, hb6⟩
        have hr6 := hr5.below hb6
        have hG6 := hG5.trans (grow hb6 (some b))
        have hs1 : Y.size + D.size ≤ 9223372036854775807 := by omega
        have HS : Hid ((Y ++ D).size = Y.size + 1) := Lib.hid (by rw [ByteArray.size_append, hD])
        clear hr5 hG5 hb6 hD
        go_wp2
        go_roundw
        case rel => exact ⟨Y ++ D, rfl, by rw [HS.out]; omega, by rw [HS.out]; exact hr6, hG6⟩
        case measure => have := HS.out; simp only [strLen]; simp [this]; omega
      · have hY2 : Y.size ≤ 40 := by omega
        go_wp2_with fail
        refine (pick_any b (q + 1 + 1 + Y.size) 16 zs _ rR (by omega) (by omega) (by omega)).mono ?_
        rintro e wA ⟨kA, hkA, rfl, hrA, hgA⟩
        have hGA := rg.trans hgA
        clear rR rg hgA
        by_cases kz : kA = 0
        · subst kz
          go_wp2_with fail
          refine (l2Some_any b ((q + 1 + 1 + Y.size) + 1) zs _ hrA (by omega)).mono ?_
          rintro e wB ⟨yB, qB, rfl, hyB1, hyB2, hqB, hrB, hgB⟩
          have hGB := hGA.trans hgB
          clear hrA hGA hgB
          go_wp2_with fail
          refine (l2Bad_any b qB zs a _ hrB (by omega) (by omega)).mono ?_
          rintro e wC ⟨xC, qC, rfl, hxC, hqC, hrC, hgC⟩
          have hGC := hGB.trans hgC
          clear hrB hGB hgC
          go_wp2_with fail
          refine (l2Bad_any b qC zs yB _ hrC (by omega) (by omega)).mono ?_
          rintro e wD ⟨xD, qD, rfl, hxD, hqD, hrD, hgD⟩
          have hGD := hGC.trans hgD
          clear hrC hGC hgD
          go_wp2
          go_ret2
          exact ⟨xC, xD, qD, rfl, hxC, hxD, by omega, hrD, hGD⟩
        · have ez : ((kA : Int) == 0) = false := by simp; omega
          go_wp2_with fail
          clear ez
          refine (l2Bad_any b ((q + 1 + 1 + Y.size) + 1) zs a _ hrA (by omega) (by omega)).mono ?_
          rintro e wC ⟨xC, qC, rfl, hxC, hqC, hrC, hgC⟩
          have hGC := hGA.trans hgC
          clear hrA hGA hgC
          go_wp2_with fail
          refine (l2Bad_any b qC zs Y _ hrC (by omega) (by omega)).mono ?_
          rintro e wD ⟨xD, qD, rfl, hxD, hqD, hrD, hgD⟩
          have hGD := hGC.trans hgD
          clear hrC hGC hgD
          go_wp2
          go_ret2
          exact ⟨xC, xD, qD, rfl, hxC, hxD, by omega, hrD, hGD⟩
  · have e0 : ((k2 : Int) == 0) = false := by simp; omega
    have e1 : ((k2 : Int) == 1) = false := by simp; omega
    have hY2 := hb2
    go_wp2_with fail
    clear e0 e1
    refine (pick_any b (q + 1 + 1) 16 zs _ hr4 (by omega) (by omega) (by omega)).mono ?_
    rintro e wA ⟨kA, hkA, rfl, hrA, hgA⟩
    have hGA := hG4.trans hgA
    clear hr4 hG4 hgA
    by_cases kz : kA = 0
    · subst kz
      go_wp2_with fail
      refine (l2Some_any b ((q + 1 + 1) + 1) zs _ hrA (by omega)).mono ?_
      rintro e wB ⟨yB, qB, rfl, hyB1, hyB2, hqB, hrB, hgB⟩
      have hGB := hGA.trans hgB
      clear hrA hGA hgB
      go_wp2_with fail
      refine (l2Bad_any b qB zs a _ hrB (by omega) (by omega)).mono ?_
      rintro e wC ⟨xC, qC, rfl, hxC, hqC, hrC, hgC⟩
      have hGC := hGB.trans hgC
      clear hrB hGB hgC
      go_wp2_with fail
      refine (l2Bad_any b qC zs yB _ hrC (by omega) (by omega)).mono ?_
      rintro e wD ⟨xD, qD, rfl, hxD, hqD, hrD, hgD⟩
      have hGD := hGC.trans hgD
      clear hrC hGC hgD
      go_wp2
      go_ret2
      exact ⟨xC, xD, qD, rfl, hxC, hxD, by omega, hrD, hGD⟩
    · have ez : ((kA : Int) == 0) = false := by simp; omega
      go_wp2_with fail
      clear ez
      refine (l2Bad_any b ((q + 1 + 1) + 1) zs a _ hrA (by omega) (by omega)).mono ?_
      rintro e wC ⟨xC, qC, rfl, hxC, hqC, hrC, hgC⟩
      have hGC := hGA.trans hgC
      clear hrA hGA hgC
      go_wp2_with fail
      refine (l2Bad_any b qC zs B _ hrC (by omega) (by omega)).mono ?_
      rintro e wD ⟨xD, qD, rfl, hxD, hqD, hrD, hgD⟩
      have hGD := hGC.trans hgD
      clear hrC hGC hgD
      go_wp2
      go_ret2
      exact ⟨xC, xD, qD, rfl, hxC, hxD, by omega, hrD, hGD⟩
def DrawTwo (w : World) (e : Ending) (w' : World) : Prop := ∃ x y : ByteArray, e = .returned (.tuple #[.string x, .string y]) ∧ x.size ≤ 300 ∧ y.size ≤ 300 ∧ Below w.heap.size w w'
def DrawTwoInt (w : World) (e : Ending) (w' : World) : Prop := ∃ (x y : ByteArray) (k : Int), e = .returned (.tuple #[.string x, .string y, .int .i64 k]) ∧ x.size ≤ 300 ∧ y.size ≤ 300 ∧ FitsI k ∧ Below w.heap.size w w'
end Go.Proofs.Ytmmonhagceacjaa
