/- Draws: ReceiveUser, MarginOf. -/
import Derived.Test.YthfcfnamaedffaaDrawUser3
import Derived.Test.YthfcfnamaedffaaSig9
namespace Go.Proofs.Ythfcfnamaedffaa
open Go.RowKit
set_option linter.unusedVariables false
set_option maxRecDepth 100000
theorem rv_size (n : Nat) (f : Nat → Int) (q : ByteArray) (d c : Int) : (rvAns n f q d c).1.size ≤ 600 := by
  unfold rvAns
  cases hr : rcB n f q d c with
  | true =>
    obtain ⟨_, _, _, h⟩ := (rcB_iff _ _ _ _ _).1 hr
    show (sgS c.toNat (coL n f q d.toNat)).size ≤ 600
    rw [sgS_size]; omega
  | false => exact Nat.zero_le _
theorem drawReceive_any (a : Option Addr) (len cap : Nat) (zs : List Int) (w : World) (h : IsBytes w a len cap zs) :
    Calls Try.prog 31 #[.slice a len cap] w fun e w' => ∃ (v : Value) (n : Nat) (f : Nat → Int) (z : ByteArray) (d c : Int), e = .returned (.tuple #[v, .string z, .int .i64 d, .int .i64 c]) ∧ OF w' w.heap.size v n f ∧ n ≤ 3001 ∧ z.size ≤ 1000 ∧ FitsI d ∧ FitsI c ∧ Below w.heap.size w w' := by
  go_enter Try.func31, Try.ntmps31
  go_wp2_with fail
  refine (open_any a len cap zs _ h).mono ?_
  rintro e w1 ⟨b, ys, rfl, hr, hb, hlb⟩
  go_wp2_with fail
  refine (l4Heard_any b 0 ys _ hr (by omega)).mono ?_
  rintro e w2 ⟨v, n, f, z, d, c, q, rfl, O, hn, hf, hz, hd, hc, hq, hr2, hg2⟩
  have b2 := below_grown hb (Nat.le_refl _) hg2 hlb
  have O2 := O.mono hb.size
  clear hr hb hg2 hf O
  go_wp2
  try simp only [Exit.inBlock, Exit.then]
  refine bodyPost_ret (results_tmp4 rfl _ _ _) rfl ?_
  exact ⟨v, n, f, z, d, c, rfl, O2, hn, hz, hd, hc, b2⟩
/-- A signal, a code, a delay and data were drawn. -/
def MgPost (w : World) (e : Ending) (w' : World) : Prop :=
  ∃ (v : Value) (n : Nat) (f : Nat → Int) (z : ByteArray) (d : Int) (p : ByteArray), e = .returned (.tuple #[v, .string z, .int .i64 d, .string p]) ∧ OF w' w.heap.size v n f ∧ n ≤ 3001 ∧ z.size ≤ 1000 ∧ FitsI d ∧ p.size ≤ 600 ∧ Below w.heap.size w w'
set_option maxHeartbeats 3200000 in
theorem drawMargin_any (a : Option Addr) (len cap : Nat) (zs : List Int) (w : World) (h : IsBytes w a len cap zs) :
    Calls Try.prog 36 #[.slice a len cap] w (MgPost w) := by
  go_enter Try.func36, Try.ntmps36
  go_wp2_with fail
  refine (open_any a len cap zs _ h).mono ?_
  rintro e w1 ⟨b, ys, rfl, hr, hb, hlb⟩
  go_wp2_with fail
  refine (l4Heard_any b 0 ys _ hr (by omega)).mono ?_
  rintro e w2 ⟨v, n, f, z, d, c, q, rfl, O, hn, hf, hz, hd, hc, hq, hr2, hg2⟩
  have b2 := below_grown hb (Nat.le_refl _) hg2 hlb
  have O2 := O.mono hb.size
  have HOB := Lib.hid (O.offb hr.1)
  clear hr hb hg2 hf O
  have hs := rv_size n f z d c
  have hc' := sRecv_any v n f z d c w2 O2.ints (by omega) (by omega)
  obtain ⟨⟨X, B⟩, hX⟩ : ∃ X, rvAns n f z d c = X := ⟨_, rfl⟩
  rw [hX] at hs hc'
  obtain ⟨va, vc, rfl, -⟩ := O2.form
  clear hX
  cases B with
  | true =>
    have hC := Lib.hid hc'
    clear hc'
    go_wp2_with fail
    refine hC.out.mono ?_
    rintro e w3 ⟨rfl, b3'⟩
    have b3 := below_then b2 (Nat.le_refl _) b3'
    have hr3 := hr2.below b3'
    have O3 := O2.below b3'
    clear b2 b3' hr2 O2
    by_cases hX0 : 0 < X.size
    · have x0 : (0 : Int) < (X.size : Int) := by omega
      go_wp2_with fail
      refine (pick_any b q 3 ys _ hr3 (by omega) (by omega) (by omega)).mono ?_
      rintro e w4 ⟨k1, hk1, rfl, hr4, hg4⟩
      have b4 := below_grown b3 (Nat.le_refl _) hg4 hlb
      have O4 := O3.kept hg4 HOB.out
      clear hr3 hg4 b3 O3
      by_cases c0 : k1 = 0
      · subst c0
        clear hk1
        go_wp2_with fail
        refine (pick_any b (q + 1) X.size ys _ hr4 (by omega) (by omega) (by omega)).mono ?_
        rintro e w5 ⟨k3, hk3, rfl, hr5, hg5⟩
        have b5 := below_grown b4 (Nat.le_refl _) hg5 hlb
        have O5 := O4.kept hg5 HOB.out
        clear hr4 hg5 b4 O4 hr5
        have s1 := size_extract X 0 k3 (by omega)
        have s2 := size_extract X (k3 + 1) X.size (by omega)
        have s3 : (X.extract 0 k3).size + ByteArray.size ⟨#[49]⟩ ≤ 9223372036854775807 := by rw [s1]; show k3 - 0 + 1 ≤ _; omega
        have s4 : (X.extract 0 k3 ++ ⟨#[49]⟩).size = k3 + 1 := by rw [ByteArray.size_append, s1]; show k3 - 0 + 1 = _; omega
        have s5 : (X.extract 0 k3 ++ ⟨#[49]⟩).size + (X.extract (k3 + 1) X.size).size ≤ 9223372036854775807 := by rw [s4, s2]; omega
        have s6 : (X.extract 0 k3 ++ ⟨#[49]⟩ ++ X.extract (k3 + 1) X.size).size = X.size := by rw [ByteArray.size_append, s4, s2]; omega
        obtain ⟨U, hU⟩ : ∃ U, X.extract 0 k3 ++ ⟨#[49]⟩ ++ X.extract (k3 + 1) X.size = U := ⟨_, rfl⟩
        have HU : Hid (U.size ≤ 600) := Lib.hid (by rw [← hU, s6]; omega)
        have j0 : IntKind.i64.wrap ((k3 : Int) + 1) = (k3 : Int) + 1 := IntWalk.i64_in _ (by omega)
        have j1 : ((k3 : Int) + 1).toNat = k3 + 1 := by omega
        have i0 : (0 : Int) ≤ (k3 : Int) := by omega
        have i1 : (k3 : Int) ≤ (X.size : Int) := by omega
        have i2 : (k3 : Int) + 1 ≤ (X.size : Int) := by omega
        have i3 : (0 : Int) ≤ (k3 : Int) + 1 := by omega
        clear s1 s2 s4 s6
        go_wp2_with fail
        go_quiet (fail)
        have O6 := O5.drewN nq
        have b6 := below_drewN b5 nq
        obtain ⟨W6, hW6⟩ : ∃ W6, w5.drewN nq = W6 := ⟨_, rfl⟩
        rw [hW6] at O6 b6 ⊢
        clear hW6 O5 b5 s3 s5 j0 hU i0 i1 i2 i3
        go_wp2
        try simp only [Exit.inBlock, Exit.then]
        refine bodyPost_ret (results_tmp4 rfl _ _ _) rfl ?_
        exact ⟨_, n, f, z, d, U, rfl, O6, hn, hz, hd, HU.out, b6⟩
      · go_wp2
        try simp only [Exit.inBlock, Exit.then]
        refine bodyPost_ret (results_tmp4 rfl _ _ _) rfl ?_
        exact ⟨_, n, f, z, d, X, rfl, O4, hn, hz, hd, hs, b4⟩
    · have x0 : ¬ ((0 : Int) < (X.size : Int)) := by omega
      go_wp2
      try simp only [Exit.inBlock, Exit.then]
      refine bodyPost_ret (results_tmp4 rfl _ _ _) rfl ?_
      exact ⟨_, n, f, z, d, X, rfl, O3, hn, hz, hd, hs, b3⟩
  | false =>
    have hC := Lib.hid hc'
    clear hc'
    go_wp2_with fail
    refine hC.out.mono ?_
    rintro e w3 ⟨rfl, b3'⟩
    have b3 := below_then b2 (Nat.le_refl _) b3'
    have hr3 := hr2.below b3'
    have O3 := O2.below b3'
    clear b2 b3' hr2 O2
    go_wp2_with fail
    refine (pick_any b q 3 ys _ hr3 (by omega) (by omega) (by omega)).mono ?_
    rintro e w4 ⟨k1, hk1, rfl, hr4, hg4⟩
    have b4 := below_grown b3 (Nat.le_refl _) hg4 hlb
    have O4 := O3.kept hg4 HOB.out
    clear hr3 hg4 b3 O3
    obtain ⟨Y, hY, hY2⟩ : ∃ Y : ByteArray, (⟨#[48, 49]⟩ : ByteArray) = Y ∧ Y.size = 2 := ⟨_, rfl, rfl⟩
    rw [hY]
    clear hY hs
    have hs : Y.size ≤ 600 := by omega
    have y1 : 0 < Y.size := by omega
    clear hY2
    by_cases c0 : k1 = 0
    · subst c0
      clear hk1
      go_wp2_with fail
      refine (pick_any b (q + 1) Y.size ys _ hr4 (by omega) (by omega) (by omega)).mono ?_
      rintro e w5 ⟨k3, hk3, rfl, hr5, hg5⟩
      have b5 := below_grown b4 (Nat.le_refl _) hg5 hlb
      have O5 := O4.kept hg5 HOB.out
      clear hr4 hg5 b4 O4 hr5
      have s1 := size_extract Y 0 k3 (by omega)
      have s2 := size_extract Y (k3 + 1) Y.size (by omega)
      have s3 : (Y.extract 0 k3).size + ByteArray.size ⟨#[49]⟩ ≤ 9223372036854775807 := by rw [s1]; show k3 - 0 + 1 ≤ _; omega
      have s4 : (Y.extract 0 k3 ++ ⟨#[49]⟩).size = k3 + 1 := by rw [ByteArray.size_append, s1]; show k3 - 0 + 1 = _; omega
      have s5 : (Y.extract 0 k3 ++ ⟨#[49]⟩).size + (Y.extract (k3 + 1) Y.size).size ≤ 9223372036854775807 := by rw [s4, s2]; omega
      have s6 : (Y.extract 0 k3 ++ ⟨#[49]⟩ ++ Y.extract (k3 + 1) Y.size).size = Y.size := by rw [ByteArray.size_append, s4, s2]; omega
      obtain ⟨U, hU⟩ : ∃ U, Y.extract 0 k3 ++ ⟨#[49]⟩ ++ Y.extract (k3 + 1) Y.size = U := ⟨_, rfl⟩
      have HU : Hid (U.size ≤ 600) := Lib.hid (by rw [← hU, s6]; omega)
      have j0 : IntKind.i64.wrap ((k3 : Int) + 1) = (k3 : Int) + 1 := IntWalk.i64_in _ (by omega)
      have j1 : ((k3 : Int) + 1).toNat = k3 + 1 := by omega
      have i0 : (0 : Int) ≤ (k3 : Int) := by omega
      have i1 : (k3 : Int) ≤ (Y.size : Int) := by omega
      have i2 : (k3 : Int) + 1 ≤ (Y.size : Int) := by omega
      have i3 : (0 : Int) ≤ (k3 : Int) + 1 := by omega
      clear s1 s2 s4 s6
      go_wp2_with fail
      go_quiet (fail)
      have O6 := O5.drewN nq
      have b6 := below_drewN b5 nq
      obtain ⟨W6, hW6⟩ : ∃ W6, w5.drewN nq = W6 := ⟨_, rfl⟩
      rw [hW6] at O6 b6 ⊢
      clear hW6 O5 b5 s3 s5 j0 hU i0 i1 i2 i3
      go_wp2
      try simp only [Exit.inBlock, Exit.then]
      refine bodyPost_ret (results_tmp4 rfl _ _ _) rfl ?_
      exact ⟨_, n, f, z, d, U, rfl, O6, hn, hz, hd, HU.out, b6⟩
    · go_wp2
      try simp only [Exit.inBlock, Exit.then]
      refine bodyPost_ret (results_tmp4 rfl _ _ _) rfl ?_
      exact ⟨_, n, f, z, d, Y, rfl, O4, hn, hz, hd, hs, b4⟩
end Go.Proofs.Ythfcfnamaedffaa
