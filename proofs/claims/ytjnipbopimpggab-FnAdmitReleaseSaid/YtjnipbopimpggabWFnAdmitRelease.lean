/- The walk of the law FnAdmitRelease. -/
import Derived.Test.YtjnipbopimpggabAdmMath2
import Derived.Test.YtjnipbopimpggabDrawCel4
import Derived.Test.YtjnipbopimpggabSsCells
import Derived.BigQuiet
namespace Go.Proofs.Ytjnipbopimpggab
open Go.RowKit
set_option linter.unusedVariables false
set_option maxHeartbeats 6400000 in
set_option maxRecDepth 100000 in
theorem fnAdmitRelease_walk (a0 : Option Addr) (len0 cap0 : Nat) (z0 : List Int) (w : World) (w0 : IsBytes w a0 len0 cap0 z0) :
    Calls Try.prog 4 #[.slice a0 len0 cap0] w fun e w' => e = .returned (.bool true) ∧ Below w.heap.size w w' := by
  by_cases hl0 : 1048576 < len0
  · go_enter Try.func4, Try.ntmps4
    go_wp2
    go_ret
    exact ⟨rfl, Below.refl _ _⟩
  go_enter Try.func4, Try.ntmps4
  go_wp2_with fail
  refine (drawAdmit_any a0 len0 cap0 z0 _ w0).mono ?_
  rintro e w1 ⟨v, n, f, z, D, L, rfl, O1, hn, hf, hz, hD, hL, bc⟩
  have hsz := DrT.sz hf
  clear hf w0 hD hL
  have HI := Lib.hid (fun w h => iAdm_any v n f z D L w h (by omega) hsz (by omega))
  have HS := Lib.hid (fun w h => sAdm_any v n f z D L w h (by omega) hsz (by omega))
  have HK : Hid (adB n f z D L = true → cellB (n + 1) (adF n f z D L) = true ∧ rlB (n + 1) (adF n f z D L) z = true ∧ (∀ i, i < n → rlF (n + 1) (adF n f z D L) z i = f i) ∧ adB (n + 1) (adF n f z D L) z D L = false ∧ ((allocAns n (pthF f) D).1.size : Int) = D ∧ adF n f z D L n = ⟨z, (allocAns n (pthF f) D).1, 1, L⟩ ∧ UsrSz (n + 1) (adF n f z D L)) := Lib.hid (fun h => ⟨ad_cell h, ad_released h, ad_back h, ad_twice h, (alloc_of (ad_parts h).2.2.2.2.2).2.2.1, adF_new, adF_sz hsz (by omega) (alloc_size n (pthF f) D)⟩)
  have hbad := fun h => (show adN n f z D L = 0 by unfold adN; rw [if_neg h])
  have hgood := fun h => (show adN n f z D L = n + 1 by unfold adN; rw [if_pos h])
  have hle := adN_le (n := n) (f := f) (z := z) (D := D) (L := L)
  obtain ⟨K, hK⟩ : ∃ K, adB n f z D L = K := ⟨_, rfl⟩
  obtain ⟨F, hF⟩ : ∃ K, adF n f z D L = K := ⟨_, rfl⟩
  obtain ⟨N, hN⟩ : ∃ K, adN n f z D L = K := ⟨_, rfl⟩
  obtain ⟨Pa, hPa⟩ : ∃ K, (allocAns n (pthF f) D).1 = K := ⟨_, rfl⟩
  rw [hK, hF, hN] at HI HS
  rw [hK, hF, hPa] at HK
  rw [hK, hN] at hbad hgood
  rw [hN] at hle
  clear hK hF hN hPa hsz
  have HO1 := Lib.hid O1
  obtain ⟨av, cv, rfl, -⟩ := id O1.stationsC
  clear O1
  go_wp2_with fail
  refine (HI.out _ HO1.out.stationsC).mono ?_
  rintro e w2 ⟨vx, rfl, X2, n2⟩
  have O2 := Lib.hid (HO1.out.below n2)
  have b2 := below_then bc (Nat.le_refl _) n2
  clear bc n2
  go_wp2_with fail
  refine (HS.out _ O2.out.stationsC).mono ?_
  rintro e w3 ⟨vy, rfl, Y3, n3⟩
  have O3 := Lib.hid (O2.out.below n3)
  have X3 := Lib.hid (X2.below n3)
  have HY3 := Lib.hid Y3
  have b3 := below_then b2 (Nat.le_refl _) n3
  clear O2 X2 Y3 b2 n3 HO1
  go_wp2_with fail
  refine (ssCells_same vx vy N F _ X3.out.stations HY3.out.stations hle).mono ?_
  rintro e w4 ⟨rfl, m4, rfl⟩
  have O4 := Lib.hid (O3.out.drewN m4)
  have X4 := Lib.hid (X3.out.drewN m4)
  have Y4 := Lib.hid (HY3.out.drewN m4)
  have b4 := below_drewN b3 m4
  obtain ⟨w4, hw4⟩ : ∃ x, w3.drewN m4 = x := ⟨_, rfl⟩
  rw [hw4] at O4 X4 Y4 b4 ⊢
  clear O3 X3 HY3 b3 hw4
  have e0 : (K != K) = false := by simp
  cases K with
  | false =>
    clear hbad hgood HK
    go_wp2_with fail
    refine (ssCells_same vx vy N F _ X4.out.stations Y4.out.stations hle).mono ?_
    rintro e w5 ⟨rfl, m5, rfl⟩
    have b5 := below_drewN b4 m5
    clear b4
    go_wp2
    go_ret
    exact ⟨rfl, b5⟩
  | true =>
    have hN := hgood rfl
    subst hN
    obtain ⟨k1, k2, k3, k4, k5, k6, k7⟩ := HK.out rfl
    clear HK hgood hbad Y4 e0
    have HC := Lib.hid (fun u w h => iCell_any u (n + 1) F w h (by omega) k7)
    rw [k1] at HC
    have HR := Lib.hid (fun u w h => iRel_any u (n + 1) F z w h (by omega) k7 (by omega))
    rw [k2] at HR
    have hrn : rlN (n + 1) F z = n := by unfold rlN; rw [k2]; simp
    rw [hrn] at HR
    have HA := Lib.hid (fun u w h => iAdm_any u (n + 1) F z D L w h (by omega) k7 (by omega))
    rw [k4] at HA
    have H3 := Lib.hid k3
    have H6 := Lib.hid k6
    clear k1 k2 k3 k4 k6 k7 hrn
    obtain ⟨g, cap, rfl⟩ : ∃ g cap, vx = .slice (some ⟨g, 0, none⟩) (n + 1) cap := by
      obtain ⟨a, cap, e, h⟩ := X4.out.form
      obtain ⟨g, rfl, _, hg⟩ := h (by omega)
      exact ⟨g, cap, e⟩
    go_wp2_with fail
    refine (HR.out _ _ X4.out.stationsC).mono ?_
    rintro e w5 ⟨vb, rfl, B5, n5⟩
    have O5 := Lib.hid (O4.out.below n5)
    have X5 := Lib.hid (X4.out.below n5)
    have Bk := Lib.hid (B5.congr H3.out)
    have b5 := below_then b4 (Nat.le_refl _) n5
    clear O4 X4 B5 b4 n5 H3
    go_wp2_with fail
    refine (HA.out _ _ X5.out.stationsC).mono ?_
    rintro e w6 ⟨vt, rfl, -, n6⟩
    have O6 := Lib.hid (O5.out.below n6)
    have X6 := Lib.hid (X5.out.below n6)
    have B6 := Lib.hid (Bk.out.below n6)
    have b6 := below_then b5 (Nat.le_refl _) n6
    clear O5 X5 Bk b5 n6
    have hc := X6.out.cells n (by omega)
    rw [H6.out] at hc
    obtain ⟨c0, c1, c2, c3⟩ := hc
    dsimp only at c0 c1 c2 c3
    have i0 : (0 : Int) ≤ (n : Int) := by omega
    have i1 : (n : Int) < ((n + 1 : Nat) : Int) := by omega
    have i2 : ((n + 1 : Nat) : Int) - 1 = (n : Int) := by omega
    have O7 := Lib.hid (O6.out.alloc (.cells #[.string z, .string Pa, .int .i64 1, .int .i64 L] 30))
    have X7 := Lib.hid (X6.out.alloc (.cells #[.string z, .string Pa, .int .i64 1, .int .i64 L] 30))
    have B7 := Lib.hid (B6.out.alloc (.cells #[.string z, .string Pa, .int .i64 1, .int .i64 L] 30))
    have b7 := b6.alloc b6.size (.cells #[.string z, .string Pa, .int .i64 1, .int .i64 L] 30)
    have U7 := Lib.hid (UsrAt.new w6 30 z Pa 1 L)
    clear O6 X6 B6 b6
    go_wp2_with fail
    refine (HC.out _ _ X7.out.stationsC).mono ?_
    rintro e w8 ⟨rfl, n8⟩
    have O8 := Lib.hid (O7.out.below n8)
    have B8 := Lib.hid (B7.out.below n8)
    have U8 := Lib.hid (U7.out.below n8 U7.out.2.2.2.2)
    have b8 := below_then b7 (Nat.le_refl _) n8
    clear O7 X7 B7 U7 b7 n8 c0 c1 c2 c3
    go_wp2_with fail
    refine (ssCells_same _ _ n f _ B8.out.stations O8.out.stations (by omega)).mono ?_
    rintro e w9 ⟨rfl, m9, rfl⟩
    have b9 := below_drewN b8 m9
    obtain ⟨x0, x1, x2, x3, x4⟩ := U8.out.below (below_drewN (Below.refl _ _) m9) U8.out.2.2.2.2
    clear b8
    go_wp2
    go_ret
    exact ⟨rfl, b9⟩
end Go.Proofs.Ytjnipbopimpggab
