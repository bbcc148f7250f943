/- The walk of the law FnRake. -/
import Derived.Test.YthfcfnamaedffaaDrawUser5
import Derived.Test.YthfcfnamaedffaaRake2
import Derived.Test.YthfcfnamaedffaaSsUser
namespace Go.Proofs.Ythfcfnamaedffaa
open Go.RowKit
set_option linter.unusedVariables false
set_option maxRecDepth 100000
theorem rk_turned (n : Nat) (f : Nat → Int) (q : ByteArray) (g : Nat → Int) (m : Nat) (hm : m ≤ 3) (j : Nat) : rkS n f q (fun i => g (m - 1 - i)) m j = rkS n f q g m j := by
  have e : m = 0 ∨ m = 1 ∨ m = 2 ∨ m = 3 := by omega
  rcases e with rfl | rfl | rfl | rfl
  · rfl
  · rfl
  · show 0 + rkC n f q (g 1) j + rkC n f q (g 0) j = 0 + rkC n f q (g 0) j + rkC n f q (g 1) j
    omega
  · show 0 + rkC n f q (g 2) j + rkC n f q (g 1) j + rkC n f q (g 0) j = 0 + rkC n f q (g 0) j + rkC n f q (g 1) j + rkC n f q (g 2) j
    omega
set_option maxHeartbeats 3200000 in
theorem fnRake_walk (a0 : Option Addr) (len0 cap0 : Nat) (z0 : List Int) (w : World) (w0 : IsBytes w a0 len0 cap0 z0) :
    Calls Try.prog 7 #[.slice a0 len0 cap0] w fun e w' => e = .returned (.bool true) ∧ Below w.heap.size w w' := by
  by_cases hl0 : 1048576 < len0
  · go_enter Try.func7, Try.ntmps7
    go_wp2
    go_ret
    exact ⟨rfl, Below.refl _ _⟩
  go_enter Try.func7, Try.ntmps7
  go_wp2_with fail
  refine (drawRake_any a0 len0 cap0 z0 _ w0).mono ?_
  rintro e W1 ⟨v, n, f, z, dv, m, g, c, rfl, O0, hn, hz, D0, hm, bc⟩
  clear w0
  have hi := fun w h h' => iRakeG v n f z dv m g c w h (by omega) (by omega) h' (by omega)
  have hs := fun w h h' => sRakeG v n f z dv m g c w h (by omega) (by omega) h' (by omega)
  obtain ⟨sa, sc, rfl, -⟩ := O0.form
  obtain ⟨da, dc, rfl, -⟩ := D0.ints
  by_cases hv : rkP n f z m g c
  · obtain ⟨⟨m1, m8⟩, hall⟩ := id hv
    obtain ⟨r1, r2, r3, r4⟩ := (rcB_iff _ _ _ _ _).1 (hall 0 (by omega))
    obtain ⟨p, rfl⟩ : ∃ p : Nat, c = p := ⟨c.toNat, by omega⟩
    rw [rk_yes hv, show ((p : Int)).toNat = p from rfl] at hi hs
    have hX := sgS_size p (rkS n f z g m)
    have hturn := fun u w h h' => iRakeG (.slice sa n sc) n f z u m (fun i => g (m - 1 - i)) p w h (by omega) (by omega) h' (by omega)
    rw [rk_yes ⟨⟨m1, m8⟩, fun k hk => hall (m - 1 - k) (by omega)⟩, show ((p : Int)).toNat = p from rfl, show rkS n f z (fun i => g (m - 1 - i)) m = rkS n f z g m from funext fun j => rk_turned n f z g m hm j] at hturn
    have hone := fun u w h h' => iRakeG (.slice sa n sc) n f z u 1 g p w h (by omega) (by omega) h' (by omega)
    rw [rk_yes ⟨⟨by omega, by omega⟩, fun k hk => hall k (by omega)⟩, show ((p : Int)).toNat = p from rfl, show rkS n f z g 1 = coL n f z (g 0).toNat from funext fun j => by show 0 + coL n f z (g 0).toNat j = _; omega] at hone
    have huser := fun w h => ssUser_any (.slice sa n sc) n f z (g 0) p w h (by omega) (by omega)
    rw [show (rvAns n f z (g 0) p).1 = sgS p (coL n f z (g 0).toNat) by unfold rvAns; rw [hall 0 (by omega)]; simp] at huser
    obtain ⟨X, hXX⟩ : ∃ X, sgS p (rkS n f z g m) = X := ⟨_, rfl⟩
    rw [hXX] at hi hs hX hturn
    obtain ⟨U, hU⟩ : ∃ U, sgS p (coL n f z (g 0).toNat) = U := ⟨_, rfl⟩
    rw [hU] at hone huser
    obtain ⟨G0, hG0⟩ : ∃ G, g 0 = G := ⟨_, rfl⟩
    rw [hG0] at huser
    have HI := Lib.hid hi
    have HS := Lib.hid hs
    have HT := Lib.hid hturn
    have H1 := Lib.hid hone
    have HU := Lib.hid huser
    have HX := Lib.hid hX
    have HG0 := Lib.hid hG0
    clear hi hs hturn hone huser hX hG0 hU hXX hv hall r1 r2 r3 r4
    go_wp2_with fail
    refine (HI.out _ O0.intsC D0).mono ?_
    rintro e W2 ⟨rfl, h2⟩
    have O2 := O0.below h2
    have D2 := D0.below h2
    have b2 := below_then bc (Nat.le_refl _) h2
    clear O0 D0 bc h2
    go_wp2_with fail
    refine (HS.out _ O2.ints D2.ints).mono ?_
    rintro e W3 ⟨rfl, h3⟩
    have O3 := Lib.hid (O2.below h3)
    have D3 := Lib.hid (D2.below h3)
    have b3 := Lib.hid (below_then b2 (Nat.le_refl _) h3)
    have T0 := Lib.hid (OF.empty0 W3 (fun i => g (m - 1 - i)))
    have bT := Lib.hid ((Below.refl W3.heap.size W3).alloc (Nat.le_refl _) (.cells #[] 3))
    clear O2 D2 b2 h3
    have u0 : IntKind.i64.wrap ((m : Int) - 1) = (m : Int) - 1 := IntWalk.i64_in _ (by omega)
    go_wp2
    go_loopw [11, 12] (fun tv t wr => ∃ j : Nat, j ≤ m ∧ t = .int .i64 ((m : Int) - 1 - (j : Int)) ∧ OF wr W3.heap.size tv j (fun i => g (m - 1 - i)) ∧ Below W3.heap.size W3 wr) (fun _ t _ => (intOf t + 1).toNat)
    case atStart => exact ⟨0, by omega, by simp, T0.out, bT.out⟩
    case round =>
      obtain ⟨j, hj, rfl, rO, rb⟩ := hrel
      clear T0 bT u0
      by_cases hlt : j < m
      · obtain ⟨Q, hQ⟩ : ∃ Q, m - 1 - j = Q := ⟨_, rfl⟩
        have p1 : (m : Int) - 1 - (j : Int) = (Q : Int) := by omega
        have p2 : (m : Int) - 1 - ((j + 1 : Nat) : Int) = (Q : Int) - 1 := by omega
        have HQ := Lib.hid p2
        have p4 : Q < m := by omega
        rw [p1]
        have D4 := D3.out.below rb
        obtain ⟨x, rfl, hx, c0⟩ := IntsR.cells D4.ints Q p4
        have i0 : (0 : Int) ≤ (Q : Int) := by omega
        have i1 : (Q : Int) < (m : Int) := by omega
        obtain ⟨Y, hY⟩ : ∃ Y, g Q = Y := ⟨_, rfl⟩
        rw [hY] at c0
        have HE : Hid (g (m - 1 - j) = Y) := Lib.hid (by rw [hQ]; exact hY)
        have bs := rb.size
        clear hQ p1 p2 hx hY D4 p4
        go_wp2_with (at_builtin; refine wpList_append_int rfl (.tmp 71) (.tmp 76) rfl W3.heap.size _ j _ rfl (rO.alloc _) wr.heap.size 1 Y rfl (by simp) (by omega) (by simp; omega) ?_; intro v' w6 O6 g6; have c3 : Below W3.heap.size W3 w6 := (rb.alloc bs _).grown g6 (by simp; omega) (fun q hq => (rO.lt q hq).1); have O7 := Lib.hid (OF.congr (g := fun i => g (m - 1 - i)) O6 (fun i hi => by by_cases e : i < j; (simp only [if_pos e]); (have e2 : i = j := by omega); (subst e2); (simp only [if_neg e]); exact HE.out.symm)); clear rO g6 rb O6)
        go_roundw
        case rel => exact ⟨j + 1, by omega, by rw [HQ.out], O7.out, c3⟩
        case measure => simp [intOf]
      · obtain rfl : j = m := by omega
        have b4 := below_then b3.out (Nat.le_refl _) rb
        have O4 := O3.out.below rb
        have D4 := D3.out.below rb
        have l0 : ¬ (0 : Int) ≤ (j : Int) - 1 - (j : Int) := by omega
        clear O3 D3 b3 rb
        go_wp2_with fail
        refine (HT.out _ _ O4.intsC rO.intsC).mono ?_
        rintro e W5 ⟨rfl, h5⟩
        have O5 := O4.below h5
        have D5 := D4.below h5
        have b5 := below_then b4 (Nat.le_refl _) h5
        clear O4 D4 b4 h5 rO
        obtain ⟨hh, D6⟩ := headC D5 1 1 rfl m1
        go_wp2_with fail
        clear hh
        refine (H1.out _ _ O5.intsC D6).mono ?_
        rintro e W6 ⟨rfl, h6⟩
        have O6 := O5.below h6
        have D7 := D5.below h6
        have b6 := below_then b5 (Nat.le_refl _) h6
        clear O5 D5 D6 b5 h6
        obtain ⟨x, rfl, hx, c0⟩ := IntsR.cells D7.ints 0 (by omega)
        rw [HG0.out] at c0
        have c1 : W6.cell? x = some (.int .i64 G0) := c0
        have i1 : (0 : Int) < (j : Int) := by omega
        have hX := HX.out
        clear hx D7
        go_wp2_with fail
        refine (HU.out _ O6.intsC).mono ?_
        rintro e W7 ⟨rfl, h7⟩
        have b7 := below_then b6 (Nat.le_refl _) h7
        go_wp2
        go_ret
        exact ⟨rfl, b7⟩
  · rw [rk_no hv] at hi hs
    clear hv
    have HI := Lib.hid hi
    have HS := Lib.hid hs
    clear hi hs
    go_wp2_with fail
    refine (HI.out _ O0.intsC D0).mono ?_
    rintro e W2 ⟨rfl, h2⟩
    have O2 := O0.below h2
    have D2 := D0.below h2
    have b2 := below_then bc (Nat.le_refl _) h2
    clear O0 D0 bc h2
    go_wp2_with fail
    refine (HS.out _ O2.ints D2.ints).mono ?_
    rintro e W3 ⟨rfl, h3⟩
    have b3 := below_then b2 (Nat.le_refl _) h3
    go_wp2
    go_ret
    exact ⟨rfl, b3⟩
end Go.Proofs.Ythfcfnamaedffaa
