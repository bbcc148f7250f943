/- HammingEncode of the program. -/
import Derived.Test.YtabokoodpobnnaaDoorFrm19
import Derived.Test.YtabokoodpobnnaaDoorFrm17
namespace Go.Proofs.YtabokoodpobnnaaDoor
open Go.RowKit Go.Shelf
set_option linter.unusedVariables false
set_option maxRecDepth 100000
set_option maxHeartbeats 1600000 in
theorem iHe_any (z : ByteArray) (w : World) (hs : z.size ≤ 1048576) (hp : PlacesAt w) (h0 : 0 < w.heap.size) :
    Calls Tryd.prog 16 #[.string z] w fun e w' => e = .returned (.tuple #[.string (heAns z).1, .bool (heAns z).2]) ∧ Below w.heap.size w w' := by
  have HV := Lib.hid (fun w => bitsValid_any z w (by omega))
  cases hb : bitsB z with
  | false =>
    have HX := Lib.hid (he_no (z := z) (by rw [hb]; simp))
    rw [hb] at HV
    clear hb hp
    go_enter Tryd.func16, Tryd.ntmps16
    go_wp2_with fail
    refine (HV.out _).mono ?_
    rintro e w1 ⟨rfl, rfl⟩
    go_wp2
    go_ret2
    exact ⟨ret_sA HX.out, Below.refl _ _⟩
  | true =>
    rw [hb] at HV
    obtain ⟨ho, h6⟩ := bits_of2 hb
    by_cases h7 : z.size % 4 = 0
    · obtain ⟨n, hn⟩ : ∃ n, z.size / 4 = n := ⟨_, rfl⟩
      have hzn : z.size = 4 * n := by omega
      have t1 : (z.size : Int) % 4 = 0 := by omega
      have t2 : (z.size : Int) / 4 = (n : Int) := by omega
      by_cases h8 : n * 7 ≤ 600
      · have HX : Hid (heAns z = (strF (7 * n) (encF z), true)) := Lib.hid (by unfold heAns; rw [if_pos ⟨hb, h7, by rw [hn]; exact h8⟩, hn, Nat.mul_comm n 7])
        have HO := Lib.hid ho
        have HP := Lib.hid hp
        clear hb ho h7 hn hp
        go_enter Tryd.func16, Tryd.ntmps16
        go_wp2_with fail
        refine (HV.out _).mono ?_
        rintro e w1 ⟨rfl, rfl⟩
        go_wp2
        clear t1 t2
        go_loopw [4, 5] (fun s i wr => ∃ b : Nat, b ≤ n ∧ i = .int .i64 (4 * b : Nat) ∧ BO wr w.heap.size s (7 * b) (encF z) ∧ Below w.heap.size w wr) (fun _ i _ => z.size - (intOf i).toNat)
        case atStart => exact ⟨0, by omega, by simp, BO.nil _ _ _, Below.refl _ _⟩
        case round =>
          obtain ⟨b, hk, rfl, rO, b0⟩ := hrel
          by_cases hlt : b < n
          · have hle : 4 * b + 4 ≤ z.size := by omega
            have hsB := size_extract z (4 * b) (4 * b + 4) hle
            have hok := okCut HO.out (4 * b) (4 * b + 4) hle
            have hN := fun j (hj : j < 7) => blk_cut hle hj
            have h0r : 0 < wr.heap.size := Nat.lt_of_lt_of_le h0 b0.size
            have hC := blockOf_any (z.extract (4 * b) (4 * b + 4)) wr (by omega) hok (PlacesAt.below HP.out h0 b0) h0r
            have HPE : Hid (4 * (b + 1) = 4 * b + 4) := Lib.hid (by omega)
            obtain ⟨B, hB⟩ : ∃ B, z.extract (4 * b) (4 * b + 4) = B := ⟨_, rfl⟩
            rw [hB] at hC hN
            obtain ⟨P, hP⟩ : ∃ P, 4 * b = P := ⟨_, rfl⟩
            rw [hP] at hB hle HPE ⊢
            obtain ⟨E, hE⟩ : ∃ E, P + 4 = E := ⟨_, rfl⟩
            rw [hE] at hB hle HPE
            have hE' : (P : Int) + 4 = (E : Int) := by omega
            have i0 : (0 : Int) ≤ (P : Int) := by omega
            have i1 : (P : Int) ≤ (E : Int) := by omega
            have i2 : (E : Int) ≤ (z.size : Int) := by omega
            have i3 : (P : Int) < (z.size : Int) := by omega
            have HEN := Lib.hid hE
            have HK := Lib.hid hlt
            have HN := Lib.hid hN
            have HC := Lib.hid hC
            have BB := Lib.hid b0
            clear hsB hok hN hC hP hE hlt hk b0 hle h0r
            go_wp2_with fail
            refine HC.out.mono ?_
            rintro e w1 ⟨g, c, rfl, hg, rG, hb1⟩
            have b1 := below_then BB.out (Nat.le_refl _) hb1
            have O1 := rO.below hb1
            clear hb1 rO
            go_wp2_with (at_builtin; refine wpList_append_bytes rfl (.tmp 28) (.tmp 34) rfl w.heap.size _ (7 * b) (encF z) rfl O1 g 0 7 c (blkV (zb B)) rfl (fun j hj => by rw [Nat.zero_add]; exact rG.2.1 j hj) (by have := HK.out; omega) b1.size ?_; intro v' w' O3 g3)
            have O4 := Lib.hid (O3.congr (g := encF z) (fun i hi => by
              by_cases e : i < 7 * b
              · rw [if_pos e]
              · rw [if_neg e, HN.out _ (by omega)]; congr 1; omega))
            have nb := Lib.hid (b1.grown g3 b1.size (fun q hq => (O1.lt q hq).1))
            clear O3 g3 O1 b1 rG
            go_wp2
            go_roundw
            case rel => exact ⟨b + 1, HK.out, by rw [HPE.out], by rw [show 7 * (b + 1) = 7 * b + 7 by omega]; exact O4.out, nb.out⟩
            case measure => have := HEN.out; simp [intOf]; omega
          · obtain rfl : b = n := by omega
            have j1 : ¬ ((4 * b : Nat) : Int) < (z.size : Int) := by omega
            obtain ⟨P, hP⟩ : ∃ P, 4 * b = P := ⟨_, rfl⟩
            rw [hP] at j1 ⊢
            have hcv := BO.str rO
            clear hP hzn hlt hk rO
            go_wp2
            go_ret2
            exact ⟨ret_sA HX.out, b0⟩
      · have HX := Lib.hid (he_no (z := z) (fun h => h8 (by rw [← hn]; exact h.2.2)))
        clear hb h7 hn hp
        go_enter Tryd.func16, Tryd.ntmps16
        go_wp2_with fail
        refine (HV.out _).mono ?_
        rintro e w1 ⟨rfl, rfl⟩
        go_wp2
        go_ret2
        exact ⟨ret_sA HX.out, Below.refl _ _⟩
    · have HX := Lib.hid (he_no (z := z) (fun h => h7 h.2.1))
      obtain ⟨M, hM⟩ : ∃ M, z.size % 4 = M := ⟨_, rfl⟩
      have t1 : (z.size : Int) % 4 = (M : Int) := by omega
      have t2 : ((M : Int) != 0) = true := by simp; omega
      clear hb h7 hM hp
      go_enter Tryd.func16, Tryd.ntmps16
      go_wp2_with fail
      refine (HV.out _).mono ?_
      rintro e w1 ⟨rfl, rfl⟩
      go_wp2
      go_ret2
      exact ⟨ret_sA HX.out, Below.refl _ _⟩
end Go.Proofs.YtabokoodpobnnaaDoor
