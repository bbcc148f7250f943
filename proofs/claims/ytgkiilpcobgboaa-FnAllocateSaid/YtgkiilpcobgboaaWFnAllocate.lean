/- The walk of the law FnAllocate. -/
import Derived.Test.YtgkiilpcobgboaaDrawTree
import Derived.Test.YtgkiilpcobgboaaAllocMath2
import Derived.Test.YtgkiilpcobgboaaAppS
import Derived.BigQuiet
namespace Go.Proofs.Ytgkiilpcobgboaa
open Go.RowKit
set_option linter.unusedVariables false
theorem al_free (n : Nat) (F : Nat → ByteArray) (D : Int) : (allocAns n F D).2 = decide (0 < freeAns n F D) := by
  unfold allocAns freeAns
  cases h : usedB n F D with
  | false => simp [noS]
  | true =>
    simp only [if_true]
    obtain ⟨l, hl⟩ : ∃ l, (frL n F D.toNat (tw D.toNat)).length = l := ⟨_, rfl⟩
    rw [hl]
    by_cases e : l = 0
    · subst e; simp [noS]
    · rw [if_neg e]; simp; omega
theorem fa_le (n : Nat) (F : Nat → ByteArray) (D : Int) : freeAns n F D ≤ 64 := by
  unfold freeAns
  cases h : usedB n F D with
  | false => simp
  | true =>
    have hD := ((usedB_iff _ _ _).1 h).2.1
    have h1 := frL_len n F D.toNat (tw D.toNat)
    have h2 : tw D.toNat ≤ 64 := by
      have : (2 : Nat) ^ D.toNat ≤ 2 ^ 6 := Nat.pow_le_pow_right (by omega) (by omega)
      simpa [tw] using this
    simp only [if_true]
    omega
def putF (f : Nat → ByteArray) (n : Nat) (P : ByteArray) (j : Nat) : ByteArray := if j < n then f j else P
def preF (f : Nat → ByteArray) (P : ByteArray) (j : Nat) : ByteArray := if j < 1 then P else f (j - 1)
set_option maxHeartbeats 6400000 in
set_option maxRecDepth 100000 in
theorem fnAllocate_walk (a0 : Option Addr) (len0 cap0 : Nat) (z0 : List Int) (w : World) (w0 : IsBytes w a0 len0 cap0 z0) :
    Calls Try.prog 3 #[.slice a0 len0 cap0] w fun e w' => e = .returned (.bool true) ∧ Below w.heap.size w w' := by
  by_cases hl0 : 1048576 < len0
  · go_enter Try.func3, Try.ntmps3
    go_wp2
    go_ret
    exact ⟨rfl, Below.refl _ _⟩
  go_enter Try.func3, Try.ntmps3
  go_wp2_with fail
  refine (drawTree_any a0 len0 cap0 z0 _ w0).mono ?_
  rintro e w1 ⟨v, n, f, D, B, rfl, O1, hB, hn, hf, d0, d1, bc⟩
  have hff : ∀ i, i < n → (f i).size ≤ 1048576 := fun i hi => Nat.le_trans (hf i hi) (by omega)
  have HI := Lib.hid (fun w h => iAlloc_any v n f D w h (by omega) hff)
  have HS := Lib.hid (fun w h => sAlloc_any v n f D w h (by omega) hff)
  have HIF := Lib.hid (fun w h => iPaths_any v n f D w h (by omega) hff)
  have HSF := Lib.hid (fun w h => sPaths_any v n f D w h (by omega) hff)
  have HM := Lib.hid (fun h => al_math (n := n) (F := f) (D := D) (by omega) h)
  have hok := al_free n f D
  have hp6 := alloc_sz6 n f D
  have hX64 := fa_le n f D
  have HFF := Lib.hid hff
  have HFS := Lib.hid hf
  obtain ⟨X, hX⟩ : ∃ X, freeAns n f D = X := ⟨_, rfl⟩
  obtain ⟨A, hA⟩ : ∃ A, allocAns n f D = A := ⟨_, rfl⟩
  rw [hX] at HIF HSF HM hok hX64
  rw [hA] at HI HS HM hok hp6
  obtain ⟨P, ok⟩ := A
  dsimp only at HI HS HM hok hp6
  have HO1 := Lib.hid O1
  have T0 := Lib.hid O1.tail0
  obtain ⟨av, cv, rfl, -⟩ := id O1.strs
  clear hf w0 O1 hff hX hA
  go_wp2_with fail
  refine (HI.out _ HO1.out.strs).mono ?_
  rintro e w2 ⟨rfl, n2⟩
  have O2 := Lib.hid (HO1.out.below n2)
  have b2 := below_then bc (Nat.le_refl _) n2
  clear HO1 bc n2
  go_wp2_with fail
  refine (HS.out _ O2.out.strs).mono ?_
  rintro e w3 ⟨rfl, n3⟩
  have O3 := Lib.hid (O2.out.below n3)
  have b3 := below_then b2 (Nat.le_refl _) n3
  clear O2 b2 n3
  go_wp2_with fail
  refine (HIF.out _ O3.out.strs).mono ?_
  rintro e w4 ⟨rfl, n4⟩
  have O4 := Lib.hid (O3.out.below n4)
  have b4 := below_then b3 (Nat.le_refl _) n4
  clear O3 b3 n4
  have e1 : (P.toList == P.toList) = true := beq_self_eq_true _
  have e2 : (ok != ok) = false := by simp
  have e3 : (X != X) = false := by simp
  have e4 : (X == X) = true := by simp
  have e5 : (ok == ok) = true := by simp
  go_wp2_with fail
  refine (HSF.out _ O4.out.strs).mono ?_
  rintro e w5 ⟨rfl, n5⟩
  have O5 := Lib.hid (O4.out.below n5)
  have b5 := below_then b4 (Nat.le_refl _) n5
  clear O4 b4 n5
  by_cases hx : 0 < X
  rotate_left
  · have hk : ok = false := by rw [hok]; exact decide_eq_false hx
    subst hk
    clear hok HM
    have hx' : decide (0 < X) = false := decide_eq_false hx
    go_wp2_with fail
    refine (HSF.out _ O5.out.strs).mono ?_
    rintro e w6 ⟨rfl, n6⟩
    have b6 := below_then b5 (Nat.le_refl _) n6
    go_wp2
    go_ret
    exact ⟨rfl, b6⟩
  have hk : ok = true := by rw [hok]; exact decide_eq_true hx
  subst hk
  obtain ⟨k1, k2, k3, k4, k5⟩ := HM.out rfl
  have HX : Hid (∀ i, i < n → ∀ w, Calls Try.prog 10 #[.string P, .string (f i)] w fun e w' => e = .returned (.bool false) ∧ ∃ m, w' = w.drewN m) := Lib.hid (fun i hi w => by
    have := iConf_any P (f i) w (by omega) (by have := HFS.out i hi; omega)
    rw [k3 i hi] at this
    exact this)
  have K4 := Lib.hid k4
  have K5 := Lib.hid k5
  have HB5 := Lib.hid b5
  have HA3 := Lib.hid (fun (j : Nat) => (O5.out.drewN j).strs)
  clear hok HM k3 k4 k5 k1 b5
  go_wp2_with fail
  go_loopw [10] (fun i ww => ∃ k j : Nat, k ≤ n ∧ i = .int .i64 k ∧ ww = w5.drewN j) (fun i _ => n - (intOf i).toNat)
  case atStart => exact ⟨0, 0, by omega, rfl, rfl⟩
  case round =>
    obtain ⟨k, j, hk, rfl, rfl⟩ := hrel
    by_cases hlt : k < n
    · obtain ⟨a', c', e, hc⟩ := HA3.out j
      injection e with q1 _ q3
      subst q1 q3
      obtain ⟨x, rfl, hxw, cx⟩ := hc k hlt
      have hcf := Lib.hid (HX.out k hlt)
      obtain ⟨Y, hY⟩ : ∃ C, f k = C := ⟨_, rfl⟩
      rw [hY] at cx hcf
      have i0 : (0 : Int) ≤ (k : Int) := by omega
      have i1 : (k : Int) < (n : Int) := by omega
      obtain ⟨W, hW⟩ : ∃ W, w5.drewN j = W := ⟨_, rfl⟩
      rw [hW] at cx ⊢
      have HW := Lib.hid hW
      clear hY hc hW hxw
      go_wp2_with fail
      refine (hcf.out _).mono ?_
      rintro e ww ⟨rfl, j2, rfl⟩
      go_wp2
      go_roundw
      case rel =>
        first
          | exact ⟨k + 1, j + j2, by omega, by go_num, by rw [← HW.out, World.drewN_drewN]⟩
          | (refine ⟨_, _, _, _, _, _, _, _, _, _, _, _, _, _, ?_, rfl⟩; exact ⟨k + 1, j + j2, by omega, by go_num, by rw [← HW.out, World.drewN_drewN]⟩)
      case measure => simp [intOf]; omega
    · obtain rfl : k = n := by omega
      have OU := Lib.hid (O5.out.drewN j)
      have b6 := below_drewN HB5.out j
      obtain ⟨W, hW⟩ : ∃ W, w5.drewN j = W := ⟨_, rfl⟩
      rw [hW] at OU b6 ⊢
      clear hW HA3 HX O5 HB5 HI HS HIF HSF
      have hPA : P.size ≤ 1048576 := by omega
      have HPUT := Lib.hid (fun v w h => iPaths_any v (k + 1) (putF f k P) D w h (by omega) (fun i hi => by
        unfold putF; split
        · exact HFF.out i (by assumption)
        · exact hPA))
      rw [K4.out (putF f k P) (fun j hj => if_pos hj) (if_neg (Nat.lt_irrefl k))] at HPUT
      have HPRE := Lib.hid (fun v w h => iAlloc_any v (k + 1) (preF f P) D w h (by omega) (fun i hi => by
        unfold preF; split
        · exact hPA
        · exact HFF.out (i - 1) (by omega)))
      have k5 := K5.out (preF f P) (if_pos (by omega)) (fun j hj => by unfold preF; rw [if_neg (by omega), Nat.add_sub_cancel])
      obtain ⟨G, hG⟩ : ∃ G, allocAns (k + 1) (preF f P) D = G := ⟨_, rfl⟩
      rw [hG] at HPRE k5
      obtain ⟨again, okk⟩ := G
      dsimp only at HPRE k5
      have HK5 := Lib.hid k5
      have E1 := Lib.hid (SF.empty W f)
      have c1 : Below W.heap.size W (W.alloc (.cells #[] 9)) := (Below.refl _ _).alloc (Nat.le_refl _) _
      have U1 := Lib.hid (OU.out.below c1)
      have HC1 := Lib.hid c1
      have HBW := Lib.hid b6
      have hs1 : W.heap.size ≤ (W.alloc (.cells #[] 9)).heap.size := by simp
      obtain ⟨B0, hB0⟩ : ∃ B, W.heap.size = B := ⟨_, rfl⟩
      have HWW := Lib.hid b6.size
      have v1 : IntKind.i64.wrap (X - 1) = X - 1 := IntWalk.i64_in _ (by omega)
      clear k5 hG K4 K5 c1 b6 hB0 B0
      go_wp2_with (first
        | (at_builtin; refine wpList_append_strs rfl (.tmp 95) (.tmp 96) rfl W.heap.size _ 0 f rfl E1.out _ k f rfl U1.out.strs T0.out (by omega) hs1 ?_; intro v4 w4 O4 g4; have O4d : Hid (SF w4 W.heap.size v4 k f) := Lib.hid (by have := O4.congr (g := f) (fun j hj => by rw [if_neg (Nat.not_lt_zero j), Nat.sub_zero]); rwa [Nat.zero_add] at this); have c4 : Hid (Below W.heap.size W w4) := Lib.hid (HC1.out.grown g4 HC1.out.size (fun q hq => (E1.out.lt q hq).1)); have O5 := Lib.hid (O4d.out.alloc (.cells #[.string P] 9)); have c5 := Lib.hid (c4.out.alloc c4.out.size (.cells #[.string P] 9)); have cY : Hid ((w4.alloc (.cells #[.string P] 9)).cell? ⟨w4.heap.size, 0, none⟩ = some (.string P)) := Lib.hid (by simp); have hs5 := c5.out.size; clear O4 g4)
        | (at_builtin; refine wpList_append_str rfl (.tmp 97) (.tmp 99) rfl W.heap.size v4 k f rfl O5.out w4.heap.size 1 P rfl cY.out (by omega) hs5 ?_; intro v6 w6 O6 g6; have O7 : Hid (SF w6 W.heap.size v6 (k + 1) (putF f k P)) := Lib.hid O6; have c6 : Hid (Below W.heap.size W w6) := Lib.hid (c5.out.grown g6 c5.out.size (fun q hq => (O5.out.lt q hq).1)); clear O6 g6))
      refine (HPUT.out _ _ O7.out.strs).mono ?_
      rintro e w7 ⟨rfl, n7⟩
      have c7 := Lib.hid (below_then c6.out (Nat.le_refl _) n7)
      clear O4d c4 O5 c5 cY hs5 c6 n7 O7 E1 U1 hs1 HC1
      have F1 := Lib.hid (SF.one w7 P)
      have c8 := Lib.hid (c7.out.alloc c7.out.size (.cells #[.string P] 9))
      have U8 := Lib.hid (OU.out.below c8.out)
      have hs8 : w7.heap.size ≤ (w7.alloc (.cells #[.string P] 9)).heap.size := by simp
      go_wp2_with (at_builtin; refine wpList_append_strs rfl (.tmp 105) (.tmp 106) rfl w7.heap.size _ 1 (fun _ => P) rfl F1.out _ k f rfl U8.out.strs T0.out (by omega) hs8 ?_; intro v9 w9 O9 g9; have O9d : Hid (SF w9 w7.heap.size v9 (k + 1) (preF f P)) := Lib.hid (by rw [Nat.add_comm k 1]; exact O9); have c9 : Hid (Below W.heap.size W w9) := Lib.hid (c8.out.grown g9 c8.out.size (fun q hq => Nat.le_trans c7.out.size (F1.out.lt q hq).1)); clear O9 g9)
      refine (HPRE.out _ _ O9d.out.strs).mono ?_
      rintro e w10 ⟨rfl, n10⟩
      have c10 := below_then c9.out (Nat.le_refl _) n10
      have FIN := Lib.hid (below_then HBW.out (Nat.le_refl _) c10)
      clear n10 c10 c9 O9d F1 U8 hs8
      have q1 : (((P.size : Nat) : Int) == D) = true := by rw [k2]; simp
      have q2 : (X - 1 == X - 1) = true := by simp
      by_cases qx : X = 1
      · subst qx
        go_wp2
        go_ret
        exact ⟨rfl, FIN.out⟩
      · have q3 : (X == 1) = false := by simp [qx]
        have HQ := Lib.hid (show (!Op.bytesLess again.toList P.toList && !(again.toList == P.toList)) = true by
          rcases HK5.out with h | h
          · exact absurd h qx
          · exact h)
        go_wp2
        go_ret
        exact ⟨ret_bool HQ.out, FIN.out⟩
end Go.Proofs.Ytgkiilpcobgboaa
