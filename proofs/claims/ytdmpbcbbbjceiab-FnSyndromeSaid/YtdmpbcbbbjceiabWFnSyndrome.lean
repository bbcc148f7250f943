/- The walk of the law FnSyndrome. -/
import Derived.Test.YtdmpbcbbbjceiabBlk
import Derived.Test.YtdmpbcbbbjceiabFrm5
import Derived.Test.YtdmpbcbbbjceiabSsStr
namespace Go.Proofs.Ytdmpbcbbbjceiab
open Go.RowKit
set_option linter.unusedVariables false
set_option maxRecDepth 100000
/-- The syndrome of a sum is the sum of the syndromes. -/
theorem synF_add {f g h : Nat → Nat} : ∀ k, (∀ i, i < k → (h i = 49 ↔ ¬ (f i = 49 ↔ g i = 49))) → synF h k = synF f k ^^^ synF g k
  | 0, _ => by show (0 : Nat) = 0 ^^^ 0; decide
  | k + 1, hh => by
    have ih := synF_add k (fun i hi => hh i (by omega))
    have hk := hh k (by omega)
    simp only [synF]
    by_cases hf : f k = 49 <;> by_cases hg : g k = 49
    · have h1 : ¬ h k = 49 := fun e => (hk.1 e) ⟨fun _ => hg, fun _ => hf⟩
      rw [if_neg h1, if_pos hf, if_pos hg, ih]
      rw [Nat.xor_assoc, ← Nat.xor_assoc (k + 1), Nat.xor_comm (k + 1) (synF g k), Nat.xor_assoc (synF g k), Nat.xor_self, Nat.xor_zero]
    · have h1 : h k = 49 := hk.2 (fun e => hg (e.1 hf))
      rw [if_pos h1, if_pos hf, if_neg hg, ih, Nat.xor_assoc, Nat.xor_assoc, Nat.xor_comm (synF g k)]
    · have h1 : h k = 49 := hk.2 (fun e => hf (e.2 hg))
      rw [if_pos h1, if_neg hf, if_pos hg, ih, Nat.xor_assoc]
    · have h1 : ¬ h k = 49 := fun e => (hk.1 e) ⟨fun a => absurd a hf, fun a => absurd a hg⟩
      rw [if_neg h1, if_neg hf, if_neg hg, ih]
theorem syn_unit : ∀ j, j < 7 → synF (fun i => if i = j then 49 else 48) 7 = j + 1 := by decide
theorem bitsM {z : ByteArray} (h : okB z z.size = true) (h6 : z.size ≤ 600) : bitsB z = true := by unfold bitsB; rw [h, decide_eq_true h6]; rfl
theorem syn_flip {z : ByteArray} (ho : okB z z.size = true) (h7 : z.size = 7) {j : Nat} (hj : j < 7) : synAns (flipS z j) = ((synF (zb z) 7 ^^^ (j + 1) : Nat) : Int) := by
  unfold synAns
  rw [if_pos ⟨bitsM (flipS_ok ho j) (by rw [flipS_size]; omega), by rw [flipS_size]; exact h7⟩]
  congr 1
  rw [← syn_unit j hj]
  refine synF_add 7 fun i hi => ?_
  rw [zb_flipS (by omega)]
  by_cases e : i = j
  · rw [if_pos e, if_pos e]
    rcases okB_zb z ho i (by omega) with x | x <;> rw [x] <;> decide
  · rw [if_neg e, if_neg e]
    rcases okB_zb z ho i (by omega) with x | x <;> rw [x] <;> decide
theorem syn_add {z y : ByteArray} (ho : okB z z.size = true) (h7 : z.size = 7) (hy : okB y y.size = true) (y7 : y.size = 7) : synAns (addS z y) = ((synF (zb z) 7 ^^^ synF (zb y) 7 : Nat) : Int) := by
  unfold synAns
  rw [if_pos ⟨bitsM (addS_ok z y) (by rw [addS_size]; omega), by rw [addS_size]; exact h7⟩]
  congr 1
  refine synF_add 7 fun i hi => ?_
  rw [zb_addS z y i (by omega)]
  rcases okB_zb z ho i (by omega) with x | x <;> rcases okB_zb y hy i (by omega) with u | u <;> rw [x, u] <;> decide
theorem pad4 : ∀ s : Nat, 1 ≤ s → s ≤ 4 → s + modN (-(s : Int)) 4 = 4 := by
  intro s h1 h2
  have h : s = 1 ∨ s = 2 ∨ s = 3 ∨ s = 4 := by omega
  rcases h with rfl | rfl | rfl | rfl <;> decide
theorem many48_ok (n : Nat) : okB (many ⟨#[48]⟩ n) (many ⟨#[48]⟩ n).size = true := okB_of_zb _ fun i hi => by
  left
  rw [many_byte_size] at hi
  rw [zb_many _ _ _ (by show i < 1 * n; omega)]
  show zb ⟨#[48]⟩ (i % 1) = 48
  rw [Nat.mod_one]; rfl
set_option maxHeartbeats 1600000 in
theorem drawSyn_any (a : Option Addr) (len cap : Nat) (zs : List Int) (w : World) (h : IsBytes w a len cap zs) :
    Calls Try.prog 28 #[.slice a len cap] w (DrawBits w) := by
  go_enter Try.func28, Try.ntmps28
  go_wp2_with fail
  refine (open_any a len cap zs _ h).mono ?_
  rintro e w1 ⟨b, ys, rfl, hr, hb, hlb⟩
  go_wp2_with fail
  refine (l1String_bits b 0 3 ys _ hr (by omega) (by omega)).mono ?_
  rintro e w2 ⟨z, q, rfl, hzo, hz, hq, hr2, hg2⟩
  have b2 := below_grown hb (Nat.le_refl _) hg2 hlb
  have hs1 : (z ++ (⟨#[49]⟩ : ByteArray)).size = z.size + 1 := by rw [ByteArray.size_append]; rfl
  have ho1 : okB (z ++ (⟨#[49]⟩ : ByteArray)) (z ++ (⟨#[49]⟩ : ByteArray)).size = true := okApp hzo (by decide)
  have q1 : z.size + (⟨#[49]⟩ : ByteArray).size ≤ 9223372036854775807 := by show z.size + 1 ≤ _; omega
  have hpd := pad4 (z ++ (⟨#[49]⟩ : ByteArray)).size (by omega) (by omega)
  have HP := Lib.hid (fun w => l6Padded_any (z ++ (⟨#[49]⟩ : ByteArray)) 4 w (by omega) (by omega) (by omega))
  have hps : ((z ++ (⟨#[49]⟩ : ByteArray)) ++ many ⟨#[48]⟩ (modN (-((z ++ (⟨#[49]⟩ : ByteArray)).size : Int)) 4)).size = 4 := by rw [ByteArray.size_append, many_byte_size]; exact hpd
  have hpo := okApp ho1 (many48_ok (modN (-((z ++ (⟨#[49]⟩ : ByteArray)).size : Int)) 4))
  obtain ⟨X, hX⟩ : ∃ X, z ++ (⟨#[49]⟩ : ByteArray) = X := ⟨_, rfl⟩
  rw [hX] at HP hps hpo
  obtain ⟨P, hPP⟩ : ∃ P, X ++ many ⟨#[48]⟩ (modN (-(X.size : Int)) 4) = P := ⟨_, rfl⟩
  rw [hPP] at HP hps hpo
  have HPO := Lib.hid hpo
  clear hr hb hg2 hs1 ho1 hpd hpo hPP hzo
  go_wp2_with fail
  refine (HP.out _).mono ?_
  rintro e w' ⟨rfl, rfl⟩
  go_wp2_with fail
  refine (l6Block_any P _ HPO.out hps).mono ?_
  rintro e w3 ⟨y, rfl, hyo, hy7, hB⟩
  have b3 := below_then b2 (Nat.le_refl _) hB
  have hr3 := hr2.below hB
  have HYO := Lib.hid hyo
  clear hB b2 hr2 hyo
  go_wp2_with fail
  refine (l6Harm_any b q ys y _ hr3 (by omega) HYO.out (by omega)).mono ?_
  rintro e w4 ⟨u, q4, rfl, huo, hus, hq4, hr4, hg4⟩
  have b4 := below_grown b3 (Nat.le_refl _) hg4 hlb
  clear hr3 b3 hg4 huo
  go_wp2_with fail
  refine (pick_any b q4 12 ys _ hr4 (by omega) (by omega) (by omega)).mono ?_
  rintro e w5 ⟨k, hk, rfl, hr5, hg5⟩
  have b5 := below_grown b4 (Nat.le_refl _) hg5 hlb
  clear hr4 b4 hg5
  rcases Nat.eq_zero_or_pos k with e0 | e0
  · subst e0
    have q2 : u.size + (⟨#[48]⟩ : ByteArray).size ≤ 9223372036854775807 := by show u.size + 1 ≤ _; omega
    have HU := Lib.hid (show (u ++ (⟨#[48]⟩ : ByteArray)).size ≤ 700 by rw [ByteArray.size_append]; show u.size + 1 ≤ 700; omega)
    go_wp2
    go_ret
    exact ⟨_, rfl, HU.out, b5⟩
  · have t2 : ((k : Int) == 0) = false := beq_eq_false_iff_ne.2 (by omega)
    go_wp2_with fail
    refine (l6Wild_any b _ ys u _ hr5 (by omega) (by omega)).mono ?_
    rintro e w6 ⟨v, q6, rfl, hv, hq6, hr6, hg6⟩
    have b6 := below_grown b5 (Nat.le_refl _) hg6 hlb
    clear hr5 b5 hg6
    go_wp2
    go_ret
    exact ⟨v, rfl, hv, b6⟩
set_option maxHeartbeats 1600000 in
theorem fnSyndrome_walk (a0 : Option Addr) (len0 cap0 : Nat) (z0 : List Int) (a1 : Option Addr) (len1 cap1 : Nat) (z1 : List Int) (w : World) (w0 : IsBytes w a0 len0 cap0 z0) (w1 : IsBytes w a1 len1 cap1 z1) :
    Calls Try.prog 8 #[.slice a0 len0 cap0, .slice a1 len1 cap1] w fun e w' => e = .returned (.bool true) ∧ Below w.heap.size w w' := by
  by_cases hl : 1048576 < len0
  · go_enter Try.func8, Try.ntmps8
    go_wp2
    go_ret
    exact ⟨rfl, Below.refl _ _⟩
  by_cases hl1 : 1048576 < len1
  · go_enter Try.func8, Try.ntmps8
    go_wp2
    go_ret
    exact ⟨rfl, Below.refl _ _⟩
  go_enter Try.func8, Try.ntmps8
  go_wp2_with fail
  refine (drawSyn_any a0 len0 cap0 z0 _ w0).mono ?_
  rintro e W1 ⟨z, rfl, hz, b1⟩
  have w2 := w1.below b1
  clear w0 w1
  have hI := fun w => iSyn_any z w (by omega)
  have hS := fun w => sHSyn_any z w (by omega)
  by_cases hok : bitsB z = true ∧ z.size = 7
  · have hA : synAns z = ((synF (zb z) 7 : Nat) : Int) := by unfold synAns; rw [if_pos hok]
    rw [hA] at hI hS
    have ho : okB z z.size = true := by have := hok.1; unfold bitsB at this; rw [Bool.and_eq_true] at this; exact this.1
    have h7 := hok.2
    have hn8 := synF_lt (zb z) 7 (by omega)
    have HF := Lib.hid (fun j (hj : j < 7) w => ssFlip_any z j w (by omega) (okB_zb z ho j (by omega)))
    have HC := Lib.hid (fun j (hj : j < 7) w => show Calls Try.prog 29 #[.string (flipS z j)] w fun e w' => e = .returned (.int .i64 ((synF (zb z) 7 ^^^ (j + 1) : Nat) : Int)) ∧ Below w.heap.size w w' by
      have := iSyn_any (flipS z j) w (by rw [flipS_size]; omega)
      rw [syn_flip ho h7 hj] at this
      exact this)
    have HAD := Lib.hid (fun (y : ByteArray) (hy : okB y y.size = true) (y7 : y.size = 7) w => show Calls Try.prog 29 #[.string (addS z y)] w fun e w' => e = .returned (.int .i64 ((synF (zb z) 7 ^^^ synF (zb y) 7 : Nat) : Int)) ∧ Below w.heap.size w w' by
      have := iSyn_any (addS z y) w (by rw [addS_size]; omega)
      rw [syn_add ho h7 hy y7] at this
      exact this)
    have HXR := Lib.hid (fun (y : ByteArray) (hy : okB y y.size = true) (y7 : y.size = 7) w => ssXor_any z y w ho hy (by omega) (by omega))
    obtain ⟨n, hn⟩ : ∃ n, synF (zb z) 7 = n := ⟨_, rfl⟩
    rw [hn] at hI hS HC HAD hn8
    have HI := Lib.hid hI
    have HS := Lib.hid hS
    clear hI hS hA hok ho hn
    go_wp2_with fail
    refine (HI.out _).mono ?_
    rintro e w' ⟨rfl, hB⟩
    have c1 := below_then b1 (Nat.le_refl _) hB
    have w3 := w2.below hB
    clear hB b1 w2
    go_wp2_with fail
    refine (HS.out _).mono ?_
    rintro e w' ⟨rfl, hB⟩
    have c2 := below_then c1 (Nat.le_refl _) hB
    have w4 := w3.below hB
    clear hB c1 HI HS w3
    go_wp2_with fail
    refine (drawSyn_any a1 len1 cap1 z1 _ w4).mono ?_
    rintro e W2 ⟨y, rfl, hy, hB⟩
    have c3 := below_then c2 (Nat.le_refl _) hB
    clear hB c2 w4
    have hIy := fun w => iSyn_any y w (by omega)
    by_cases hoy : bitsB y = true ∧ y.size = 7
    · have hAy : synAns y = ((synF (zb y) 7 : Nat) : Int) := by unfold synAns; rw [if_pos hoy]
      rw [hAy] at hIy
      have ho2 : okB y y.size = true := by have := hoy.1; unfold bitsB at this; rw [Bool.and_eq_true] at this; exact this.1
      have hA1 := HAD.out y ho2 hoy.2
      have hX1 := HXR.out y ho2 hoy.2
      have hm8 := synF_lt (zb y) 7 (by omega)
      obtain ⟨m, hm⟩ : ∃ n, synF (zb y) 7 = n := ⟨_, rfl⟩
      rw [hm] at hIy hA1 hm8
      have u1 := xor64 n m (by omega) (by omega)
      obtain ⟨U, hU⟩ : ∃ U, n ^^^ m = U := ⟨_, rfl⟩
      rw [hU] at u1 hA1
      have HIY := Lib.hid hIy
      have HA1 := Lib.hid hA1
      have HX1 := Lib.hid hX1
      clear hIy hAy hoy ho2 hA1 hX1 hm hU HAD HXR
      go_wp2_with fail
      refine (HIY.out _).mono ?_
      rintro e w' ⟨rfl, hB⟩
      have c4 := below_then c3 (Nat.le_refl _) hB
      clear hB c3
      go_wp2
      go_loopw [9] (fun i wr => ∃ k : Nat, 1 ≤ k ∧ k ≤ 8 ∧ i = .int .i64 k ∧ Below w.heap.size w wr) (fun i _ => 8 - (intOf i).toNat)
      case atStart => exact ⟨1, by omega, by omega, rfl, c4⟩
      case round =>
        clear c4
        obtain ⟨k, hk1, hk, rfl, rb⟩ := hrel
        by_cases hlt : k < 8
        · obtain ⟨J, hJ⟩ : ∃ J, k - 1 = J := ⟨_, rfl⟩
          have hf := HF.out J (by omega)
          have hc := HC.out J (by omega)
          rw [show J + 1 = k by omega] at hc
          have v1 : (k : Int) - 1 = (J : Int) := by omega
          have v2 := xor64 n k (by omega) (by omega)
          obtain ⟨V, hV⟩ : ∃ V, n ^^^ k = V := ⟨_, rfl⟩
          rw [hV] at v2 hc
          obtain ⟨G, hG⟩ : ∃ G, flipS z J = G := ⟨_, rfl⟩
          rw [hG] at hf hc
          have HF1 := Lib.hid hf
          have HC1 := Lib.hid hc
          have i1 : (k : Int) ≤ 7 := by omega
          have HK := Lib.hid hlt
          clear hf hc hJ hV hG hlt
          go_wp2_with fail
          refine (HF1.out _).mono ?_
          rintro e w' ⟨rfl, hB⟩
          have d1 := below_then rb (Nat.le_refl _) hB
          clear hB rb
          go_wp2_with fail
          refine (HC1.out _).mono ?_
          rintro e w' ⟨rfl, hB⟩
          have d2 := below_then d1 (Nat.le_refl _) hB
          clear hB d1
          go_wp2
          clear v1 v2
          go_roundw
          case rel => exact ⟨k + 1, by omega, by have := HK.out; omega, by go_num, d2⟩
          case measure => simp [intOf]; omega
        · have i1 : ¬ (k : Int) ≤ 7 := by omega
          have n7 : (n : Int) ≤ 7 := by omega
          go_wp2_with fail
          refine (HX1.out _).mono ?_
          rintro e w' ⟨rfl, hB⟩
          have d1 := below_then rb (Nat.le_refl _) hB
          clear hB rb
          go_wp2_with fail
          refine (HA1.out _).mono ?_
          rintro e w' ⟨rfl, hB⟩
          have d2 := below_then d1 (Nat.le_refl _) hB
          clear hB d1
          go_wp2
          go_ret
          exact ⟨rfl, d2⟩
    · rw [syn_no hoy] at hIy
      have HIY := Lib.hid hIy
      have n7 : (n : Int) ≤ 7 := by omega
      clear hIy hoy HAD HXR
      go_wp2_with fail
      refine (HIY.out _).mono ?_
      rintro e w' ⟨rfl, hB⟩
      have c4 := below_then c3 (Nat.le_refl _) hB
      clear hB c3
      go_wp2
      go_ret
      exact ⟨rfl, c4⟩
  · rw [syn_no hok] at hI hS
    have HI := Lib.hid hI
    have HS := Lib.hid hS
    clear hI hS hok
    go_wp2_with fail
    refine (HI.out _).mono ?_
    rintro e w' ⟨rfl, hB⟩
    have c1 := below_then b1 (Nat.le_refl _) hB
    clear hB b1
    go_wp2_with fail
    refine (HS.out _).mono ?_
    rintro e w' ⟨rfl, hB⟩
    have c2 := below_then c1 (Nat.le_refl _) hB
    clear hB c1
    go_wp2_with fail
    refine (HS.out _).mono ?_
    rintro e w' ⟨rfl, hB⟩
    have c3 := below_then c2 (Nat.le_refl _) hB
    clear hB c2
    go_wp2
    go_ret
    exact ⟨rfl, c3⟩
end Go.Proofs.Ytdmpbcbbbjceiab
