/- A string of bits drawn. Draws of bits for chapter 6. Some bits of a string changed, as drawn. The model's blocks: bits, seven of them. The walk of the law FnSyndrome. Plain mathematics of protected blocks with a bit changed in some of them: all are corrected. -/
import Derived.Test.YtabokoodpobnnaaDoorDraw5
import Derived.Test.YtabokoodpobnnaaDoorSsStr
import Derived.Test.YtabokoodpobnnaaDoorSeqFun3
import Derived.Test.YtabokoodpobnnaaDoorSsFlip
import Derived.Test.YtabokoodpobnnaaDoorFlp
import Derived.Test.YtabokoodpobnnaaDoorChk
import Derived.Test.YtabokoodpobnnaaDoorFrm5
import Derived.Test.YtabokoodpobnnaaDoorHamMath
import Derived.Deep.RegionHeld3
import Derived.BigQuiet
namespace Go.Proofs.YtabokoodpobnnaaDoor
open Go.RowKit
set_option linter.unusedVariables false
set_option maxRecDepth 100000
/-- Bits were drawn: at most m. -/
def BitPost (m b p : Nat) (zs : List Int) (w : World) (e : Ending) (w' : World) : Prop :=
  ∃ (z : ByteArray) (q : Nat), e = .returned (.string z) ∧ okB z z.size = true ∧ z.size ≤ m ∧ q ≤ p + 100 ∧ RdAt w' b q zs ∧ w.grownBy w' (some b)
set_option maxHeartbeats 800000 in
theorem l1String_bits (b p m : Nat) (zs : List Int) (w : World) (hr : RdAt w b p zs) (hp : p ≤ 900000) (hm : m ≤ 90) :
    Calls Tryd.prog 47 #[.pointer (some ⟨b, 0, none⟩), .int .i64 m] w (BitPost m b p zs w) := by
  have hmk := make_bytes_cap m (by omega)
  have hbl := hr.1
  have hr0 := hr.alloc (.cells (madeCells #[.int .u8 0] m) 5)
  have hO := BO.made0 w m (fun _ => 48) (by omega)
  have hg0 := World.grownBy_alloc w (.cells (madeCells #[.int .u8 0] m) 5) (some b)
  go_enter Tryd.func47, Tryd.ntmps47
  go_wp2_with fail
  have hm1 : (m : Int) + 1 = ((m + 1 : Nat) : Int) := by omega
  rw [hm1]
  clear hm1 hmk
  refine (pick_any b p (m + 1) zs _ hr0 (by omega) (by omega) (by omega)).mono ?_
  rintro e w1 ⟨k, hk, rfl, hr1, hg1⟩
  have hO1 := hO.kept hg1 (.inr (by simp [Value.ownBlock]; omega))
  have hg1' := hg0.trans hg1
  have hz1 : w.heap.size < w1.heap.size := by have := hg1.size; simp at this; omega
  clear hr hr0 hO hg0 hg1
  go_wp2
  go_loopw [5, 6] (fun v i wr => ∃ (j n : Nat) (f : Nat → Nat), n + j ≤ m ∧ i = .int .i64 j ∧ v = .slice (some ⟨w.heap.size, 0, none⟩) n m ∧ BO wr w.heap.size (.slice (some ⟨w.heap.size, 0, none⟩) n m) n f ∧ Hid (∀ t, t < n → f t = 48 ∨ f t = 49) ∧ RdAt wr b (p + 1 + n) zs ∧ w.grownBy wr (some b) ∧ w.heap.size < wr.heap.size) (fun _ i _ => (intOf i).toNat)
  case atStart => exact ⟨k, 0, _, by omega, rfl, rfl, hO1, Lib.hid (fun t ht => absurd ht (Nat.not_lt_zero t)), hr1, hg1', hz1⟩
  case round =>
    obtain ⟨j, n, f, hjn, rfl, rfl, rO, rF, rR, rg, rz⟩ := hrel
    clear hO1 hr1 hg1' hz1
    by_cases h0 : 0 < j
    · go_wp2_with fail
      refine (pick_any b (p + 1 + n) 2 zs _ rR (by omega) (by omega) (by omega)).mono ?_
      rintro e w2 ⟨k2, hk2, rfl, hr2, hg2⟩
      have hO2 := rO.kept hg2 (.inr (by simp [Value.ownBlock]; omega))
      have hgg := rg.trans hg2
      have hsz : w.heap.size < w2.heap.size := Nat.lt_of_lt_of_le rz hg2.size
      have u1 : IntKind.u8.wrap (48 + (k2 : Int)) = ((48 + k2 : Nat) : Int) := by rw [show (48 : Int) + (k2 : Int) = ((48 + k2 : Nat) : Int) by omega]; exact IntWalk.u8_in _ (by omega)
      have HF : Hid (∀ t, t < n + 1 → (if t < n then f t else 48 + k2) = 48 ∨ (if t < n then f t else 48 + k2) = 49) := Lib.hid (fun t ht => by
        by_cases e : t < n
        · rw [if_pos e]; exact rF.out t e
        · rw [if_neg e]; omega)
      clear rO rR rg hg2 rF rz
      go_wp2_with (at_builtin; refine wpList_append_bfit rfl _ _ rfl w.heap.size w.heap.size n m _ rfl (hO2.alloc _) w2.heap.size 1 (48 + k2) rfl ?c1 ?c2 ?_; rotate_left 2; intro w' O3 g3)
      case c1 => simp
      case c2 => omega
      have hr3 : RdAt w' b (p + 1 + n + 1) zs := (hr2.alloc _).kept g3 (fun q hq => by cases hq; exact hbl)
      have hg3 : w.grownBy w' (some b) := grown_own (hgg.trans (World.grownBy_alloc w2 _ (some b))) g3 (fun q hq => by cases hq; exact Nat.le_refl _)
      have hz3 : w.heap.size < w'.heap.size := by have := g3.size; simp at this; omega
      clear hO2 hr2 hgg g3 u1 hsz
      go_wp2
      go_roundw
      case rel => exact ⟨j - 1, n + 1, _, by omega, by rw [show ((j - 1 : Nat) : Int) = (j : Int) - 1 by omega], rfl, O3, HF, hr3, hg3, hz3⟩
      case measure => simp [intOf]; omega
    · obtain rfl : j = 0 := by omega
      have hst := rO.text
      have hok : Hid (okB (strF n f) (strF n f).size = true ∧ (strF n f).size = n) := Lib.hid ⟨okB_of_zb _ fun i hi => by
        rw [strF_size] at hi
        have := rF.out i hi
        rw [zb_strF hi (by omega)]; exact this, strF_size _ _⟩
      obtain ⟨z, hz⟩ : ∃ z, strF n f = z := ⟨_, rfl⟩
      rw [hz] at hst hok
      clear hz rF
      go_wp2
      go_ret
      exact ⟨z, p + 1 + n, rfl, hok.out.1, by have := hok.out.2; omega, by omega, rR, rg⟩
end Go.Proofs.YtabokoodpobnnaaDoor
namespace Go.Proofs.YtabokoodpobnnaaDoor
open Go.RowKit
set_option linter.unusedVariables false
set_option maxRecDepth 100000
/-- A string that may be none: not longer than 700. -/
def WildPost (b p : Nat) (zs : List Int) (w : World) (e : Ending) (w' : World) : Prop :=
  ∃ (z : ByteArray) (q : Nat), e = .returned (.string z) ∧ z.size ≤ 700 ∧ q ≤ p + 300 ∧ RdAt w' b q zs ∧ w.grownBy w' (some b)
def DrawBits (w : World) (e : Ending) (w' : World) : Prop := ∃ z : ByteArray, e = .returned (.string z) ∧ z.size ≤ 700 ∧ Below w.heap.size w w'
def DrawBitsInt (w : World) (e : Ending) (w' : World) : Prop := ∃ (z : ByteArray) (k : Int), e = .returned (.tuple #[.string z, .int .i64 k]) ∧ z.size ≤ 700 ∧ FitsI k ∧ Below w.heap.size w w'
theorem many_byte_size (c : UInt8) (n : Nat) : (many ⟨#[c]⟩ n).size = n := by rw [many_size]; show 1 * n = n; omega
theorem TxtAt.two (w : World) (t : TypeId) : TxtAt (w.alloc (.cells #[.string ⟨#[50]⟩, .string ⟨#[120]⟩] t)) w.heap.size 2 1 := by
  refine ⟨by simp, fun i hi => ?_⟩
  have : i = 0 ∨ i = 1 := by omega
  rcases this with rfl | rfl
  · exact ⟨⟨#[50]⟩, by rw [World.cell?_alloc_new]; rfl, Nat.le_refl _⟩
  · exact ⟨⟨#[120]⟩, by rw [World.cell?_alloc_new]; rfl, Nat.le_refl _⟩
set_option maxHeartbeats 1600000 in
theorem l6Wild_any (b p : Nat) (zs : List Int) (z : ByteArray) (w : World) (hr : RdAt w b p zs) (hp : p ≤ 800000) (hz : z.size ≤ 690) :
    Calls Tryd.prog 50 #[.pointer (some ⟨b, 0, none⟩), .string z] w (WildPost b p zs w) := by
  have hbl := hr.1
  go_enter Tryd.func50, Tryd.ntmps50
  go_wp2_with fail
  refine (pick_any b p 40 zs _ hr (by omega) (by omega) (by omega)).mono ?_
  rintro e w1 ⟨k, hk, rfl, hr1, hg1⟩
  clear hr
  by_cases k0 : k = 0
  · subst k0
    clear hk
    go_wp2_with fail
    refine (of_any b (p + 1) w1.heap.size 2 1 zs _ (hr1.alloc _) (TxtAt.two w1 _) hr1.1 (by omega) (by omega) (by omega)).mono ?_
    rintro e w2 ⟨y, q, rfl, hy, hq, hr2, hg2⟩
    have hg2' := hg1.trans ((World.grownBy_alloc w1 _ (some b)).trans hg2)
    have hzs : z.size + y.size ≤ 9223372036854775807 := by omega
    have HZ : Hid ((z ++ y).size ≤ 700) := Lib.hid (by rw [ByteArray.size_append]; omega)
    clear hr1 hg1 hg2
    go_wp2
    go_ret
    exact ⟨_, q, rfl, HZ.out, by omega, hr2, hg2'⟩
  by_cases k1 : k = 1
  · subst k1
    clear hk k0
    go_wp2_with fail
    refine (num_any b (p + 1) zs _ w1.heap.size 3 [600, 601, 599] (hr1.alloc _) (IntsAt.new w1 _ [600, 601, 599]) rfl hr1.1 (by omega) (by omega) (by omega)).mono ?_
    rintro e w2 ⟨v, hv, rfl, hr2, hg2⟩
    obtain ⟨s, rfl, hs5⟩ : ∃ s : Nat, v = s ∧ s ≤ 601 := by
      simp only [List.mem_cons, List.not_mem_nil, or_false] at hv
      exact ⟨v.toNat, by omega, by omega⟩
    have hg2' := hg1.trans ((World.grownBy_alloc w1 _ (some b)).trans hg2)
    have hM := fun w => l9Many_any ⟨#[48]⟩ s w (by show 1 * s ≤ _; omega) (by omega)
    have hsz := many_byte_size 48 s
    obtain ⟨Z, hZ⟩ : ∃ Z, many ⟨#[48]⟩ s = Z := ⟨_, rfl⟩
    rw [hZ] at hM hsz
    have HM := Lib.hid hM
    have HZ := Lib.hid (show Z.size ≤ 700 by omega)
    clear hv hr1 hg1 hg2 hM hsz hZ
    go_wp2_with fail
    refine (HM.out _).mono ?_
    rintro e w' ⟨rfl, rfl⟩
    go_wp2
    go_ret
    exact ⟨Z, p + 1 + 1, rfl, HZ.out, by omega, hr2, hg2'⟩
  · have e0 : ((k : Int) == 0) = false := by simp; omega
    have e1 : ((k : Int) == 1) = false := by simp; omega
    go_wp2
    go_ret
    exact ⟨z, p + 1, rfl, by omega, by omega, hr1, hg1⟩
theorem l6Padded_any (z : ByteArray) (n : Nat) (w : World) (hz : z.size ≤ 1000) (h1 : 1 ≤ n) (h2 : n ≤ 200) :
    Calls Tryd.prog 25 #[.string z, .int .i64 n] w fun e w' => e = .returned (.string (z ++ many ⟨#[48]⟩ (modN (-(z.size : Int)) n))) ∧ w = w' := by
  have hL := fun w => l2Mod_any (-(z.size : Int)) n w h1 (by omega)
  have hl := modN_lt (-(z.size : Int)) n (by omega)
  obtain ⟨m, hm⟩ : ∃ m, modN (-(z.size : Int)) n = m := ⟨_, rfl⟩
  rw [hm] at hL hl ⊢
  have hM := fun w => l9Many_any ⟨#[48]⟩ m w (by show 1 * m ≤ _; omega) (by omega)
  have hs := many_byte_size 48 m
  obtain ⟨Y, hY⟩ : ∃ Y, many ⟨#[48]⟩ m = Y := ⟨_, rfl⟩
  rw [hY] at hM hs ⊢
  have hq : z.size + Y.size ≤ 9223372036854775807 := by omega
  have HL := Lib.hid hL
  have HM := Lib.hid hM
  clear hL hM hm hY hs hl
  go_enter Tryd.func25, Tryd.ntmps25
  go_wp2_with fail
  refine (HL.out _).mono ?_
  rintro e w' ⟨rfl, rfl⟩
  go_wp2_with fail
  refine (HM.out _).mono ?_
  rintro e w' ⟨rfl, rfl⟩
  go_wp2
  go_ret
  exact ⟨rfl, rfl⟩
theorem padded_size (z : ByteArray) (n : Nat) (h1 : 1 ≤ n) : (z ++ many ⟨#[48]⟩ (modN (-(z.size : Int)) n)).size ≤ z.size + n := by
  have hl := modN_lt (-(z.size : Int)) n (by omega)
  rw [ByteArray.size_append, many_byte_size]; omega
end Go.Proofs.YtabokoodpobnnaaDoor
namespace Go.Proofs.YtabokoodpobnnaaDoor
open Go.RowKit
set_option linter.unusedVariables false
set_option maxRecDepth 100000
/-- A string with some bits changed. -/
def HarmPost (N b p : Nat) (zs : List Int) (w : World) (e : Ending) (w' : World) : Prop :=
  ∃ (y : ByteArray) (q : Nat), e = .returned (.string y) ∧ okB y y.size = true ∧ y.size = N ∧ q ≤ p + 10 ∧ RdAt w' b q zs ∧ w.grownBy w' (some b)
theorem mod_val (i n : Nat) : (i : Int).tmod (n : Int) = ((i % n : Nat) : Int) := by
  rw [Int.tmod_eq_emod_of_nonneg (by omega)]; exact (Int.natCast_emod i n).symm
set_option maxHeartbeats 1600000 in
theorem l6Harm_any (b p : Nat) (zs : List Int) (z : ByteArray) (w : World) (hr : RdAt w b p zs) (hp : p ≤ 800000) (ho : okB z z.size = true) (hz : z.size ≤ 700) :
    Calls Tryd.prog 48 #[.pointer (some ⟨b, 0, none⟩), .string z] w (HarmPost z.size b p zs w) := by
  have hbl := hr.1
  obtain ⟨N, hN⟩ : ∃ N, z.size = N := ⟨_, rfl⟩
  rw [hN] at hz
  rw [hN]
  have HN := Lib.hid hN
  have HO := Lib.hid ho
  clear hN ho
  go_enter Tryd.func48, Tryd.ntmps48
  go_wp2_with fail
  refine (num_any b p zs _ w.heap.size 5 [0, 1, 0, 2, 3] (hr.alloc _) (IntsAt.new w _ [0, 1, 0, 2, 3]) rfl hr.1 (by omega) (by omega) (by omega)).mono ?_
  rintro e w1 ⟨v, hv, rfl, hr1, hg1⟩
  obtain ⟨c, rfl, hc3⟩ : ∃ c : Nat, v = c ∧ c ≤ 3 := by
    simp only [List.mem_cons, List.not_mem_nil, or_false] at hv
    exact ⟨v.toNat, by omega, by omega⟩
  have hg := (World.grownBy_alloc w _ (some b)).trans hg1
  clear hr hv hg1
  go_wp2
  go_loopw [1, 5] (fun s n wr => ∃ (j q : Nat) (y : ByteArray), j ≤ 3 ∧ n = .int .i64 j ∧ s = .string y ∧ Hid (okB y y.size = true) ∧ y.size = N ∧ q + 2 * j ≤ p + 10 ∧ RdAt wr b q zs ∧ w.grownBy wr (some b)) (fun _ n _ => (intOf n).toNat)
  case atStart => exact ⟨c, p + 1, z, hc3, rfl, rfl, HO, HN.out, by omega, hr1, hg⟩
  case round =>
    clear hr1 hg
    obtain ⟨j, q, y, hj, rfl, rfl, rO, rN, rq, rR, rg⟩ := hrel
    by_cases h0 : 0 < j
    · have j0 : (0 : Int) < (j : Int) := by omega
      by_cases hN0 : 0 < N
      · have n0 : (0 : Int) < (N : Int) := by omega
        have n1 : ¬ (N : Int) = 0 := by omega
        have n2 : ((N : Int) == 0) = false := beq_eq_false_iff_ne.2 (by omega)
        go_wp2_with fail
        refine (pick_any b q 256 zs _ rR (by omega) (by omega) (by omega)).mono ?_
        rintro e w2 ⟨k1, hk1, rfl, hr2, hg2⟩
        go_wp2_with fail
        refine (pick_any b (q + 1) 256 zs _ hr2 (by omega) (by omega) (by omega)).mono ?_
        rintro e w3 ⟨k2, hk2, rfl, hr3, hg3⟩
        have hgg := rg.trans (hg2.trans hg3)
        obtain ⟨S, hS⟩ : ∃ S, k1 + k2 = S := ⟨_, rfl⟩
        have v1 : (k1 : Int) + (k2 : Int) = (S : Int) := by omega
        have v2 := mod_val S N
        have hl := Nat.mod_lt S hN0
        have HF := Lib.hid (fun w => l6Flip_any y (S % N) w (by rw [rN]; exact hl) rO.out (by omega))
        have HFO := Lib.hid (flipS_ok rO.out (S % N))
        have HFS := Lib.hid (show (flipS y (S % N)).size = N by rw [flipS_size, rN])
        obtain ⟨M, hM⟩ : ∃ M, S % N = M := ⟨_, rfl⟩
        rw [hM] at v2 HF HFO HFS
        obtain ⟨Y, hY⟩ : ∃ Y, flipS y M = Y := ⟨_, rfl⟩
        rw [hY] at HF HFO HFS
        clear hS hM hY hl rR rg hr2 hg2 hg3 rO
        go_wp2_with fail
        refine (HF.out _).mono ?_
        rintro e w4 ⟨rfl, hB⟩
        have hr4 := hr3.below hB
        have hg4 := hgg.trans (grow hB (some b))
        clear hB hr3 hgg v1 v2
        go_wp2
        go_roundw
        case rel => exact ⟨j - 1, q + 1 + 1, Y, by omega, by rw [show ((j - 1 : Nat) : Int) = (j : Int) - 1 by omega], rfl, HFO, HFS.out, by omega, hr4, hg4⟩
        case measure => simp [intOf]; omega
      · have n0 : ¬ (0 : Int) < (N : Int) := by omega
        go_wp2
        go_ret
        exact ⟨y, q, rfl, rO.out, rN, by omega, rR, rg⟩
    · have j0 : ¬ (0 : Int) < (j : Int) := by omega
      go_wp2
      go_ret
      exact ⟨y, q, rfl, rO.out, rN, by omega, rR, rg⟩
end Go.Proofs.YtabokoodpobnnaaDoor
namespace Go.Proofs.YtabokoodpobnnaaDoor
open Go.RowKit
set_option linter.unusedVariables false
set_option maxRecDepth 100000
set_option maxHeartbeats 1600000 in
theorem l6Block_any (z : ByteArray) (w : World) (ho : okB z z.size = true) (h4 : z.size = 4) :
    Calls Tryd.prog 60 #[.string z] w (BlkPost w) := by
  have s1 := size_extract z 0 1 (by omega)
  have s2 := size_extract z 1 4 (by omega)
  have o1 := okCut ho 0 1 (by omega)
  have o2 := okCut ho 1 4 (by omega)
  obtain ⟨A, hA⟩ : ∃ A, z.extract 0 1 = A := ⟨_, rfl⟩
  obtain ⟨D, hD⟩ : ∃ A, z.extract 1 4 = A := ⟨_, rfl⟩
  rw [hA] at s1 o1
  rw [hD] at s2 o2
  have oB : okB ((((⟨#[48, 48]⟩ : ByteArray) ++ A) ++ ⟨#[48]⟩) ++ D) ((((⟨#[48, 48]⟩ : ByteArray) ++ A) ++ ⟨#[48]⟩) ++ D).size = true := okApp (okApp (okApp (by decide) o1) (by decide)) o2
  have sB : ((((⟨#[48, 48]⟩ : ByteArray) ++ A) ++ ⟨#[48]⟩) ++ D).size = 7 := by
    rw [ByteArray.size_append, ByteArray.size_append, ByteArray.size_append, s1, s2]; rfl
  obtain ⟨B, hB⟩ : ∃ B, (((⟨#[48, 48]⟩ : ByteArray) ++ A) ++ ⟨#[48]⟩) ++ D = B := ⟨_, rfl⟩
  rw [hB] at oB sB
  have HC := Lib.hid (fun (a b c : Nat) (W : World) (t : TypeId) (h : (1 ≤ a ∧ a ≤ 7) ∧ (1 ≤ b ∧ b ≤ 7) ∧ 1 ≤ c ∧ c ≤ 7) => l6Check_any B W.heap.size (fun i => if i = 0 then a else if i = 1 then b else c) (W.alloc (.cells #[.int .i64 a, .int .i64 b, .int .i64 c] t)) (three_cells W t a b c) (fun i hi => by
    rw [sB]
    by_cases e0 : i = 0
    · subst e0; exact h.1
    · by_cases e1 : i = 1
      · subst e1; exact h.2.1
      · simp only [if_neg e0, if_neg e1]; exact h.2.2) oB (by omega))
  have hl := fun p => ckF_lt B p 3
  have HL := Lib.hid hl
  have x1 : A.size = 1 := by omega
  have x2 : D.size = 3 := by omega
  have O1 := Lib.hid o1
  have O2 := Lib.hid o2
  clear s1 s2 o1 o2 oB sB ho hl
  go_enter Tryd.func60, Tryd.ntmps60
  go_wp2_with fail
  go_quiet (fail)
  have b1 := below_drewN (Below.refl w.heap.size w) nq
  obtain ⟨W1, hW1⟩ : ∃ W, w.drewN nq = W := ⟨_, rfl⟩
  rw [hW1] at b1 ⊢
  clear hW1
  go_wp2_with fail
  refine (HC.out 3 5 7 _ _ (by omega)).mono ?_
  rintro e w2 ⟨rfl, hb2⟩
  have b2 := below_then (b1.alloc b1.size _) (Nat.le_refl _) hb2
  obtain ⟨Y2, hY2⟩ : ∃ Y, strF 1 (fun _ => 48 + ckF B (fun i => if i = 0 then 3 else if i = 1 then 5 else 7) 3) = Y := ⟨_, rfl⟩
  have oY2 := Lib.hid (show okB Y2 Y2.size = true by rw [← hY2]; exact okOne (HL.out _))
  have sY2 : Y2.size = 1 := by rw [← hY2]; exact strF_size _ _
  rw [hY2]
  clear hb2 b1 hY2
  go_wp2_with fail
  refine (HC.out 3 6 7 _ _ (by omega)).mono ?_
  rintro e w3 ⟨rfl, hb3⟩
  have b3 := below_then (b2.alloc b2.size _) (Nat.le_refl _) hb3
  obtain ⟨Y3, hY3⟩ : ∃ Y, strF 1 (fun _ => 48 + ckF B (fun i => if i = 0 then 3 else if i = 1 then 6 else 7) 3) = Y := ⟨_, rfl⟩
  have oY3 := Lib.hid (show okB Y3 Y3.size = true by rw [← hY3]; exact okOne (HL.out _))
  have sY3 : Y3.size = 1 := by rw [← hY3]; exact strF_size _ _
  rw [hY3]
  clear hb3 b2 hY3
  go_wp2_with fail
  refine (HC.out 5 6 7 _ _ (by omega)).mono ?_
  rintro e w4 ⟨rfl, hb4⟩
  have b4 := below_then (b3.alloc b3.size _) (Nat.le_refl _) hb4
  obtain ⟨Y4, hY4⟩ : ∃ Y, strF 1 (fun _ => 48 + ckF B (fun i => if i = 0 then 5 else if i = 1 then 6 else 7) 3) = Y := ⟨_, rfl⟩
  have oY4 := Lib.hid (show okB Y4 Y4.size = true by rw [← hY4]; exact okOne (HL.out _))
  have sY4 : Y4.size = 1 := by rw [← hY4]; exact strF_size _ _
  rw [hY4]
  clear hb4 b3 hY4
  go_wp2_with fail
  go_quiet (fail)
  have b5 := below_drewN b4 nq
  go_wp2
  go_ret
  refine ⟨_, rfl, okApp (okApp (okApp (okApp oY2.out oY3.out) O1.out) oY4.out) O2.out, ?_, b5⟩
  rw [ByteArray.size_append, ByteArray.size_append, ByteArray.size_append, ByteArray.size_append]; omega
end Go.Proofs.YtabokoodpobnnaaDoor
namespace Go.Proofs.YtabokoodpobnnaaDoor
open Go.RowKit
set_option linter.unusedVariables false
set_option maxRecDepth 100000
/-- The syndrome of a sum is the sum of the syndromes. -/
theorem synF_add {f g h : Nat → Nat} : ∀ k, (∀ i, i < k → (h i = 49 ↔ ¬ (f i = 49 ↔ g i = 49))) → synF h k = synF f k ^^^ synF g k
  | 0, _ => by show (0 : Nat) = 0 ^^^ 0; decide
  | k + 1, hh => by
    have ih := synF_add k (fun i hi => hh i (by omega))
    have hk := hh k (by omega)
    simp only [synF]
    by_cases hf : f k = 49 <;> by_cases hg : g k = 49
    · have h1 : ¬ h k = 49 := fun e => (hk.1 e) ⟨fun _ => hg, fun _ => hf⟩
      rw [if_neg h1, if_pos hf, if_pos hg, ih]
      rw [Nat.xor_assoc, ← Nat.xor_assoc (k + 1), Nat.xor_comm (k + 1) (synF g k), Nat.xor_assoc (synF g k), Nat.xor_self, Nat.xor_zero]
    · have h1 : h k = 49 := hk.2 (fun e => hg (e.1 hf))
      rw [if_pos h1, if_pos hf, if_neg hg, ih, Nat.xor_assoc, Nat.xor_assoc, Nat.xor_comm (synF g k)]
    · have h1 : h k = 49 := hk.2 (fun e => hf (e.2 hg))
      rw [if_pos h1, if_neg hf, if_pos hg, ih, Nat.xor_assoc]
    · have h1 : ¬ h k = 49 := fun e => (hk.1 e) ⟨fun a => absurd a hf, fun a => absurd a hg⟩
      rw [if_neg h1, if_neg hf, if_neg hg, ih]
theorem syn_unit : ∀ j, j < 7 → synF (fun i => if i = j then 49 else 48) 7 = j + 1 := by decide
theorem bitsM {z : ByteArray} (h : okB z z.size = true) (h6 : z.size ≤ 600) : bitsB z = true := by unfold bitsB; rw [h, decide_eq_true h6]; rfl
theorem syn_flip {z : ByteArray} (ho : okB z z.size = true) (h7 : z.size = 7) {j : Nat} (hj : j < 7) : synAns (flipS z j) = ((synF (zb z) 7 ^^^ (j + 1) : Nat) : Int) := by
  unfold synAns
  rw [if_pos ⟨bitsM (flipS_ok ho j) (by rw [flipS_size]; omega), by rw [flipS_size]; exact h7⟩]
  congr 1
  rw [← syn_unit j hj]
  refine synF_add 7 fun i hi => ?_
  rw [zb_flipS (by omega)]
  by_cases e : i = j
  · rw [if_pos e, if_pos e]
    rcases okB_zb z ho i (by omega) with x | x <;> rw [x] <;> decide
  · rw [if_neg e, if_neg e]
    rcases okB_zb z ho i (by omega) with x | x <;> rw [x] <;> decide
theorem syn_add {z y : ByteArray} (ho : okB z z.size = true) (h7 : z.size = 7) (hy : okB y y.size = true) (y7 : y.size = 7) : synAns (addS z y) = ((synF (zb z) 7 ^^^ synF (zb y) 7 : Nat) : Int) := by
  unfold synAns
  rw [if_pos ⟨bitsM (addS_ok z y) (by rw [addS_size]; omega), by rw [addS_size]; exact h7⟩]
  congr 1
  refine synF_add 7 fun i hi => ?_
  rw [zb_addS z y i (by omega)]
  rcases okB_zb z ho i (by omega) with x | x <;> rcases okB_zb y hy i (by omega) with u | u <;> rw [x, u] <;> decide
theorem pad4 : ∀ s : Nat, 1 ≤ s → s ≤ 4 → s + modN (-(s : Int)) 4 = 4 := by
  intro s h1 h2
  have h : s = 1 ∨ s = 2 ∨ s = 3 ∨ s = 4 := by omega
  rcases h with rfl | rfl | rfl | rfl <;> decide
theorem many48_ok (n : Nat) : okB (many ⟨#[48]⟩ n) (many ⟨#[48]⟩ n).size = true := okB_of_zb _ fun i hi => by
  left
  rw [many_byte_size] at hi
  rw [zb_many _ _ _ (by show i < 1 * n; omega)]
  show zb ⟨#[48]⟩ (i % 1) = 48
  rw [Nat.mod_one]; rfl
end Go.Proofs.YtabokoodpobnnaaDoor
namespace Go.Proofs.YtabokoodpobnnaaDoor
open Go.RowKit
set_option linter.unusedVariables false
set_option maxRecDepth 100000
theorem blk_syn_all : (List.range 16).all (fun b => Nat.beq (synF (blkV (bitF b)) 7) 0) = true := by kernel_rfl
theorem blk_syn {q : Nat → Nat} (h : ∀ i, i < 4 → q i = 48 ∨ q i = 49) : synF (blkV q) 7 = 0 := by
  obtain ⟨b, hb, e⟩ := as_bits' 4 q h
  have h1 := Nat.eq_of_beq_eq_true (List.all_eq_true.1 blk_syn_all b (List.mem_range.2 hb))
  rw [← h1]
  exact synF_congr 7 fun i hi => blkV_congr e hi
theorem blk_bit {q : Nat → Nat} (h : ∀ i, i < 4 → q i = 48 ∨ q i = 49) {j : Nat} (hj : j < 7) : blkV q j = 48 ∨ blkV q j = 49 := by
  unfold blkV
  by_cases e0 : j = 0
  · rw [if_pos e0]; exact ck3_bit _ _ _
  · rw [if_neg e0]
    by_cases e1 : j = 1
    · rw [if_pos e1]; exact ck3_bit _ _ _
    · rw [if_neg e1]
      by_cases e2 : j = 2
      · rw [if_pos e2]; exact h 0 (by omega)
      · rw [if_neg e2]
        by_cases e3 : j = 3
        · rw [if_pos e3]; exact ck3_bit _ _ _
        · rw [if_neg e3]; exact h _ (by omega)
/-- A block with the bit of place k changed, from 1 on; none for 0. -/
def chgF (f : Nat → Nat) (k j : Nat) : Nat := if j + 1 = k then 97 - f j else f j
theorem chgF_zero (f : Nat → Nat) (j : Nat) : chgF f 0 j = f j := if_neg (by omega)
theorem chg_syn {f : Nat → Nat} (hb : ∀ j, j < 7 → f j = 48 ∨ f j = 49) (h0 : synF f 7 = 0) {k : Nat} (hk : k ≤ 7) : synF (chgF f k) 7 = k := by
  cases k with
  | zero => rw [synF_congr 7 (fun i hi => chgF_zero f i), h0]
  | succ k =>
    have := synF_add (f := f) (g := fun i => if i = k then 49 else 48) (h := chgF f (k + 1)) 7 (fun i hi => by
      unfold chgF
      by_cases e : i = k
      · rw [if_pos (show i + 1 = k + 1 by omega), if_pos e]
        rcases hb i hi with x | x <;> rw [x] <;> decide
      · rw [if_neg (show ¬ i + 1 = k + 1 by omega), if_neg e]
        rcases hb i hi with x | x <;> rw [x] <;> decide)
    rw [this, h0, syn_unit k (by omega), Nat.zero_xor]
theorem chg_cor {f : Nat → Nat} (hb : ∀ j, j < 7 → f j = 48 ∨ f j = 49) (h0 : synF f 7 = 0) {k j : Nat} (hk : k ≤ 7) (hj : j < 7) : corF (chgF f k) j = f j := by
  unfold corF
  rw [chg_syn hb h0 hk]
  have := hb j hj
  by_cases e : k = j + 1
  · rw [if_pos e]; unfold chgF; rw [if_pos e.symm]; omega
  · rw [if_neg e]; unfold chgF; rw [if_neg (fun h => e h.symm)]
theorem chg_bit {f : Nat → Nat} (hb : ∀ j, j < 7 → f j = 48 ∨ f j = 49) (k : Nat) {j : Nat} (hj : j < 7) : chgF f k j = 48 ∨ chgF f k j = 49 := by
  have := hb j hj
  unfold chgF
  split <;> omega
/-- The block of so many bits. -/
def encB (z : ByteArray) (b : Nat) (j : Nat) : Nat := encF z (7 * b + j)
theorem encB_blk (z : ByteArray) (b : Nat) {j : Nat} (hj : j < 7) : encB z b j = blkV (fun k => zb z (4 * b + k)) j := by
  unfold encB encF
  rw [show (7 * b + j) / 7 = b by omega, show (7 * b + j) % 7 = j by omega]
/-- The place that the law changes in a block. -/
def plK (L b : Nat) : Nat := (L + b * b) % 8
theorem plK_le (L b : Nat) : plK L b ≤ 7 := by unfold plK; omega
def upK (L t b : Nat) : Nat := if b < t then plK L b else 0
theorem upK_le (L t b : Nat) : upK L t b ≤ 7 := by have := plK_le L b; unfold upK; split <;> omega
def cxF (z : ByteArray) (L t p : Nat) : Nat := chgF (encB z (p / 7)) (upK L t (p / 7)) (p % 7)
def cxS (z : ByteArray) (L t : Nat) : ByteArray := strF (z.size / 4 * 7) (cxF z L t)
/-- How many blocks are changed. -/
def kN (g : Nat → Nat) : Nat → Nat
  | 0 => 0
  | b + 1 => kN g b + if g b = 0 then 0 else 1
theorem kN_le (g : Nat → Nat) : ∀ b, kN g b ≤ b
  | 0 => Nat.le_refl _
  | b + 1 => by have := kN_le g b; simp only [kN]; split <;> omega
theorem kN_congr {g h : Nat → Nat} : ∀ b, (∀ i, i < b → g i = h i) → kN g b = kN h b
  | 0, _ => rfl
  | b + 1, e => by simp only [kN]; rw [kN_congr b (fun i hi => e i (by omega)), e b (by omega)]
theorem kN_zero : ∀ b, kN (fun _ => 0) b = 0
  | 0 => rfl
  | b + 1 => by simp only [kN]; rw [kN_zero b]; rfl
theorem kN_up0 (L m : Nat) : kN (upK L 0) m = 0 := by
  rw [kN_congr (g := upK L 0) (h := fun _ => 0) m (fun i _ => by unfold upK; rw [if_neg (by omega)]), kN_zero]
theorem kN_upm (L m : Nat) : kN (upK L m) m = kN (plK L) m := kN_congr m (fun i hi => by unfold upK; rw [if_pos hi])
theorem cxS_size (z : ByteArray) (L t : Nat) : (cxS z L t).size = z.size / 4 * 7 := strF_size _ _
theorem encB_bit {z : ByteArray} (hok : okB z z.size = true) {b : Nat} (hb : b < z.size / 4) : ∀ j, j < 7 → encB z b j = 48 ∨ encB z b j = 49 := fun j hj => by
  rw [encB_blk z b hj]
  exact blk_bit (fun k hk => okB_zb z hok _ (by omega)) hj
theorem encB_syn {z : ByteArray} (hok : okB z z.size = true) {b : Nat} (hb : b < z.size / 4) : synF (encB z b) 7 = 0 := by
  rw [synF_congr 7 (fun i hi => encB_blk z b hi)]
  exact blk_syn (fun k hk => okB_zb z hok _ (by omega))
theorem cxF_bit {z : ByteArray} (hok : okB z z.size = true) (L t : Nat) {p : Nat} (hp : p < z.size / 4 * 7) : cxF z L t p = 48 ∨ cxF z L t p = 49 :=
  chg_bit (encB_bit hok (by omega)) _ (by omega)
theorem zb_cxS {z : ByteArray} (hok : okB z z.size = true) (L t : Nat) {p : Nat} (hp : p < z.size / 4 * 7) : zb (cxS z L t) p = cxF z L t p :=
  zb_strF hp (by have := cxF_bit hok L t hp; omega)
theorem cxS_ok {z : ByteArray} (hok : okB z z.size = true) (L t : Nat) : okB (cxS z L t) (cxS z L t).size = true := okB_of_zb _ fun i hi => by
  rw [cxS_size] at hi
  rw [zb_cxS hok L t hi]
  exact cxF_bit hok L t hi
theorem blkF_cxS {z : ByteArray} (hok : okB z z.size = true) (L t : Nat) {b j : Nat} (hb : b < z.size / 4) (hj : j < 7) : blkF (cxS z L t) b j = chgF (encB z b) (upK L t b) j := by
  unfold blkF
  rw [zb_cxS hok L t (by omega)]
  unfold cxF
  rw [show (7 * b + j) / 7 = b by omega, show (7 * b + j) % 7 = j by omega]
theorem cnt_cxS {z : ByteArray} (hok : okB z z.size = true) (L t : Nat) : ∀ b, b ≤ z.size / 4 → cntF (cxS z L t) b = kN (upK L t) b
  | 0, _ => rfl
  | b + 1, h => by
    simp only [cntF, kN]
    rw [cnt_cxS hok L t b (by omega), synF_congr 7 (fun i hi => blkF_cxS hok L t (by omega) hi), chg_syn (encB_bit hok (by omega)) (encB_syn hok (by omega)) (upK_le L t b)]
theorem plF4_blk (q : Nat → Nat) {i : Nat} (hi : i < 4) : blkV q (plF4 i) = q i := by
  have : i = 0 ∨ i = 1 ∨ i = 2 ∨ i = 3 := by omega
  rcases this with rfl | rfl | rfl | rfl <;> rfl
/-- The changed blocks are decoded to the bits. -/
theorem hd_cxS {z : ByteArray} (hok : okB z z.size = true) (h4 : z.size % 4 = 0) (h6 : z.size / 4 * 7 ≤ 600) (L t : Nat) : hdAns (cxS z L t) = (z, ((kN (upK L t) (z.size / 4) : Nat) : Int), true) := by
  have hs := cxS_size z L t
  unfold hdAns
  rw [if_pos ⟨bitsM (cxS_ok hok L t) (by omega), by omega⟩, hs, show z.size / 4 * 7 / 7 = z.size / 4 by omega, cnt_cxS hok L t _ (Nat.le_refl _)]
  have e : z = strF (z.size / 4 * 4) (decF (cxS z L t)) := strF_of _ _ _ (by omega) fun i hi => by
    unfold decF
    rw [corF_congr (fun j hj => blkF_cxS hok L t (show i / 4 < z.size / 4 by omega) hj) (plF4_lt _), chg_cor (encB_bit hok (by omega)) (encB_syn hok (by omega)) (upK_le L t _) (plF4_lt _), encB_blk z _ (plF4_lt _), plF4_blk _ (by omega)]
    rw [show 4 * (i / 4) + i % 4 = i by omega]
  rw [← e]
theorem cxS_start {z : ByteArray} (L : Nat) : cxS z L 0 = strF (z.size / 4 * 7) (encF z) := strF_congr fun i hi => by
  unfold cxF upK
  rw [if_neg (by omega), chgF_zero]
  unfold encB
  rw [show 7 * (i / 7) + i % 7 = i by omega]
theorem cxS_same {z : ByteArray} {L t : Nat} (h : plK L t = 0) : cxS z L (t + 1) = cxS z L t := strF_congr fun i hi => by
  unfold cxF
  congr 1
  unfold upK
  by_cases e : i / 7 = t
  · rw [e, if_pos (by omega), if_neg (by omega), h]
  · by_cases e2 : i / 7 < t
    · rw [if_pos (by omega), if_pos e2]
    · rw [if_neg (by omega), if_neg e2]
theorem cxS_flip {z : ByteArray} (hok : okB z z.size = true) {L t k : Nat} (ht : t < z.size / 4) (h : plK L t = k + 1) : flipS (cxS z L t) (7 * t + k) = cxS z L (t + 1) := by
  have hk7 := plK_le L t
  refine strF_of _ _ _ (by rw [flipS_size, cxS_size]) fun i hi => ?_
  rw [zb_flipS (by rw [cxS_size]; exact hi), zb_cxS hok L t hi]
  unfold cxF upK
  by_cases e : i / 7 = t
  · by_cases e2 : i = 7 * t + k
    · rw [if_pos e2, e, if_neg (Nat.lt_irrefl t), if_pos (Nat.lt_succ_self t), h, chgF_zero]
      unfold chgF
      rw [if_pos (by omega)]
    · rw [if_neg e2, e, if_neg (Nat.lt_irrefl t), if_pos (Nat.lt_succ_self t), h, chgF_zero]
      unfold chgF
      rw [if_neg (by omega)]
  · rw [if_neg (show ¬ i = 7 * t + k by omega)]
    by_cases e2 : i / 7 < t
    · rw [if_pos e2, if_pos (by omega)]
    · rw [if_neg e2, if_neg (by omega)]
theorem syn_cxS {z : ByteArray} (hok : okB z z.size = true) {L t : Nat} (ht : t < z.size / 4) : synAns ((cxS z L (t + 1)).extract (7 * t) (7 * t + 7)) = ((plK L t : Nat) : Int) := by
  have hs := cxS_size z L (t + 1)
  have hE := size_extract (cxS z L (t + 1)) (7 * t) (7 * t + 7) (by omega)
  have ho := okCut (cxS_ok hok L (t + 1)) (7 * t) (7 * t + 7) (by omega)
  unfold synAns
  rw [if_pos ⟨bitsM ho (by omega), by omega⟩, syn_blk _ _ (by omega), synF_congr 7 (fun i hi => blkF_cxS hok L (t + 1) ht hi), chg_syn (encB_bit hok ht) (encB_syn hok ht) (upK_le L (t + 1) t)]
  unfold upK
  rw [if_pos (by omega)]
end Go.Proofs.YtabokoodpobnnaaDoor
