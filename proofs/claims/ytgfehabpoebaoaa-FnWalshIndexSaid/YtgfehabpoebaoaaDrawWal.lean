/- The draws of an order and an index. -/
import Derived.Test.YtgfehabpoebaoaaDraw9
import Derived.Test.YtgfehabpoebaoaaFam2
namespace Go.Proofs.Ytgfehabpoebaoaa
open Go.RowKit
set_option linter.unusedVariables false
set_option maxRecDepth 100000
set_option maxHeartbeats 3200000 in
theorem l3Index_any (b p : Nat) (zs : List Int) (w : World) (hr : RdAt w b p zs) (hb : b < w.heap.size) (hp : p ≤ 800000) :
    Calls Try.prog 60 #[.pointer (some ⟨b, 0, none⟩)] w fun e w' => ∃ o i : Int, e = .returned (.tuple #[.int .i64 o, .int .i64 i]) ∧ ∃ q, q ≤ p + 5 ∧ RdAt w' b q zs ∧ w.grownBy w' (some b) := by
  go_enter Try.func60, Try.ntmps60
  go_wp2_with fail
  refine (pick_any b p 6 zs _ hr (by omega) (by omega) (by omega)).mono ?_
  rintro e w1 ⟨o, ho, rfl, r1, h1⟩
  clear hr
  go_wp2_with fail
  refine (l1Two_big o _ (by omega)).mono ?_
  rintro e w' ⟨rfl, rfl⟩
  obtain ⟨T, hT⟩ : ∃ T, tw o = T := ⟨_, rfl⟩
  have t1 : 1 ≤ T := by rw [← hT]; exact tw_pos o
  have t2 : T ≤ 1000000 := by rw [← hT]; exact Nat.le_trans (Nat.pow_le_pow_right (n := 2) (by omega) (show o ≤ 6 by omega)) (by decide)
  have HT := Lib.hid hT
  rw [hT]
  clear hT
  go_wp2_with fail
  refine (pick_any b _ T zs _ r1 (by omega) (by omega) (by omega)).mono ?_
  rintro e w2 ⟨i, hi, rfl, r2, h2'⟩
  have h2 := h1.trans h2'
  clear r1 h1 h2' hi
  go_wp2_with fail
  refine (pick_any b _ 16 zs _ r2 (by omega) (by omega) (by omega)).mono ?_
  rintro e w3 ⟨k, hk, rfl, r3, h3'⟩
  have h3 := h2.trans h3'
  clear r2 h2 h3'
  have hb3 : b < w3.heap.size := r3.1
  by_cases k0 : k = 0
  · subst k0
    clear hk
    go_wp2_with fail
    refine (num_any b _ zs _ w3.heap.size 3 [-1, 7, 6] (r3.alloc _) (IntsAt.new w3 _ [-1, 7, 6]) rfl hb3 (by omega) (by omega) (by omega)).mono ?_
    rintro e w4 ⟨y, hy, rfl, r4, h4'⟩
    have h4 := h3.trans ((World.grownBy_alloc w3 _ (some b)).trans h4')
    clear r3 h3 h4' hy
    go_wp2
    go_ret2
    exact ⟨_, _, rfl, _, (by omega), r4, h4⟩
  by_cases k1 : k = 1
  · subst k1
    clear hk k0
    go_wp2_with fail
    refine (l1Two_big o _ (by omega)).mono ?_
    rintro e w' ⟨rfl, rfl⟩
    rw [HT.out]
    go_wp2_with fail
    refine (num_any b _ zs _ w3.heap.size 3 [-1, (T : Int), 9223372036854775807] (r3.alloc _) (IntsAt.new w3 _ [-1, (T : Int), 9223372036854775807]) rfl hb3 (by omega) (by omega) (by omega)).mono ?_
    rintro e w4 ⟨y, hy, rfl, r4, h4'⟩
    have h4 := h3.trans ((World.grownBy_alloc w3 _ (some b)).trans h4')
    clear r3 h3 h4' hy
    go_wp2
    go_ret2
    exact ⟨_, _, rfl, _, (by omega), r4, h4⟩
  · have e0 : ((k : Int) == 0) = false := by simp; omega
    have e1 : ((k : Int) == 1) = false := by simp; omega
    clear hk k0 k1
    go_wp2
    go_ret2
    exact ⟨_, _, rfl, _, (by omega), r3, h3⟩
set_option maxHeartbeats 1600000 in
theorem drawWC_any (a : Option Addr) (len cap : Nat) (zs : List Int) (w : World) (h : IsBytes w a len cap zs) :
    Calls Try.prog 27 #[.slice a len cap] w fun e w' => ∃ o i : Int, e = .returned (.tuple #[.int .i64 o, .int .i64 i]) ∧ Below w.heap.size w w' := by
  go_enter Try.func27, Try.ntmps27
  go_wp2_with fail
  refine (open_any a len cap zs _ h).mono ?_
  rintro e w1 ⟨b, ys, rfl, hr, hb, hlb⟩
  clear h
  have hb1 : b < w1.heap.size := hr.1
  go_wp2_with fail
  refine (l3Index_any b 0 ys _ hr hb1 (by omega)).mono ?_
  rintro e w2 ⟨o, i, rfl, q, hq, r2, h2⟩
  have b2 := below_grown hb (Nat.le_refl _) h2 hlb
  clear hr hb h2 r2
  go_wp2
  go_ret2
  exact ⟨o, i, rfl, b2⟩
end Go.Proofs.Ytgfehabpoebaoaa
