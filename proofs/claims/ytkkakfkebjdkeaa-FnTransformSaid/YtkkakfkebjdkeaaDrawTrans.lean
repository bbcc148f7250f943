/- The draw of WalshTransform. -/
import Derived.Test.YtkkakfkebjdkeaaDraw9
import Derived.Test.YtkkakfkebjdkeaaFam2
import Derived.Test.YtkkakfkebjdkeaaIntsBig
namespace Go.Proofs.Ytkkakfkebjdkeaa
open Go.RowKit
set_option linter.unusedVariables false
set_option maxRecDepth 100000
set_option maxHeartbeats 1600000 in
theorem drawWT_any (a : Option Addr) (len cap : Nat) (zs : List Int) (w : World) (h : IsBytes w a len cap zs) :
    Calls Try.prog 13 #[.slice a len cap] w fun e w' => ∃ (v : Value) (n : Nat) (f : Nat → Int), e = .returned v ∧ OF w' w.heap.size v n f ∧ n ≤ 100 ∧ (∀ j, j < n → FitsI (f j)) ∧ Below w.heap.size w w' := by
  go_enter Try.func13, Try.ntmps13
  go_wp2_with fail
  refine (open_any a len cap zs _ h).mono ?_
  rintro e w1 ⟨b, ys, rfl, hr, hb, hlb⟩
  clear h
  have hr0 := hr.alloc (.cells #[] 3)
  have hO := OF.empty0 w1 (fun _ => 0)
  have hg0 := World.grownBy_alloc w1 (.cells #[] 3) (some b)
  go_wp2_with fail
  refine (pick_any b 0 5 ys _ hr0 (by omega) (by omega) (by omega)).mono ?_
  rintro e w2 ⟨o, ho, rfl, hr1, hg1⟩
  have hb1 := hr.1
  have hO1 := hO.kept hg1 (.inr (by simp [Value.ownBlock]; omega))
  have hg1' := hg0.trans hg1
  clear hr hr0 hO hg0 hg1
  go_wp2_with fail
  refine (l1Two_big o _ (by omega)).mono ?_
  rintro e w' ⟨rfl, rfl⟩
  obtain ⟨T, hT⟩ : ∃ T, tw o = T := ⟨_, rfl⟩
  have t1 : 1 ≤ T := by rw [← hT]; exact tw_pos o
  have t2 : T ≤ 64 := by rw [← hT]; exact Nat.le_trans (Nat.pow_le_pow_right (n := 2) (by omega) (show o ≤ 6 by omega)) (by decide)
  rw [hT]
  clear hT
  have hz1 : w1.heap.size < w2.heap.size := by have := hg1'.size; have := (hO1.lt w1.heap.size rfl).2; omega
  go_wp2
  go_loopw [4, 5] (fun v i wr => ∃ (j n : Nat) (f : Nat → Int), n + j = T ∧ i = .int .i64 j ∧ OF wr w1.heap.size v n f ∧ Hid (∀ t, t < n → FitsI (f t)) ∧ RdAt wr b (1 + n) ys ∧ w1.grownBy wr (some b)) (fun _ i _ => (intOf i).toNat)
  case atStart => exact ⟨T, 0, fun _ => 0, by omega, rfl, hO1, Lib.hid (fun t ht => absurd ht (Nat.not_lt_zero t)), hr1, hg1'⟩
  case round =>
    obtain ⟨j, n, f, hjn, rfl, rO, rF, rR, rg⟩ := hrel
    clear hO1 hr1 hg1' hz1
    by_cases h0 : 0 < j
    · go_wp2_with fail
      refine (pick_any b (1 + n) 21 ys _ rR (by omega) (by omega) (by omega)).mono ?_
      rintro e w4 ⟨k2, hk2, rfl, hr2, hg2⟩
      have hO2 := rO.kept hg2 (by
        cases hv : u4.ownBlock with
        | none => exact .inl rfl
        | some q => right; intro e; cases e; have := (rO.lt _ hv).1; omega)
      have hgg := rg.trans hg2
      have hsz : w1.heap.size ≤ w4.heap.size := hgg.size
      obtain ⟨y, hy⟩ : ∃ y : Int, (k2 : Int) - 10 = y := ⟨_, rfl⟩
      have HF : Hid (∀ t, t < n + 1 → FitsI (if t < n then f t else y)) := Lib.hid (fun t ht => by
        by_cases e : t < n
        · rw [if_pos e]; exact rF.out t e
        · rw [if_neg e]; unfold FitsI; omega)
      clear rO rR rg hg2 rF
      go_wp2_with (at_builtin; refine wpList_append_int rfl (.tmp 16) (.tmp 20) rfl w1.heap.size _ n f rfl (hO2.alloc _) w4.heap.size 1 y rfl (by simp) (by omega) (by simp; omega) ?_; intro v' w' O3 g3)
      have hr3 : RdAt w' b (1 + n + 1) ys := (hr2.alloc _).kept g3 (fun q hq => by have := (hO2.lt q hq).1; omega)
      have hg3 : w1.grownBy w' (some b) := grown_own (hgg.trans (World.grownBy_alloc w4 _ (some b))) g3 (fun q hq => (hO2.lt q hq).1)
      clear hO2 hr2 hgg g3 hy
      go_wp2
      go_roundw
      case rel => exact ⟨j - 1, n + 1, _, by omega, by rw [show ((j - 1 : Nat) : Int) = (j : Int) - 1 by omega], O3, HF, hr3, hg3⟩
      case measure => simp [intOf]; omega
    · obtain rfl : j = 0 := by omega
      have HF := rF.out
      have HFF := Lib.hid HF
      clear rF HF h0
      go_wp2_with fail
      refine (pick_any b (1 + n) 12 ys _ rR (by omega) (by omega) (by omega)).mono ?_
      rintro e w5 ⟨k, hk, rfl, r5, g5'⟩
      have O5 := rO.kept g5' (by
        cases hv : u4.ownBlock with
        | none => exact .inl rfl
        | some q => right; intro e; cases e; have := (rO.lt _ hv).1; omega)
      have g5 := rg.trans g5'
      clear rO rR rg g5'
      by_cases k0 : k = 0
      · subst k0
        have HF2 : Hid (∀ t, t < n + 1 → FitsI (if t < n then f t else 1)) := Lib.hid (fun t ht => by
          by_cases e : t < n
          · rw [if_pos e]; exact HFF.out t e
          · rw [if_neg e]; unfold FitsI; omega)
        have hs5 : w1.heap.size ≤ w5.heap.size := g5.size
        clear hk
        go_wp2_with (at_builtin; refine wpList_append_int rfl (.tmp 26) (.tmp 27) rfl w1.heap.size _ n f rfl (O5.alloc _) w5.heap.size 1 1 rfl (by simp) (by omega) (by simp; omega) ?_; intro v' w' O3 g3)
        have g6 : w1.grownBy w' (some b) := grown_own (g5.trans (World.grownBy_alloc w5 _ (some b))) g3 (fun q hq => (O5.lt q hq).1)
        have b6 := below_grown hb (Nat.le_refl _) g6 hlb
        clear O5 g5 g3
        go_wp2
        go_ret
        exact ⟨_, n + 1, _, rfl, O3.mono hb.size, by omega, HF2.out, b6⟩
      by_cases k1 : k = 1
      · subst k1
        clear hk k0
        have n1 : 0 < n := by omega
        obtain ⟨sl, cp, rfl, hsl⟩ := O5.form
        obtain ⟨g, rfl, hgB, -, -⟩ := hsl n1
        clear hsl
        go_wp2_with fail
        refine (num_any b (1 + n + 1) ys _ w5.heap.size 3 [1000000, 1000001, -9223372036854775808] (r5.alloc _) (IntsAt.new w5 _ [1000000, 1000001, -9223372036854775808]) rfl r5.1 (by omega) (by omega) (by omega)).mono ?_
        rintro e w6 ⟨y, hy, rfl, r6, g6⟩
        have fY : FitsI y := by
          simp only [List.mem_cons, List.not_mem_nil, or_false] at hy
          unfold FitsI; omega
        have O6 := (O5.alloc (.cells #[.int .i64 1000000, .int .i64 1000001, .int .i64 (-9223372036854775808)] 3)).kept g6 (.inr (by have h1 := r5.1; have h2 := (O5.lt g rfl).1; have h3 := (O5.lt g rfl).2; simp only [Value.ownBlock]; intro e; injection e; omega))
        have g7 := (g5.trans (World.grownBy_alloc w5 (.cells #[.int .i64 1000000, .int .i64 1000001, .int .i64 (-9223372036854775808)] 3) (some b))).trans g6
        have b7 := below_grown hb (Nat.le_refl _) g7 hlb
        have hsz := hb.size
        obtain ⟨c0, f0⟩ := O6.at 0 n1
        have O7 := O6.set 0 y n1 (f' := fun j => if j = 0 then y else f j) (fun j _ => rfl)
        have HF7 : Hid (∀ t, t < n → FitsI (if t = 0 then y else f t)) := Lib.hid (fun t ht => by
          by_cases e : t = 0
          · rw [if_pos e]; exact fY
          · rw [if_neg e]; exact HFF.out t ht)
        have O8 := Lib.hid (O7.mono hb.size)
        have b8 := Lib.hid (b7.setCell (p := ⟨g, 0, none⟩) (show w.heap.size ≤ g by omega) (.int .i64 y))
        clear O5 O6 O7 g5 g6 g7 r5 r6 hy HFF
        go_wp2
        go_ret
        exact ⟨_, n, _, rfl, O8.out, by omega, HF7.out, b8.out⟩
      · have e0 : ((k : Int) == 0) = false := by rw [beq_eq_false_iff_ne]; omega
        have e1 : ((k : Int) == 1) = false := by rw [beq_eq_false_iff_ne]; omega
        have b5 := below_grown hb (Nat.le_refl _) g5 hlb
        clear hk k0 k1
        go_wp2
        go_ret
        exact ⟨_, n, f, rfl, O5.mono hb.size, by omega, HFF.out, b5⟩
end Go.Proofs.Ytkkakfkebjdkeaa
