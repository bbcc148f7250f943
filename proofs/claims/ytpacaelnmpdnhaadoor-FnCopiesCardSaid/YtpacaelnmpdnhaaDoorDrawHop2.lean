/- Contracts of the draws of chapter 7: sets of channels, numbers of hops, the draws of the laws. -/
import Derived.Test.YtpacaelnmpdnhaaDoorDrawHop
namespace Go.Proofs.YtpacaelnmpdnhaaDoor
open Go.RowKit
set_option linter.unusedVariables false
set_option maxRecDepth 100000
set_option maxHeartbeats 1600000 in
theorem l7Set_any (b p c : Nat) (zs : List Int) (w : World) (hr : RdAt w b p zs) (hp : p ≤ 800000) (hc1 : 1 ≤ c) (hc2 : c ≤ 16) :
    Calls Tryd.prog 45 #[.pointer (some ⟨b, 0, none⟩), .int .i64 c] w fun e w' => ∃ (v : Value) (n : Nat) (f : Nat → Int) (q : Nat), e = .returned v ∧ OF w' w.heap.size v n f ∧ n ≤ 17 ∧ (∀ j, j < n → -1 ≤ f j ∧ f j ≤ 16) ∧ q ≤ p + 10 ∧ RdAt w' b q zs ∧ w.grownBy w' (some b) := by
  have hbl := hr.1
  have hr0 := hr.alloc (.cells #[] 3)
  have hO := OF.empty0 w (fun _ => 0)
  have hg0 := World.grownBy_alloc w (.cells #[] 3) (some b)
  clear hr
  go_enter Tryd.func45, Tryd.ntmps45
  go_wp2_with fail
  refine (pick_any b p 4 zs _ hr0 (by omega) (by omega) (by omega)).mono ?_
  rintro e w1 ⟨k, hk, rfl, hr1, hg1⟩
  have hO1 := hO.kept hg1 (.inr (by simp [Value.ownBlock]; omega))
  have hg1' := hg0.trans hg1
  clear hr0 hO hg0 hg1
  go_wp2
  go_loopw [5, 6] (fun v i wr => ∃ (j n : Nat) (f : Nat → Int), n + j = k ∧ i = .int .i64 j ∧ OF wr w.heap.size v n f ∧ Hid (∀ t, t < n → -1 ≤ f t ∧ f t ≤ 16) ∧ RdAt wr b (p + 1 + n) zs ∧ w.grownBy wr (some b)) (fun _ i _ => (intOf i).toNat)
  case atStart => exact ⟨k, 0, fun _ => 0, by omega, rfl, hO1, Lib.hid (fun t ht => absurd ht (Nat.not_lt_zero t)), hr1, hg1'⟩
  case round =>
    obtain ⟨j, n, f, hjn, rfl, rO, rF, rR, rg⟩ := hrel
    clear hO1 hr1 hg1'
    by_cases h0 : 0 < j
    · go_wp2_with fail
      refine (pick_any b (p + 1 + n) c zs _ rR (by omega) (by omega) (by omega)).mono ?_
      rintro e w4 ⟨y, hy, rfl, hr4, hg4⟩
      have hO4 := rO.kept hg4 (by
        cases hv : u5.ownBlock with
        | none => exact .inl rfl
        | some q => right; intro e; cases e; have := (rO.lt _ hv).1; omega)
      have hgg := rg.trans hg4
      have hsz : w.heap.size ≤ w4.heap.size := hgg.size
      have HF : Hid (∀ t, t < n + 1 → -1 ≤ (if t < n then f t else (y : Int)) ∧ (if t < n then f t else (y : Int)) ≤ 16) := Lib.hid (fun t ht => by
        by_cases e : t < n
        · rw [if_pos e]; exact rF.out t e
        · rw [if_neg e]; omega)
      clear rO rR rg hg4 rF
      go_wp2_with (at_builtin; refine wpList_append_int rfl (.tmp 14) (.tmp 18) rfl w.heap.size _ n f rfl (hO4.alloc _) w4.heap.size 1 (y : Int) rfl (by simp) (by omega) (by simp; omega) ?_; intro v' w' O3 g3)
      have hr5 : RdAt w' b (p + 1 + n + 1) zs := (hr4.alloc _).kept g3 (fun q hq => by have := (hO4.lt q hq).1; omega)
      have hg5 : w.grownBy w' (some b) := grown_own (hgg.trans (World.grownBy_alloc w4 _ (some b))) g3 (fun q hq => (hO4.lt q hq).1)
      clear hO4 hr4 hgg g3
      go_wp2
      go_roundw
      case rel => exact ⟨j - 1, n + 1, _, by omega, by rw [show ((j - 1 : Nat) : Int) = (j : Int) - 1 by omega], O3, HF, hr5, hg5⟩
      case measure => simp [intOf]; omega
    · obtain rfl : j = 0 := by omega
      have HFF := Lib.hid rF.out
      have hsr : w.heap.size ≤ wr.heap.size := rg.size
      clear rF
      go_wp2_with fail
      refine (pick_any b (p + 1 + n) 24 zs _ rR (by omega) (by omega) (by omega)).mono ?_
      rintro e w4 ⟨k4, hk4, rfl, hr4, hg4⟩
      have hO4 := rO.kept hg4 (by
        cases hv : u5.ownBlock with
        | none => exact .inl rfl
        | some q => right; intro e; cases e; have := (rO.lt _ hv).1; omega)
      have hgg := rg.trans hg4
      have hsz : w.heap.size ≤ w4.heap.size := hgg.size
      clear rR rO rg hg4
      by_cases k0 : k4 = 0
      · subst k0
        clear hk4
        go_wp2_with fail
        refine (num_any b (p + 1 + n + 1) zs _ w4.heap.size 3 [-1, 16, 15] (hr4.alloc _) (IntsAt.new w4 _ [-1, 16, 15]) rfl hr4.1 (by omega) (by omega) (by omega)).mono ?_
        rintro e w5 ⟨y, hy, rfl, hr5, hg5⟩
        have hfy : -1 ≤ y ∧ y ≤ 16 := by
          simp only [List.mem_cons, List.not_mem_nil, or_false] at hy
          omega
        have hO5 := (hO4.alloc (.cells #[.int .i64 (-1), .int .i64 16, .int .i64 15] 3)).kept hg5 (by
          cases hv : u5.ownBlock with
          | none => exact .inl rfl
          | some q => right; intro e; cases e; have := (hO4.lt _ hv).1; omega)
        have hgg5 := hgg.trans ((World.grownBy_alloc w4 (.cells #[.int .i64 (-1), .int .i64 16, .int .i64 15] 3) (some b)).trans hg5)
        have hsz5 : w.heap.size ≤ w5.heap.size := hgg5.size
        have HF2 : Hid (∀ t, t < n + 1 → -1 ≤ (if t < n then f t else y) ∧ (if t < n then f t else y) ≤ 16) := Lib.hid (fun t ht => by
          by_cases e : t < n
          · rw [if_pos e]; exact HFF.out t e
          · rw [if_neg e]; exact hfy)
        clear hO4 hr4 hgg hy hg5 hfy
        go_wp2_with (at_builtin; refine wpList_append_int rfl (.tmp 24) (.tmp 28) rfl w.heap.size _ n f rfl (hO5.alloc _) w5.heap.size 1 y rfl (by simp) (by omega) (by simp; omega) ?_; intro v' w' O3 g3)
        have hr6 : RdAt w' b (p + 1 + n + 1 + 1) zs := (hr5.alloc _).kept g3 (fun q hq => by have := (hO5.lt q hq).1; omega)
        have hg6 : w.grownBy w' (some b) := grown_own (hgg5.trans (World.grownBy_alloc w5 _ (some b))) g3 (fun q hq => (hO5.lt q hq).1)
        clear hO5 hr5 hgg5 g3
        go_wp2
        go_ret
        exact ⟨_, n + 1, _, p + 1 + n + 1 + 1, rfl, O3, by omega, HF2.out, by omega, hr6, hg6⟩
      by_cases k1 : k4 = 1
      · subst k1
        clear hk4 k0 hO4
        go_wp2_with fail
        refine (num_any b (p + 1 + n + 1) zs _ w4.heap.size 2 [16, 17] (hr4.alloc _) (IntsAt.new w4 _ [16, 17]) rfl hr4.1 (by omega) (by omega) (by omega)).mono ?_
        rintro e w5 ⟨y, hy, rfl, hr5, hg5⟩
        obtain ⟨s, rfl, hs5⟩ : ∃ s : Nat, y = s ∧ s ≤ 17 := by
          simp only [List.mem_cons, List.not_mem_nil, or_false] at hy
          exact ⟨y.toNat, by omega, by omega⟩
        have hgg5 := hgg.trans ((World.grownBy_alloc w4 (.cells #[.int .i64 16, .int .i64 17] 3) (some b)).trans hg5)
        have hsz5 : w.heap.size ≤ w5.heap.size := hgg5.size
        have hmk := make_ints s (by omega)
        have OM := Lib.hid ((OF.made w5 s (by omega)).mono hsz5)
        have hr6 := hr5.alloc (.cells (madeCells #[.int .i64 0] s) 3)
        have hg6 := hgg5.trans (World.grownBy_alloc w5 (.cells (madeCells #[.int .i64 0] s) 3) (some b))
        clear hr4 hgg hy hg5 hr5 hgg5
        go_wp2
        go_ret
        exact ⟨_, s, _, p + 1 + n + 1 + 1, rfl, OM.out, hs5, fun j _ => by omega, by omega, hr6, hg6⟩
      · have e0 : ((k4 : Int) == 0) = false := by rw [beq_eq_false_iff_ne]; omega
        have e1 : ((k4 : Int) == 1) = false := by rw [beq_eq_false_iff_ne]; omega
        go_wp2
        go_ret
        exact ⟨_, n, f, p + 1 + n + 1, rfl, hO4, by omega, HFF.out, by omega, hr4, hgg⟩
/-- What was drawn: hops (or what is none), as numbers in memory of the draw's own. -/
def HopsGot (w w' : World) (v : Value) (n : Nat) (f : Nat → Int) : Prop := OF w' w.heap.size v n f ∧ n ≤ 301 ∧ ∀ j, j < n → FitsI (f j)
theorem own_ne {w : World} {B b : Nat} {v : Value} {n : Nat} {f : Nat → Int} (h : OF w B v n f) (hb : b < B) : v.ownBlock = none ∨ v.ownBlock ≠ some b := by
  cases hv : v.ownBlock with
  | none => exact .inl rfl
  | some q => right; intro e; cases e; have := (h.lt _ hv).1; omega
/-- Hops and a set of channels were drawn. -/
def DrawHopsSet (w : World) (e : Ending) (w' : World) : Prop := ∃ (v : Value) (n : Nat) (f : Nat → Int) (u : Value) (m : Nat) (g : Nat → Int), e = .returned (.tuple #[v, u]) ∧ OF w' w.heap.size v n f ∧ n ≤ 301 ∧ (∀ j, j < n → FitsI (f j)) ∧ OF w' w.heap.size u m g ∧ m ≤ 17 ∧ (∀ j, j < m → -1 ≤ g j ∧ g j ≤ 16) ∧ Below w.heap.size w w'
end Go.Proofs.YtpacaelnmpdnhaaDoor
