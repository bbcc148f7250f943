/- Contracts of the draws of signals. -/
import Derived.Test.YtmeooebklohdfaaDraw9
import Derived.Test.YtmeooebklohdfaaSig6
namespace Go.Proofs.Ytmeooebklohdfaa
open Go.RowKit
set_option linter.unusedVariables false
set_option maxRecDepth 100000
/-- Numbers were drawn: at most 3001, in memory of the draw's own. -/
def SigPost (B b p : Nat) (zs : List Int) (w : World) (e : Ending) (w' : World) : Prop :=
  ∃ (v : Value) (n : Nat) (f : Nat → Int) (q : Nat), e = .returned v ∧ OF w' B v n f ∧ n ≤ 3001 ∧ (∀ j, j < n → FitsI (f j)) ∧ q ≤ p + 200 ∧ RdAt w' b q zs ∧ w.grownBy w' (some b)
set_option maxHeartbeats 800000 in
theorem l4Some_any (b p m : Nat) (zs : List Int) (w : World) (hr : RdAt w b p zs) (hp : p ≤ 800000) (hm : m ≤ 90) :
    Calls Try.prog 104 #[.pointer (some ⟨b, 0, none⟩), .int .i64 m] w fun e w' => ∃ (v : Value) (n : Nat) (f : Nat → Int) (q : Nat), e = .returned v ∧ OF w' w.heap.size v n f ∧ n ≤ m ∧ (∀ j, j < n → -10 ≤ f j ∧ f j ≤ 10) ∧ q ≤ p + 100 ∧ RdAt w' b q zs ∧ w.grownBy w' (some b) := by
  have hbl := hr.1
  have hr0 := hr.alloc (.cells #[] 3)
  have hO := OF.empty0 w (fun _ => 0)
  have hg0 := World.grownBy_alloc w (.cells #[] 3) (some b)
  go_enter Try.func104, Try.ntmps104
  go_wp2_with fail
  have hm1 : (m : Int) + 1 = ((m + 1 : Nat) : Int) := by omega
  rw [hm1]
  clear hm1
  refine (pick_any b p (m + 1) zs _ hr0 (by omega) (by omega) (by omega)).mono ?_
  rintro e w1 ⟨k, hk, rfl, hr1, hg1⟩
  have hO1 := hO.kept hg1 (.inr (by simp [Value.ownBlock]; omega))
  have hg1' := hg0.trans hg1
  have hz1 : w.heap.size < w1.heap.size := by have := hg1.size; simp at this; omega
  clear hr hr0 hO hg0 hg1
  go_wp2
  go_loopw [5, 6] (fun v i wr => ∃ (j n : Nat) (f : Nat → Int), n + j ≤ m ∧ i = .int .i64 j ∧ OF wr w.heap.size v n f ∧ Hid (∀ t, t < n → -10 ≤ f t ∧ f t ≤ 10) ∧ RdAt wr b (p + 1 + n) zs ∧ w.grownBy wr (some b)) (fun _ i _ => (intOf i).toNat)
  case atStart => exact ⟨k, 0, fun _ => 0, by omega, rfl, hO1, Lib.hid (fun t ht => absurd ht (Nat.not_lt_zero t)), hr1, hg1'⟩
  case round =>
    obtain ⟨j, n, f, hjn, rfl, rO, rF, rR, rg⟩ := hrel
    clear hO1 hr1 hg1' hz1
    by_cases h0 : 0 < j
    · go_wp2_with fail
      refine (pick_any b (p + 1 + n) 21 zs _ rR (by omega) (by omega) (by omega)).mono ?_
      rintro e w2 ⟨k2, hk2, rfl, hr2, hg2⟩
      have hO2 := rO.kept hg2 (by
        cases hv : u5.ownBlock with
        | none => exact .inl rfl
        | some q => right; intro e; cases e; have := (rO.lt _ hv).1; omega)
      have hgg := rg.trans hg2
      have hsz : w.heap.size ≤ w2.heap.size := hgg.size
      obtain ⟨y, hy⟩ : ∃ y : Int, (k2 : Int) - 10 = y := ⟨_, rfl⟩
      have HF : Hid (∀ t, t < n + 1 → -10 ≤ (if t < n then f t else y) ∧ (if t < n then f t else y) ≤ 10) := Lib.hid (fun t ht => by
        by_cases e : t < n
        · rw [if_pos e]; exact rF.out t e
        · rw [if_neg e]; omega)
      clear rO rR rg hg2 rF
      go_wp2_with (at_builtin; refine wpList_append_int rfl (.tmp 16) (.tmp 20) rfl w.heap.size _ n f rfl (hO2.alloc _) w2.heap.size 1 y rfl (by simp) (by omega) (by simp; omega) ?_; intro v' w' O3 g3)
      have hr3 : RdAt w' b (p + 1 + n + 1) zs := (hr2.alloc _).kept g3 (fun q hq => by have := (hO2.lt q hq).1; omega)
      have hg3 : w.grownBy w' (some b) := grown_own (hgg.trans (World.grownBy_alloc w2 _ (some b))) g3 (fun q hq => (hO2.lt q hq).1)
      clear hO2 hr2 hgg g3 hy
      go_wp2
      go_roundw
      case rel => exact ⟨j - 1, n + 1, _, by omega, by rw [show ((j - 1 : Nat) : Int) = (j : Int) - 1 by omega], O3, HF, hr3, hg3⟩
      case measure => simp [intOf]; omega
    · obtain rfl : j = 0 := by omega
      have HF := rF.out
      have HFF := Lib.hid HF
      clear rF HF
      go_wp2
      go_ret
      exact ⟨_, n, f, p + 1 + n, rfl, rO, by omega, HFF.out, by omega, rR, rg⟩
set_option maxHeartbeats 800000 in
theorem l4Bad_any (b p B : Nat) (zs : List Int) (v : Value) (n : Nat) (f : Nat → Int) (w : World) (hr : RdAt w b p zs) (hp : p ≤ 800000) (hO : OF w B v n f) (hn : n ≤ 2000) (hf : ∀ j, j < n → FitsI (f j)) (hBb : b < B) (hBw : B ≤ w.heap.size) :
    Calls Try.prog 105 #[.pointer (some ⟨b, 0, none⟩), v] w fun e w' => ∃ (u : Value) (m : Nat) (g : Nat → Int) (q : Nat), e = .returned u ∧ OF w' B u m g ∧ m ≤ 3001 ∧ (∀ j, j < m → FitsI (g j)) ∧ q ≤ p + 10 ∧ RdAt w' b q zs ∧ ∀ w0 : World, w0.grownBy w (some b) → w0.heap.size ≤ B → w0.grownBy w' (some b) := by
  have hbl := hr.1
  have HF := Lib.hid hf
  clear hf
  go_enter Try.func105, Try.ntmps105
  go_wp2_with fail
  refine (pick_any b p 40 zs _ hr (by omega) (by omega) (by omega)).mono ?_
  rintro e w1 ⟨k, hk, rfl, hr1, hg1⟩
  have hO1 := hO.kept hg1 (by
    cases hv : v.ownBlock with
    | none => exact .inl rfl
    | some q => right; intro e; cases e; have := (hO.lt _ hv).1; omega)
  have hs1 : w.heap.size ≤ w1.heap.size := hg1.size
  clear hr hO
  by_cases k0 : k = 0
  · subst k0
    clear hk
    go_wp2_with fail
    refine (num_any b (p + 1) zs _ w1.heap.size 4 [1000000, 1000001, -1000001, 9223372036854775807] (hr1.alloc _) (IntsAt.new w1 _ [1000000, 1000001, -1000001, 9223372036854775807]) rfl hr1.1 (by omega) (by omega) (by omega)).mono ?_
    rintro e w2 ⟨y, hy, rfl, hr2, hg2⟩
    have hfy : Hid (FitsI y) := Lib.hid (by
      simp only [List.mem_cons, List.not_mem_nil, or_false] at hy
      unfold FitsI; omega)
    have ga := World.grownBy_alloc w1 (.cells #[.int .i64 1000000, .int .i64 1000001, .int .i64 (-1000001), .int .i64 9223372036854775807] 3) (some b)
    have hO2 := (hO1.alloc (.cells #[.int .i64 1000000, .int .i64 1000001, .int .i64 (-1000001), .int .i64 9223372036854775807] 3)).kept hg2 (by
      cases hv : v.ownBlock with
      | none => exact .inl rfl
      | some q => right; intro e; cases e; have := (hO1.lt _ hv).1; omega)
    have hg2' := hg1.trans (ga.trans hg2)
    have hs2 : w.heap.size ≤ w2.heap.size := hg2'.size
    have HF2 : Hid (∀ t, t < n + 1 → FitsI (if t < n then f t else y)) := Lib.hid (fun t ht => by
      by_cases e : t < n
      · rw [if_pos e]; exact HF.out t e
      · rw [if_neg e]; exact hfy.out)
    have HB := Lib.hid hBw
    clear hr1 hg1 hg2 hy ga hO1 hfy
    go_wp2_with (at_builtin; refine wpList_append_int rfl (.tmp 9) (.tmp 13) rfl B _ n f rfl (hO2.alloc _) w2.heap.size 1 y rfl (by simp) (by omega) (by simp; omega) ?_; intro v' w' O3 g3)
    have hr3 : RdAt w' b (p + 1 + 1) zs := (hr2.alloc _).kept g3 (fun q hq => by have := (hO2.lt q hq).1; omega)
    have HG : Hid (∀ w0 : World, w0.grownBy w (some b) → w0.heap.size ≤ B → w0.grownBy w' (some b)) := Lib.hid (fun w0 h0 h1 => grown_own ((h0.trans hg2').trans (World.grownBy_alloc w2 _ (some b))) g3 (fun q hq => by have := (hO2.lt q hq).1; omega))
    clear hO2 hr2 hg2' g3
    go_wp2
    go_ret
    exact ⟨_, n + 1, _, p + 1 + 1, rfl, O3, by omega, HF2.out, by omega, hr3, HG.out⟩
  by_cases k1 : k = 1
  · subst k1
    clear hk k0 hO1
    go_wp2_with fail
    refine (num_any b (p + 1) zs _ w1.heap.size 2 [3000, 3001] (hr1.alloc _) (IntsAt.new w1 _ [3000, 3001]) rfl hr1.1 (by omega) (by omega) (by omega)).mono ?_
    rintro e w2 ⟨y, hy, rfl, hr2, hg2⟩
    obtain ⟨s, rfl, hs5⟩ : ∃ s : Nat, y = s ∧ s ≤ 3001 := by
      simp only [List.mem_cons, List.not_mem_nil, or_false] at hy
      exact ⟨y.toNat, by omega, by omega⟩
    have ga := World.grownBy_alloc w1 (.cells #[.int .i64 3000, .int .i64 3001] 3) (some b)
    have hg2' := hg1.trans (ga.trans hg2)
    have hs2 : w.heap.size ≤ w2.heap.size := hg2'.size
    have hmk := make_ints s (by omega)
    have OM := Lib.hid ((OF.made w2 s (by omega)).mono (show B ≤ w2.heap.size by omega))
    have hr3 := hr2.alloc (.cells (madeCells #[.int .i64 0] s) 3)
    have HG : Hid (∀ w0 : World, w0.grownBy w (some b) → w0.heap.size ≤ B → w0.grownBy (w2.alloc (.cells (madeCells #[.int .i64 0] s) 3)) (some b)) := Lib.hid (fun w0 h0 _ => (h0.trans hg2').trans (World.grownBy_alloc w2 _ (some b)))
    clear hr1 hg1 hg2 hy ga hr2 hg2'
    go_wp2
    go_ret
    exact ⟨_, s, _, p + 1 + 1, rfl, OM.out, hs5, fun j _ => by unfold FitsI; omega, by omega, hr3, HG.out⟩
  · have e0 : ((k : Int) == 0) = false := by rw [beq_eq_false_iff_ne]; omega
    have e1 : ((k : Int) == 1) = false := by rw [beq_eq_false_iff_ne]; omega
    have HG : Hid (∀ w0 : World, w0.grownBy w (some b) → w0.heap.size ≤ B → w0.grownBy w1 (some b)) := Lib.hid (fun w0 h0 _ => h0.trans hg1)
    clear hg1
    go_wp2
    go_ret
    exact ⟨_, n, f, p + 1, rfl, hO1, by omega, HF.out, by omega, hr1, HG.out⟩
/-- A signal was drawn, or what is none. -/
def DrawSig (w : World) (e : Ending) (w' : World) : Prop := ∃ (v : Value) (n : Nat) (f : Nat → Int), e = .returned v ∧ OF w' w.heap.size v n f ∧ n ≤ 3001 ∧ (∀ j, j < n → FitsI (f j)) ∧ Below w.heap.size w w'
end Go.Proofs.Ytmeooebklohdfaa
