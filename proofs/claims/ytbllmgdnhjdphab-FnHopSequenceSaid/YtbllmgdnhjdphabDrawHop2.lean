/- Contracts of the draws of chapter 7: sets of channels, numbers of hops, the draws of the laws. -/
import Derived.Test.YtbllmgdnhjdphabDrawHop
namespace Go.Proofs.Ytbllmgdnhjdphab
open Go.RowKit
set_option linter.unusedVariables false
set_option maxRecDepth 100000
/-- What was drawn: hops (or what is none), as numbers in memory of the draw's own. -/
def HopsGot (w w' : World) (v : Value) (n : Nat) (f : Nat → Int) : Prop := OF w' w.heap.size v n f ∧ n ≤ 301 ∧ ∀ j, j < n → FitsI (f j)
theorem own_ne {w : World} {B b : Nat} {v : Value} {n : Nat} {f : Nat → Int} (h : OF w B v n f) (hb : b < B) : v.ownBlock = none ∨ v.ownBlock ≠ some b := by
  cases hv : v.ownBlock with
  | none => exact .inl rfl
  | some q => right; intro e; cases e; have := (h.lt _ hv).1; omega
def DrawHopsInt (w : World) (e : Ending) (w' : World) : Prop := ∃ (v : Value) (n : Nat) (f : Nat → Int) (k : Int), e = .returned (.tuple #[v, .int .i64 k]) ∧ OF w' w.heap.size v n f ∧ n ≤ 301 ∧ (∀ j, j < n → FitsI (f j)) ∧ FitsI k ∧ Below w.heap.size w w'
theorem drawShiftHops_any (a : Option Addr) (len cap : Nat) (zs : List Int) (w : World) (h : IsBytes w a len cap zs) :
    Calls Try.prog 28 #[.slice a len cap] w (DrawHopsInt w) := by
  go_enter Try.func28, Try.ntmps28
  go_wp2_with fail
  refine (open_any a len cap zs _ h).mono ?_
  rintro e w1 ⟨b, ys, rfl, hr, hb, hlb⟩
  go_wp2_with fail
  refine (l7Some_any b 0 ys _ hr (by omega)).mono ?_
  rintro e w2 ⟨v, n, f, c, q, rfl, O2, hn1, hn, hc1, hc2, hf, hq, hr2, hg2⟩
  have b2 := below_grown hb (Nat.le_refl _) hg2 hlb
  have hb1 := hr.1
  have hs1 : w.heap.size ≤ w1.heap.size := hb.size
  have hs2 : w1.heap.size ≤ w2.heap.size := hg2.size
  have HFF : Hid (∀ j, j < n → FitsI (f j)) := Lib.hid (fun j hj => by have := hf j hj; unfold FitsI; omega)
  clear hr hf hn1
  go_wp2_with fail
  refine (l7Bad_any b q w1.heap.size ys v n f _ hr2 (by omega) O2 (by omega) HFF.out hb1 hs2).mono ?_
  rintro e w3 ⟨u, m, g, q2, rfl, O3, hm, hg, hq2, hr3, W, hgw, hgv⟩
  have b3 := b2.grown hgw b2.size (fun k e => by cases e; omega)
  have b4 := b3.grown hgv b3.size (fun k e => by have := (O2.lt k e).1; omega)
  have HG := Lib.hid hg
  clear hr2 b2 hg2 hg hgw hgv b3 HFF O2 hb
  go_wp2_with fail
  refine (l2Number_any b q2 ys _ hr3 (by omega)).mono ?_
  rintro e w4 ⟨k, q3, rfl, hk, hq3, hr4, hg4⟩
  have b5 := below_grown b4 (Nat.le_refl _) hg4 hlb
  have O4 := (O3.kept hg4 (own_ne O3 hb1)).mono hs1
  clear hr3 hr4 hg4 b4 O3
  go_wp2
  go_ret2
  exact ⟨u, m, g, k, rfl, O4, hm, HG.out, hk, b5⟩
def DrawHopsInt2 (w : World) (e : Ending) (w' : World) : Prop := ∃ (v : Value) (n : Nat) (f : Nat → Int) (C d : Int), e = .returned (.tuple #[v, .int .i64 C, .int .i64 d]) ∧ OF w' w.heap.size v n f ∧ n ≤ 301 ∧ (∀ j, j < n → FitsI (f j)) ∧ (-1 ≤ C ∧ C ≤ 301) ∧ FitsI d ∧ Below w.heap.size w w'
set_option maxHeartbeats 800000 in
theorem drawMoveHops_any (a : Option Addr) (len cap : Nat) (zs : List Int) (w : World) (h : IsBytes w a len cap zs) :
    Calls Try.prog 31 #[.slice a len cap] w (DrawHopsInt2 w) := by
  go_enter Try.func31, Try.ntmps31
  go_wp2_with fail
  refine (open_any a len cap zs _ h).mono ?_
  rintro e w1 ⟨b, ys, rfl, hr, hb, hlb⟩
  go_wp2_with fail
  refine (l7Some_any b 0 ys _ hr (by omega)).mono ?_
  rintro e w2 ⟨v, n, f, c, q, rfl, O2, hn1, hn, hc1, hc2, hf, hq, hr2, hg2⟩
  have b2 := below_grown hb (Nat.le_refl _) hg2 hlb
  have hb1 := hr.1
  have hs1 : w.heap.size ≤ w1.heap.size := hb.size
  have hs2 : w1.heap.size ≤ w2.heap.size := hg2.size
  have HFF : Hid (∀ j, j < n → FitsI (f j)) := Lib.hid (fun j hj => by have := hf j hj; unfold FitsI; omega)
  clear hr hf hn1 hb hg2
  go_wp2_with fail
  refine (pick_any b q 20 ys _ hr2 (by omega) (by omega) (by omega)).mono ?_
  rintro e w3 ⟨k, hk, rfl, hr3, hg3⟩
  have O3 := O2.kept hg3 (own_ne O2 hb1)
  have b3 := below_grown b2 (Nat.le_refl _) hg3 hlb
  have hs3 : w1.heap.size ≤ w3.heap.size := by have := hg3.size; omega
  clear hr2 b2 hg3 O2
  go_wp2_with fail
  refine (pick_any b (q + 1) 16 ys _ hr3 (by omega) (by omega) (by omega)).mono ?_
  rintro e w4 ⟨k2, hk2, rfl, hr4, hg4⟩
  have O4 := O3.kept hg4 (own_ne O3 hb1)
  have b4 := below_grown b3 (Nat.le_refl _) hg4 hlb
  have hs4 : w1.heap.size ≤ w4.heap.size := by have := hg4.size; omega
  clear hr3 b3 hg4 O3
  by_cases k0 : k2 = 0
  · subst k0
    clear hk2
    go_wp2_with fail
    refine (num_any b (q + 1 + 1) ys _ w4.heap.size 4 [16, 17, -17, 9223372036854775807] (hr4.alloc _) (IntsAt.new w4 _ [16, 17, -17, 9223372036854775807]) rfl hr4.1 (by omega) (by omega) (by omega)).mono ?_
    rintro e w5 ⟨d, hd, rfl, hr5, hg5⟩
    have hfd : FitsI d := by
      simp only [List.mem_cons, List.not_mem_nil, or_false] at hd
      unfold FitsI; omega
    have O5 := (O4.alloc (.cells #[.int .i64 16, .int .i64 17, .int .i64 (-17), .int .i64 9223372036854775807] 3)).kept hg5 (own_ne O4 hb1)
    have b5 := below_grown (b4.alloc b4.size (.cells #[.int .i64 16, .int .i64 17, .int .i64 (-17), .int .i64 9223372036854775807] 3)) (Nat.le_refl _) hg5 hlb
    have hs5 : w1.heap.size ≤ w5.heap.size := by have := hg5.size; simp at this; omega
    clear hr4 b4 hg5 O4 hd
    go_wp2_with fail
    refine (l7Bad_any b (q + 1 + 1 + 1) w1.heap.size ys v n f _ hr5 (by omega) O5 (by omega) HFF.out hb1 hs5).mono ?_
    rintro e w6 ⟨u, m, g, q2, rfl, O6, hm, hg, hq2, hr6, W, hgw, hgv⟩
    have b6 := b5.grown hgw b5.size (fun k e => by cases e; omega)
    have b7 := b6.grown hgv b6.size (fun k e => by have := (O5.lt k e).1; omega)
    have HG := Lib.hid hg
    clear hr5 b5 hg hgw hgv b6 HFF O5
    go_wp2_with fail
    refine (l7Number_any b q2 ys c _ hr6 (by omega) (by omega)).mono ?_
    rintro e w7 ⟨C, q3, rfl, C1, C2, hq3, hr7, hg7⟩
    have b8 := below_grown b7 (Nat.le_refl _) hg7 hlb
    have O7 := (O6.kept hg7 (own_ne O6 hb1)).mono hs1
    clear hr6 hr7 hg7 b7 O6
    go_wp2
    go_ret3
    exact ⟨u, m, g, C, d, rfl, O7, hm, HG.out, ⟨C1, C2⟩, hfd, b8⟩
  · have e0 : ((k2 : Int) == 0) = false := by simp; omega
    have hfd : FitsI ((k : Int) - 10) := by unfold FitsI; omega
    go_wp2_with fail
    clear e0
    refine (l7Bad_any b (q + 1 + 1) w1.heap.size ys v n f _ hr4 (by omega) O4 (by omega) HFF.out hb1 hs4).mono ?_
    rintro e w6 ⟨u, m, g, q2, rfl, O6, hm, hg, hq2, hr6, W, hgw, hgv⟩
    have b6 := b4.grown hgw b4.size (fun k e => by cases e; omega)
    have b7 := b6.grown hgv b6.size (fun k e => by have := (O4.lt k e).1; omega)
    have HG := Lib.hid hg
    clear hr4 b4 hg hgw hgv b6 HFF O4
    go_wp2_with fail
    refine (l7Number_any b q2 ys c _ hr6 (by omega) (by omega)).mono ?_
    rintro e w7 ⟨C, q3, rfl, C1, C2, hq3, hr7, hg7⟩
    have b8 := below_grown b7 (Nat.le_refl _) hg7 hlb
    have O7 := (O6.kept hg7 (own_ne O6 hb1)).mono hs1
    clear hr6 hr7 hg7 b7 O6
    go_wp2
    go_ret3
    exact ⟨u, m, g, C, _, rfl, O7, hm, HG.out, ⟨C1, C2⟩, hfd, b8⟩
/-- Hops and a set of channels were drawn. -/
def DrawHopsSet (w : World) (e : Ending) (w' : World) : Prop := ∃ (v : Value) (n : Nat) (f : Nat → Int) (u : Value) (m : Nat) (g : Nat → Int), e = .returned (.tuple #[v, u]) ∧ OF w' w.heap.size v n f ∧ n ≤ 301 ∧ (∀ j, j < n → FitsI (f j)) ∧ OF w' w.heap.size u m g ∧ m ≤ 17 ∧ (∀ j, j < m → -1 ≤ g j ∧ g j ≤ 16) ∧ Below w.heap.size w w'
end Go.Proofs.Ytbllmgdnhjdphab
