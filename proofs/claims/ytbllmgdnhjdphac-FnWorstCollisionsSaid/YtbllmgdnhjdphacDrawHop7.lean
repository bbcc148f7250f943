/- The contract of the draw of hops of many users. -/
import Derived.Test.YtbllmgdnhjdphacRowsOwn
namespace Go.Proofs.Ytbllmgdnhjdphac
open Go.RowKit
set_option linter.unusedVariables false
set_option maxRecDepth 100000
/-- Rows of hops were drawn. -/
def DrawRows (w : World) (e : Ending) (w' : World) : Prop := ∃ (v : Value) (L : Nat), e = .returned v ∧ RowsAt w' w.heap.size v L ∧ L ≤ 9 ∧ Below w.heap.size w w'
/-- One more row. -/
theorem rows_more {w w' : World} {B L : Nat} {v v' y : Value} {f : Nat → Value} (h1 : XF w B v L f) (h2 : ∀ i, i < L → InAt w B (f i)) (hy : InAt w B y) (h3 : XF w' B v' (L + 1) (fun j => if j < L then f j else y)) (hg : w.grownBy w' v.ownBlock) : RowsAt w' B v' (L + 1) :=
  ⟨_, h3, rows_snoc (fun i hi => (h2 i hi).kept hg (fun _ _ _ h => own_diff h h1)) (hy.kept hg (fun _ _ _ h => own_diff h h1))⟩
set_option maxHeartbeats 3200000 in
theorem drawRows_any (a : Option Addr) (len cap : Nat) (zs : List Int) (w : World) (h : IsBytes w a len cap zs) :
    Calls Try.prog 8 #[.slice a len cap] w (DrawRows w) := by
  go_enter Try.func8, Try.ntmps8
  go_wp2_with fail
  refine (open_any a len cap zs _ h).mono ?_
  rintro e w1 ⟨b, ys, rfl, hr, hb, hlb⟩
  have hb1 := hr.1
  have hs1 : w.heap.size ≤ w1.heap.size := hb.size
  have R0 : RowsAt (w1.alloc (.cells #[] 26)) w1.heap.size (.slice (some ⟨w1.heap.size, 0, none⟩) 0 0) 0 := ⟨_, XF.empty0 w1 (fun _ => .slice none 0 0), fun i hi => absurd hi (Nat.not_lt_zero i)⟩
  have hrA := hr.alloc (.cells #[] 26)
  have bA := hb.alloc hs1 (.cells #[] 26)
  clear h hr hb
  go_wp2_with fail
  refine (l7Some_any b 0 ys _ hrA (by omega)).mono ?_
  rintro e w2 ⟨v, n, f, c, q, rfl, O2, hn1, hn, hc1, hc2, hf, hq, hr2, hg2⟩
  have b2 := below_grown bA (Nat.le_refl _) hg2 hlb
  have R2 := R0.kept hg2 hb1
  have A2 := O2.mono (show w1.heap.size ≤ (w1.alloc (.cells #[] 26)).heap.size by simp)
  have hs2 : w1.heap.size ≤ w2.heap.size := by have := hg2.size; simp at this; omega
  have HFF : Hid (∀ j, j < n → FitsI (f j)) := Lib.hid (fun j hj => by have := hf j hj; unfold FitsI; omega)
  obtain ⟨va, vc, rfl, -⟩ := A2.form
  clear hrA bA hg2 R0 O2 hf
  go_wp2_with fail
  refine (pick_any b q 5 ys _ hr2 (by omega) (by omega) (by omega)).mono ?_
  rintro e w3 ⟨k, hk, rfl, hr3, hg3⟩
  have b3 := below_grown b2 (Nat.le_refl _) hg3 hlb
  have R3 := R2.kept hg3 hb1
  have A3 := A2.kept hg3 (own_ne A2 hb1)
  have hs3 : w1.heap.size ≤ w3.heap.size := Nat.le_trans hs2 hg3.size
  clear hr2 hg3 R2 A2 b2 hs2
  go_wp2
  go_loopw [4, 7] (fun x i wr => ∃ (j L p : Nat), L + j = k ∧ i = .int .i64 j ∧ p ≤ 60 + 20 * L ∧ RowsAt wr w1.heap.size x L ∧ OF wr w1.heap.size (.slice va n vc) n f ∧ RdAt wr b p ys ∧ w1.heap.size ≤ wr.heap.size ∧ Below w.heap.size w wr) (fun _ i _ => (intOf i).toNat)
  case atStart => exact ⟨k, 0, q + 1, by omega, rfl, by omega, R3, A3, hr3, hs3, b3⟩
  case round =>
    obtain ⟨j, L, p, hLj, rfl, hp, rR0, rA, rr, rs, rb⟩ := hrel
    clear R3 A3 hr3 hs3 b3
    obtain ⟨xa, xc, rfl⟩ := rR0.form
    by_cases h0 : 0 < j
    · skip
      obtain ⟨w4, hw4⟩ : ∃ W, W = wr := ⟨_, rfl⟩
      subst hw4
      have O4' := OF.empty0 w4 (fun _ => 0)
      have r4 := rr.alloc (.cells #[] 3)
      have hw0 : w4.grownBy (w4.alloc (.cells #[] 3)) (some b) := World.grownBy_alloc w4 _ _
      go_wp2
      have hbC : b < w4.heap.size := by omega
      go_loopw [8] (fun x wy => ∃ (kk : Nat) (g : Nat → Int), kk ≤ n ∧ OF wy w4.heap.size x kk g ∧ RdAt wy b (p + kk) ys ∧ w4.grownBy wy (some b)) (fun x _ => n - (match x with | .slice _ l _ => l | _ => 0))
      case atStart => exact ⟨0, fun _ => 0, Nat.zero_le _, O4', r4, hw0⟩
      case round =>
        obtain ⟨kk, g, hkk, rO, rR, rg⟩ := hrel
        obtain ⟨ga, gc, rfl, -⟩ := rO.form
        clear O4' r4 hw0
        by_cases hlt : kk < n
        · skip
          have i1 : (kk : Int) < (n : Int) := by omega
          go_wp2_with fail
          refine (pick_any b (p + kk) c ys _ rR (by omega) (by omega) (by omega)).mono ?_
          rintro e w5 ⟨y, hy, rfl, hr5, hg5⟩
          have hO5 := rO.kept hg5 (own_ne rO hbC)
          have hgg := rg.trans hg5
          have hsz : w4.heap.size ≤ w5.heap.size := hgg.size
          clear rO rR rg hg5
          go_wp2_with (at_builtin; refine wpList_append_int rfl (.tmp 29) (.tmp 33) rfl w4.heap.size _ kk g rfl (hO5.alloc _) w5.heap.size 1 (y : Int) rfl (by simp) (by omega) (by simp; omega) ?_; intro v' w' O3 g3)
          have hr6 : RdAt w' b (p + kk + 1) ys := (hr5.alloc _).kept g3 (fun q hq => by have := (hO5.lt q hq).1; omega)
          have hg6 : w4.grownBy w' (some b) := grown_own (hgg.trans (World.grownBy_alloc w5 _ (some b))) g3 (fun q hq => (hO5.lt q hq).1)
          obtain ⟨na, nc, rfl, -⟩ := O3.form
          clear hO5 hr5 hgg g3
          go_wp2
          go_roundw
          case rel => exact ⟨kk + 1, _, by omega, O3, hr6, hg6⟩
          case measure => show n - (kk + 1) < n - kk; omega
        · obtain rfl : kk = n := by omega
          have R5 := rR0.kept rg hb1
          have A5 := rA.kept rg (own_ne rA hb1)
          have b5 := below_grown rb (Nat.le_refl _) rg hlb
          have s5 : w1.heap.size ≤ wr.heap.size := Nat.le_trans rs rg.size
          obtain ⟨f5, x5, i5⟩ := R5
          clear rR0 rA rb rg rr
          go_wp2_with (at_builtin; refine wpList_append_row rfl (.tmp 35) (.tmp 37) rfl w1.heap.size _ L f5 rfl (x5.alloc _) wr.heap.size 1 ga kk gc rfl (by simp) (by omega) (by simp; omega) ?_; intro v' w' X6 g6)
          have R6 := rows_more (x5.alloc _) (fun i hi => (i5 i hi).alloc _) (InAt.of ((rO.mono rs).alloc _) (by omega)) X6 g6
          have A6 := (A5.alloc (.cells #[.slice ga kk gc] 26)).kept g6 (own_diff (A5.alloc (.cells #[.slice ga kk gc] 26)) (x5.alloc (.cells #[.slice ga kk gc] 26)))
          have r6 := (rR.alloc _).kept g6 (fun q hq => by have := (x5.lt q hq).1; omega)
          have b6 := (b5.alloc b5.size (.cells #[.slice ga kk gc] 26)).grown g6 (by simp; have := b5.size; omega) (fun q hq => by have := (x5.lt q hq).1; omega)
          have s6 : w1.heap.size ≤ w'.heap.size := by have := g6.size; simp at this; omega
          obtain ⟨na, nc, rfl⟩ := R6.form
          clear x5 i5 X6 g6 rO A5 rR b5 s5
          go_wp2
          go_roundw
          case rel => exact ⟨j - 1, L + 1, p + kk, by omega, by rw [show ((j - 1 : Nat) : Int) = (j : Int) - 1 by omega], by omega, R6, A6, r6, s6, b6⟩
          case measure => simp [intOf]; omega
    · obtain rfl : j = 0 := by omega
      go_wp2_with fail
      refine (pick_any b p 16 ys _ rr (by omega) (by omega) (by omega)).mono ?_
      rintro e w5 ⟨m, hm, rfl, hr5, hg5⟩
      have R5 := rR0.kept hg5 hb1
      have A5 := rA.kept hg5 (own_ne rA hb1)
      have b5 := below_grown rb (Nat.le_refl _) hg5 hlb
      have s5 : w1.heap.size ≤ w5.heap.size := Nat.le_trans rs hg5.size
      clear rR0 rA rb rr hg5 rs
      by_cases m0 : m = 0
      · subst m0
        clear hm
        obtain ⟨ta, tc, t1, T5⟩ := InAt.tail A5 hn1 (by omega)
        obtain ⟨f5, x5, i5⟩ := R5
        go_wp2_with (at_builtin; refine wpList_append_row rfl (.tmp 43) (.tmp 46) rfl w1.heap.size _ L f5 rfl (x5.alloc _) w5.heap.size 1 ta (n - 1) tc rfl (by simp) (by omega) (by simp; omega) ?_; intro v' w' X6 g6)
        have R6 := rows_more (x5.alloc _) (fun i hi => (i5 i hi).alloc _) (T5.alloc _) X6 g6
        have b6 := (b5.alloc b5.size (.cells #[.slice ta (n - 1) tc] 26)).grown g6 (by simp; have := b5.size; omega) (fun q hq => by have := (x5.lt q hq).1; omega)
        clear x5 i5 X6 g6 T5 t1 A5 b5
        go_wp2
        go_ret
        exact ⟨_, L + 1, rfl, R6.mono hs1, by omega, b6⟩
      have e0 : ((m : Int) == 0) = false := by simp; omega
      by_cases m1 : m = 1
      · subst m1
        clear hm e0 m0
        have L9 : L ≤ 9 := by omega
        clear hr5 hLj hp hk h0
        go_wp2
        go_loopw [4] (fun x wy => ∃ (M : Nat), M ≤ 9 ∧ RowsAt wy w1.heap.size x M ∧ OF wy w1.heap.size (.slice va n vc) n f ∧ w1.heap.size ≤ wy.heap.size ∧ Below w.heap.size w wy) (fun x _ => 9 - (match x with | .slice _ l _ => l | _ => 0))
        case atStart => exact ⟨L, L9, R5, A5, s5, b5⟩
        case round =>
          obtain ⟨M, hM, qR, qA, qs, qb⟩ := hrel
          clear R5 A5 s5 b5
          obtain ⟨ya, yc, rfl⟩ := qR.form
          by_cases hM9 : M < 9
          · have i1 : (M : Int) < 9 := by omega
            obtain ⟨f5, x5, i5⟩ := qR
            go_wp2_with (at_builtin; refine wpList_append_row rfl (.tmp 53) (.tmp 55) rfl w1.heap.size _ M f5 rfl (x5.alloc _) wr.heap.size 1 va n vc rfl (by simp) (by omega) (by simp; omega) ?_; intro v' w' X6 g6)
            have R6 := rows_more (x5.alloc _) (fun i hi => (i5 i hi).alloc _) (InAt.of (qA.alloc _) (by omega)) X6 g6
            have A6 := (qA.alloc (.cells #[.slice va n vc] 26)).kept g6 (own_diff (qA.alloc (.cells #[.slice va n vc] 26)) (x5.alloc (.cells #[.slice va n vc] 26)))
            have b6 := (qb.alloc qb.size (.cells #[.slice va n vc] 26)).grown g6 (by simp; have := qb.size; omega) (fun q hq => by have := (x5.lt q hq).1; omega)
            have s6 : w1.heap.size ≤ w'.heap.size := by have := g6.size; simp at this; omega
            obtain ⟨na, nc, rfl⟩ := R6.form
            clear x5 i5 X6 g6 qA qb qs
            go_wp2
            go_roundw
            case rel => exact ⟨M + 1, by omega, R6, A6, s6, b6⟩
            case measure => show 9 - (M + 1) < 9 - M; omega
          · have i1 : ¬ ((M : Int) < 9) := by omega
            go_wp2
            go_ret
            exact ⟨_, M, rfl, qR.mono hs1, by omega, qb⟩
      have e1 : ((m : Int) == 1) = false := by simp; omega
      by_cases m2 : m = 2
      · subst m2
        clear hm e0 e1 m0 m1
        obtain ⟨u, h1, O2⟩ := headO A5 0 (Nat.zero_le _)
        have hh : ∀ w1, (Instr.sliceAt 26 (.slice va n vc) none (some (.int .i64 0)) none).run Try.prog w1 = .ok u w1 := h1
        clear h1 R5 A5
        go_wp2_with fail
        refine (l7Bad_any b (p + 1) w1.heap.size ys u 0 f _ hr5 (by omega) O2 (by omega) (fun j hj => absurd hj (Nat.not_lt_zero j)) hb1 s5).mono ?_
        rintro e w6 ⟨y, l, g, q6, rfl, O6, hl, hg, hq6, hr6, W, hgw, hgv⟩
        have b6 := (b5.grown hgw b5.size (fun k e => by cases e; omega)).grown hgv (b5.grown hgw b5.size (fun k e => by cases e; omega)).size (fun k e => by have := (O2.lt k e).1; omega)
        obtain ⟨ya, yc, rfl, -⟩ := O6.form
        have R6 : RowsAt (w6.alloc (.cells #[.slice ya l yc] 26)) w.heap.size (.slice (some ⟨w6.heap.size, 0, none⟩) 1 1) 1 := ⟨_, (XF.one w6 (.slice ya l yc)).mono b6.size, fun i hi => InAt.of ((O6.mono hs1).alloc _) hl⟩
        have b7 := b6.alloc b6.size (.cells #[.slice ya l yc] 26)
        clear hr5 b5 O2 hg hr6 hgw hgv hh O6
        go_wp2
        go_ret
        exact ⟨_, 1, rfl, R6, by omega, b7⟩
      · have e2 : ((m : Int) == 2) = false := by simp; omega
        go_wp2
        go_ret
        exact ⟨_, L, rfl, R5.mono hs1, by omega, b5⟩
end Go.Proofs.Ytbllmgdnhjdphac
