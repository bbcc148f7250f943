/- The draw of AddRegisters. -/
import Derived.Test.YtmmonhagceacjaaDrawRun
import Derived.Test.YtmmonhagceacjaaStepR
import Derived.Test.YtmmonhagceacjaaRegFrom
namespace Go.Proofs.Ytmmonhagceacjaa
open Go.RowKit
set_option linter.unusedVariables false
set_option maxRecDepth 100000
def AddPost (w : World) (e : Ending) (w' : World) : Prop := ∃ S T X S' T' X' : Int, e = .returned (.tuple #[.agg #[.int .i64 S, .int .i64 T, .int .i64 X], .agg #[.int .i64 S', .int .i64 T', .int .i64 X']]) ∧ Below w.heap.size w w'
set_option maxHeartbeats 6400000 in
theorem drawAdd_any (a : Option Addr) (len cap : Nat) (zs : List Int) (w : World) (h : IsBytes w a len cap zs) :
    Calls Try.prog 20 #[.slice a len cap] w (AddPost w) := by
  go_enter Try.func20, Try.ntmps20
  go_wp2_with fail
  obtain ⟨W, hB, hD, hE, hf, hf', hW⟩ := two_new' w 24 0 0 0
  rw [hW]
  clear hW
  have h' : IsBytes W a len cap zs := h.below hB
  refine (open_any a len cap zs _ h').mono ?_
  rintro e w1 ⟨b, ys, rfl, hr1, hb1, hlb⟩
  have b1 := below_then hB (Nat.le_refl _) hb1
  have hD1 := (show BoxF W w.heap.size 0 0 0 from ⟨hD, hf⟩).below hb1 hD.2.2.2
  have hE1 := (show BoxF W (w.heap.size + 1) 0 0 0 from ⟨hE, hf'⟩).below hb1 hE.2.2.2
  have hlb' : w.heap.size + 1 < b := by have := hE.2.2.2; omega
  clear hB hD hE hf hf' h h' hb1 hlb
  go_wp2_with fail
  refine (l1Some_any b 0 ys _ hr1 (by omega)).mono ?_
  rintro e w2 ⟨s, t, x, q, rfl, hR, hq, hr2, hg2⟩
  have b2 := below_grown b1 (Nat.le_refl _) hg2 (by omega)
  have hD2 := hD1.kept hg2 (by simp; omega)
  have hE2 := hE1.kept hg2 (by simp; omega)
  clear b1 hr1 hD1 hE1 hg2
  obtain ⟨V, hbV, hAV, hV⟩ : ∃ V, Below w2.heap.size w2 V ∧ RegAt V w2.heap.size s t x ∧ w2.alloc (.cells #[.int .i64 s, .int .i64 t, .int .i64 x] 24) = V := ⟨_, (Below.refl _ w2).alloc (Nat.le_refl _) _, RegAt.new w2 _ s t x, rfl⟩
  have b3 := below_then b2 (Nat.le_refl _) hbV
  have hD3 := hD2.below hbV hD2.lt
  have hE3 := hE2.below hbV hE2.lt
  have hr3 := hr2.below hbV
  have hba : b < w2.heap.size := hr2.1
  have hwa : w.heap.size ≤ w2.heap.size := b2.size
  obtain ⟨ka, hka⟩ : ∃ k, w2.heap.size = k := ⟨_, rfl⟩
  rw [hka] at hAV hba hwa
  obtain ⟨x0, x1, x2, xl⟩ := id hAV
  obtain ⟨U, hbU, hBU, hU⟩ : ∃ U, Below V.heap.size V U ∧ BoxF U V.heap.size s t x ∧ V.alloc (.cells #[.int .i64 s, .int .i64 t, .int .i64 x] 24) = U := ⟨_, (Below.refl _ V).alloc (Nat.le_refl _) _, BoxF.new V _ s t x, rfl⟩
  have b4 := below_then b3 (Nat.le_refl _) hbU
  have hD4 := hD3.below hbU hD3.lt
  have hE4 := hE3.below hbU hE3.lt
  have hA4 := hAV.below hbU hAV.2.2.2
  have hr4 := hr3.below hbU
  obtain ⟨kb, hkb⟩ : ∃ k, V.heap.size = k := ⟨_, rfl⟩
  rw [hkb] at hBU xl
  obtain ⟨y0, y1, y2, yl⟩ := id hA4
  have hl := tw_le s hR.hi
  have hp := tw_pos s
  have ht2 := fun w => l1Two_any s w hR.hi
  obtain ⟨T0, hT0⟩ : ∃ T, tw s = T := ⟨_, rfl⟩
  rw [hT0] at hl hp ht2
  have HT2 := Lib.hid ht2
  have HT0 := Lib.hid hT0
  clear ht2 hT0 hD2 hE2 hr2 b2 hD3 hE3 hr3 b3
  go_wp2_with fail
  refine (HT2.out _).mono ?_
  rintro e w' ⟨rfl, rfl⟩
  clear hV hka hU hkb hbV hbU HT2 x0 x1 x2 hAV
  go_wp2_with fail
  refine (pick_any b q T0 ys _ hr4 (by omega) (by omega) (by omega)).mono ?_
  rintro e w5 ⟨k, hk, rfl, hr5, hg5⟩
  have b5 := below_grown b4 (Nat.le_refl _) hg5 (by omega)
  have hD5 := hD4.kept hg5 (by simp; omega)
  have hE5 := hE4.kept hg5 (by simp; omega)
  have hA5 := hA4.kept hg5 (by simp; omega)
  have hB5 := hBU.kept hg5 (by simp; omega)
  have hRk : RegN s t k := ⟨hR.lo, hR.hi, hR.tap, hR.tapLt, by rw [HT0.out]; exact hk⟩
  clear b4 hr4 hD4 hE4 hA4 hBU hg5 y0 y1 y2 HT0 hk
  obtain ⟨U6, hU6, hB6, gB, bB⟩ := hB5.set1 (k : Int)
  have b6 := bB _ _ (show w.heap.size ≤ kb by omega) b5
  have hD6 := hD5.kept gB (by simp; omega)
  have hE6 := hE5.kept gB (by simp; omega)
  have hA6 := hA5.kept gB (by simp; omega)
  have hr6 := hr5.kept gB (fun j e => by cases e; omega)
  have g2 := hB5.2 2
  obtain ⟨m0, m1, m2, ml⟩ := id hB5.1
  clear b5 hD5 hE5 hA5 hr5 gB bB hB5
  go_wp2_with fail
  refine (pick_any b (q + 1) 8 ys _ hr6 (by omega) (by omega) (by omega)).mono ?_
  rintro e w7 ⟨c, hc, rfl, hr7, hg7⟩
  have b7 := below_grown b6 (Nat.le_refl _) hg7 (by omega)
  have hD7 := hD6.kept hg7 (by simp; omega)
  have hE7 := hE6.kept hg7 (by simp; omega)
  have hA7 := hA6.kept hg7 (by simp; omega)
  have hB7 := hB6.kept hg7 (by simp; omega)
  clear b6 hr6 hD6 hE6 hA6 hB6 hg7 hU6 g2 m0 m1 m2 ml
  by_cases hc0 : c = 0
  · subst hc0
    clear hc
    go_wp2_with fail
    refine (l1Some_any b (q + 1 + 1) ys _ hr7 (by omega)).mono ?_
    rintro e w8 ⟨s', t', x', q8, rfl, hR', hq8, hr8, hg8⟩
    have b8 := below_grown b7 (Nat.le_refl _) hg8 (by omega)
    have hD8 := hD7.kept hg8 (by simp; omega)
    have hE8 := hE7.kept hg8 (by simp; omega)
    have hA8 := hA7.kept hg8 (by simp; omega)
    have hB8 := hB7.kept hg8 (by simp; omega)
    clear b7 hr7 hD7 hE7 hA7 hB7 hg8
    obtain ⟨n0, n1, n2, nl⟩ := id hB8.1
    have g0 := hB8.2 0
    have g1 := hB8.2 1
    have g2 := hB8.2 2
    obtain ⟨U9, hU9, hB, gB, bB⟩ := hB8.set s' t' x'
    have bU := bB _ _ (show w.heap.size ≤ kb by omega) b8
    have hD := hD8.kept gB (by simp; omega)
    have hE := hE8.kept gB (by simp; omega)
    have hA := hA8.kept gB (by simp; omega)
    have hrU := hr8.kept gB (fun j e => by cases e; omega)
    clear b8 hD8 hE8 hA8 hr8 gB bB hB8
    obtain ⟨c0, c1, c2, cl⟩ := id hA
    obtain ⟨e0, e1, e2, el⟩ := id hB.1
    have hbU : b < kb := by omega
    go_wp2_with fail
    clear hU9 n0 n1 n2 nl g0 g1 g2
    go_region_with ((first
      | (go_at_call 71; ((with_reducible refine (l1Bad_any b q8 ys s t x _ hrU.drew (by omega) hR).mono ?_); rintro e w5 ⟨S1, T1, X1, q5, rfl, fS1, fT1, fX1, hq5, r5, g5⟩; obtain ⟨m0, m1, m2, ml⟩ := (hB.1.kept (drew_grow _ (some b)) (by simp; omega)).kept g5 (by simp; omega)))
      | (go_at_call 71; ((with_reducible refine (l1Bad_any b q5 ys s' t' x' _ r5 (by omega) hR').mono ?_); rintro e w6 ⟨S2, T2, X2, q6, rfl, fS2, fT2, fX2, hq6, r6, g6⟩; have g9 := ((drew_grow U9 (some b)).trans g5).trans g6; have b9 := below_grown bU (Nat.le_refl _) g9 (by omega); have hD9 := hD.kept g9 (by simp; omega); have hE9 := hE.kept g9 (by simp; omega); obtain ⟨d0, d1, d2, dl⟩ := hD9.1; obtain ⟨d3, d4, d5, dm⟩ := hE9.1; have g0 := hD9.2 0; have g1 := hD9.2 1; have g2 := hD9.2 2; have g3 := hE9.2 0; have g4 := hE9.2 1; have gg5 := hE9.2 2))))
    all_goals
      clear hA hB hD hE bU hrU r5 r6 g5 g6 g9 hD9 hE9
      go_wp2
      refine bodyPost_ret (v := .tuple #[.agg #[.int .i64 S1, .int .i64 T1, .int .i64 X1], .agg #[.int .i64 S2, .int .i64 T2, .int .i64 X2]]) (by simp [results, Try.results20, go_sem, d0, d1, d2, d3, d4, d5]) rfl ⟨S1, T1, X1, S2, T2, X2, rfl, ?_⟩
      go_grown
  · have hc1 : ((c : Int) == 0) = false := by rw [beq_eq_false_iff_ne]; omega
    have hB := hB7
    have hD := hD7
    have hE := hE7
    have hA := hA7
    have hrU := hr7
    have bU := b7
    clear hB7 hD7 hE7 hA7 hr7 b7 hc hc0
    obtain ⟨c0, c1, c2, cl⟩ := id hA
    obtain ⟨e0, e1, e2, el⟩ := id hB.1
    have hbU : b < kb := by omega
    go_wp2_with fail
    go_region_with ((first
      | (go_at_call 71; ((with_reducible refine (l1Bad_any b (q + 1 + 1) ys s t x _ hrU.drew (by omega) hR).mono ?_); rintro e w5 ⟨S1, T1, X1, q5, rfl, fS1, fT1, fX1, hq5, r5, g5⟩; obtain ⟨m0, m1, m2, ml⟩ := (hB.1.kept (drew_grow _ (some b)) (by simp; omega)).kept g5 (by simp; omega)))
      | (go_at_call 71; ((with_reducible refine (l1Bad_any b q5 ys s t k _ r5 (by omega) hRk).mono ?_); rintro e w6 ⟨S2, T2, X2, q6, rfl, fS2, fT2, fX2, hq6, r6, g6⟩; have g9 := ((drew_grow w7 (some b)).trans g5).trans g6; have b9 := below_grown bU (Nat.le_refl _) g9 (by omega); have hD9 := hD.kept g9 (by simp; omega); have hE9 := hE.kept g9 (by simp; omega); obtain ⟨d0, d1, d2, dl⟩ := hD9.1; obtain ⟨d3, d4, d5, dm⟩ := hE9.1; have g0 := hD9.2 0; have g1 := hD9.2 1; have g2 := hD9.2 2; have g3 := hE9.2 0; have g4 := hE9.2 1; have gg5 := hE9.2 2))))
    all_goals
      clear hA hB hD hE bU hrU r5 r6 g5 g6 g9 hD9 hE9
      go_wp2
      refine bodyPost_ret (v := .tuple #[.agg #[.int .i64 S1, .int .i64 T1, .int .i64 X1], .agg #[.int .i64 S2, .int .i64 T2, .int .i64 X2]]) (by simp [results, Try.results20, go_sem, d0, d1, d2, d3, d4, d5]) rfl ⟨S1, T1, X1, S2, T2, X2, rfl, ?_⟩
      go_grown
end Go.Proofs.Ytmmonhagceacjaa
