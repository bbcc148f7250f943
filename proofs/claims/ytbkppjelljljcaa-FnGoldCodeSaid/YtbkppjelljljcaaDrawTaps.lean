/- The draws of a size and two taps, and of GoldCode. -/
import Derived.Test.YtbkppjelljljcaaPrs
namespace Go.Proofs.Ytbkppjelljljcaa
open Go.RowKit
set_option linter.unusedVariables false
set_option maxRecDepth 100000
theorem PF.offp {w : World} {B b : Nat} {v : Value} {n : Nat} {f : Nat → Int × Int} (h : PF w B v n f) (hb : b < B) : v.ownBlock = none ∨ v.ownBlock ≠ some b := by
  cases hv : v.ownBlock with
  | none => exact .inl rfl
  | some q => right; intro e; cases e; have := (h.lt _ hv).1; omega
def L3Post (b p : Nat) (zs : List Int) (w : World) (e : Ending) (w' : World) : Prop :=
  ∃ (S A D : Int) (q : Nat), e = .returned (.tuple #[.int .i64 S, .int .i64 A, .int .i64 D]) ∧ q ≤ p + 10 ∧ RdAt w' b q zs ∧ w.grownBy w' (some b)
set_option maxHeartbeats 6400000 in
theorem l3Taps_any (b p : Nat) (zs : List Int) (w : World) (hr : RdAt w b p zs) (hp : p ≤ 900000) :
    Calls Try.prog 27 #[.pointer (some ⟨b, 0, none⟩)] w (L3Post b p zs w) := by
  have hbl := hr.1
  go_enter Try.func27, Try.ntmps27
  go_wp2_with fail
  refine (num_any b p zs _ w.heap.size 6 [3, 3, 4, 2, 3, 5] (hr.alloc _) (IntsAt.new w 3 [3, 3, 4, 2, 3, 5]) rfl hr.1 (by omega) (by omega) (by omega)).mono ?_
  rintro e w1 ⟨v, hv, rfl, hr1, hg1⟩
  obtain ⟨s, rfl, s2, s5⟩ : ∃ s : Nat, v = s ∧ 2 ≤ s ∧ s ≤ 5 := by
    simp only [List.mem_cons, List.not_mem_nil, or_false] at hv
    exact ⟨v.toNat, by omega, by omega, by omega⟩
  have g1 : w.grownBy w1 (some b) := (World.grownBy_alloc w _ (some b)).trans hg1
  have z1 := g1.size
  have HS := Lib.hid (And.intro s2 s5)
  clear hr hg1 hv s2 s5
  go_wp2_with fail
  refine (somePairs s _ HS.out.1 HS.out.2).mono ?_
  rintro e w2 ⟨pv, P, pf, rfl, P2, hP9, hb⟩
  have r2 := hr1.below hb
  have g2 := g1.trans (grow hb (some b))
  have z2 := hb.size
  obtain ⟨pa, pc, rfl, -⟩ := P2.form
  clear hr1 g1 hb
  go_wp2_with fail
  refine (mTaps_any s _ HS.out.1 HS.out.2).mono ?_
  rintro e w3 ⟨lv, n, F, rfl, O3, n1, n3, -, hb⟩
  have r3 := r2.below hb
  have g3 := g2.trans (grow hb (some b))
  have P3 := P2.below hb
  obtain ⟨la, lc, rfl, hla⟩ := O3.form
  obtain ⟨g, rfl, hgB, hgl, -⟩ := hla (by omega)
  have hbg : b < g := by omega
  have hbp : b < w1.heap.size := by omega
  obtain ⟨OB, hOB⟩ : ∃ B, w2.heap.size = B := ⟨_, rfl⟩
  obtain ⟨PB, hPB⟩ : ∃ B, w1.heap.size = B := ⟨_, rfl⟩
  rw [hOB] at O3
  rw [hPB] at P3 hbp
  clear r2 g2 hb P2 hla hgB hgl z1 z2 hOB hPB
  go_wp2_with fail
  refine (pick_any b (p + 1) n zs _ r3 (by omega) (by omega) (by omega)).mono ?_
  rintro e w4 ⟨k, hk, rfl, r4, hg4⟩
  have g4 := g3.trans hg4
  have O4 := O3.kept hg4 (.inr (by simp [Value.ownBlock]; omega))
  have P4 := P3.kept hg4 (P3.offp hbp)
  have c4 := (O4.at k hk).1
  obtain ⟨A, hA⟩ : ∃ A, F k = A := ⟨_, rfl⟩
  rw [hA] at c4
  have i0 : (0 : Int) ≤ (k : Int) := by omega
  have i1 : (k : Int) < (n : Int) := by omega
  clear r3 g3 hg4 O3 P3 hA
  go_wp2_with fail
  clear c4 i0 i1
  refine (pick_any b (p + 1 + 1) n zs _ r4 (by omega) (by omega) (by omega)).mono ?_
  rintro e w5 ⟨k2, hk2, rfl, r5, hg5⟩
  have g5 := g4.trans hg5
  have O5 := O4.kept hg5 (.inr (by simp [Value.ownBlock]; omega))
  have P5 := P4.kept hg5 (P4.offp hbp)
  have c5 := (O5.at k2 hk2).1
  obtain ⟨D, hD⟩ : ∃ D, F k2 = D := ⟨_, rfl⟩
  rw [hD] at c5
  have i0 : (0 : Int) ≤ (k2 : Int) := by omega
  have i1 : (k2 : Int) < (n : Int) := by omega
  clear r4 g4 hg5 O4 P4 hD O5 hk
  by_cases hP0 : P = 0
  · subst hP0
    go_wp2_with fail
    clear c5 i0 i1
    refine (pick_any b (p + 1 + 1 + 1) 24 zs _ r5 (by omega) (by omega) (by omega)).mono ?_
    rintro e wT ⟨c, hc, rfl, rT, hgT⟩
    have gT := g5.trans hgT
    clear r5 g5 hgT
    have hs2 := HS.out.1
    have hs5 := HS.out.2
    by_cases c0 : c = 0
    · subst c0
      go_wp2_with fail
      refine (num_any b (p + 1 + 1 + 1 + 1) zs _ wT.heap.size 4 [0, 1, -1, 2] (rT.alloc _) (IntsAt.new wT 3 [0, 1, -1, 2]) rfl rT.1 (by omega) (by omega) (by omega)).mono ?_
      rintro e w9 ⟨v, -, rfl, r9, hg9⟩
      have g9 := (gT.trans (World.grownBy_alloc wT _ (some b))).trans hg9
      clear rT gT hg9
      go_wp2
      refine bodyPost_ret (v := .tuple #[.int .i64 (s : Int), .int .i64 v, .int .i64 D]) (by simp [results, Try.results27, go_sem]) rfl ⟨(s : Int), v, D, p + 1 + 1 + 1 + 1 + 1, rfl, by omega, r9, g9⟩
    · by_cases c1 : c = 1
      · subst c1
        go_wp2_with fail
        refine (num_any b (p + 1 + 1 + 1 + 1) zs _ wT.heap.size 4 [1, 7, 9, (s : Int) + 1] (rT.alloc _) (IntsAt.new wT 3 [1, 7, 9, (s : Int) + 1]) rfl rT.1 (by omega) (by omega) (by omega)).mono ?_
        rintro e w9 ⟨v, -, rfl, r9, hg9⟩
        have g9 := (gT.trans (World.grownBy_alloc wT _ (some b))).trans hg9
        clear rT gT hg9
        go_wp2
        refine bodyPost_ret (v := .tuple #[.int .i64 v, .int .i64 A, .int .i64 D]) (by simp [results, Try.results27, go_sem]) rfl ⟨v, A, D, p + 1 + 1 + 1 + 1 + 1, rfl, by omega, r9, g9⟩
      · have c2 : ((c : Int) == 0) = false := by rw [beq_eq_false_iff_ne]; omega
        have c3 : ((c : Int) == 1) = false := by rw [beq_eq_false_iff_ne]; omega
        go_wp2
        refine bodyPost_ret (v := .tuple #[.int .i64 (s : Int), .int .i64 A, .int .i64 D]) (by simp [results, Try.results27, go_sem]) rfl ⟨(s : Int), A, D, p + 1 + 1 + 1 + 1, rfl, by omega, rT, gT⟩
  · have p0 : (0 : Int) < (P : Int) := by omega
    go_wp2_with fail
    clear c5 i0 i1
    refine (pick_any b (p + 1 + 1 + 1) 3 zs _ r5 (by omega) (by omega) (by omega)).mono ?_
    rintro e w6 ⟨j, hj, rfl, r6, hg6⟩
    have g6 := g5.trans hg6
    have P6 := P5.kept hg6 (P5.offp hbp)
    clear r5 g5 hg6 P5
    by_cases j0 : j = 0
    · subst j0
      go_wp2_with fail
      refine (pick_any b (p + 1 + 1 + 1 + 1) 24 zs _ r6 (by omega) (by omega) (by omega)).mono ?_
      rintro e wT ⟨c, hc, rfl, rT, hgT⟩
      have gT := g6.trans hgT
      clear r6 g6 hgT
      have hs2 := HS.out.1
      have hs5 := HS.out.2
      by_cases c0 : c = 0
      · subst c0
        go_wp2_with fail
        refine (num_any b (p + 1 + 1 + 1 + 1 + 1) zs _ wT.heap.size 4 [0, 1, -1, 2] (rT.alloc _) (IntsAt.new wT 3 [0, 1, -1, 2]) rfl rT.1 (by omega) (by omega) (by omega)).mono ?_
        rintro e w9 ⟨v, -, rfl, r9, hg9⟩
        have g9 := (gT.trans (World.grownBy_alloc wT _ (some b))).trans hg9
        clear rT gT hg9
        go_wp2
        refine bodyPost_ret (v := .tuple #[.int .i64 (s : Int), .int .i64 v, .int .i64 D]) (by simp [results, Try.results27, go_sem]) rfl ⟨(s : Int), v, D, p + 1 + 1 + 1 + 1 + 1 + 1, rfl, by omega, r9, g9⟩
      · by_cases c1 : c = 1
        · subst c1
          go_wp2_with fail
          refine (num_any b (p + 1 + 1 + 1 + 1 + 1) zs _ wT.heap.size 4 [1, 7, 9, (s : Int) + 1] (rT.alloc _) (IntsAt.new wT 3 [1, 7, 9, (s : Int) + 1]) rfl rT.1 (by omega) (by omega) (by omega)).mono ?_
          rintro e w9 ⟨v, -, rfl, r9, hg9⟩
          have g9 := (gT.trans (World.grownBy_alloc wT _ (some b))).trans hg9
          clear rT gT hg9
          go_wp2
          refine bodyPost_ret (v := .tuple #[.int .i64 v, .int .i64 A, .int .i64 D]) (by simp [results, Try.results27, go_sem]) rfl ⟨v, A, D, p + 1 + 1 + 1 + 1 + 1 + 1, rfl, by omega, r9, g9⟩
        · have c2 : ((c : Int) == 0) = false := by rw [beq_eq_false_iff_ne]; omega
          have c3 : ((c : Int) == 1) = false := by rw [beq_eq_false_iff_ne]; omega
          go_wp2
          refine bodyPost_ret (v := .tuple #[.int .i64 (s : Int), .int .i64 A, .int .i64 D]) (by simp [results, Try.results27, go_sem]) rfl ⟨(s : Int), A, D, p + 1 + 1 + 1 + 1 + 1, rfl, by omega, rT, gT⟩
    · have j1 : (0 : Int) < (j : Int) := by omega
      go_wp2_with fail
      refine (pick_any b (p + 1 + 1 + 1 + 1) P zs _ r6 (by omega) (by omega) (by omega)).mono ?_
      rintro e w7 ⟨m, hm, rfl, r7, hg7⟩
      have g7 := g6.trans hg7
      have P7 := P6.kept hg7 (P6.offp hbp)
      obtain ⟨pa', pc', hpe, hpa'⟩ := P7.form
      obtain ⟨pg, rfl, -, -⟩ := hpa' (by omega)
      injection hpe with he1 he2 he3
      subst he1 he3
      obtain ⟨x0, x1⟩ := P7.cells m hm
      obtain ⟨A2, hA2⟩ : ∃ A, (pf m).1 = A := ⟨_, rfl⟩
      obtain ⟨D2, hD2⟩ : ∃ D, (pf m).2 = D := ⟨_, rfl⟩
      rw [hA2] at x0
      rw [hD2] at x1
      have i0 : (0 : Int) ≤ (m : Int) := by omega
      have i1 : (m : Int) < (P : Int) := by omega
      have r8 := r7.alloc (.cells #[.int .i64 A2, .int .i64 D2] 74)
      have g8 := g7.trans (World.grownBy_alloc w7 (.cells #[.int .i64 A2, .int .i64 D2] 74) (some b))
      clear r6 g6 hg7 P6 P7 hpa' hA2 hD2 r7 g7 he2
      go_wp2_with fail
      clear x0 x1 i0 i1
      refine (pick_any b (p + 1 + 1 + 1 + 1 + 1) 24 zs _ r8 (by omega) (by omega) (by omega)).mono ?_
      rintro e wT ⟨c, hc, rfl, rT, hgT⟩
      have gT := g8.trans hgT
      clear r8 g8 hgT
      have hs2 := HS.out.1
      have hs5 := HS.out.2
      by_cases c0 : c = 0
      · subst c0
        go_wp2_with fail
        refine (num_any b (p + 1 + 1 + 1 + 1 + 1 + 1) zs _ wT.heap.size 4 [0, 1, -1, 2] (rT.alloc _) (IntsAt.new wT 3 [0, 1, -1, 2]) rfl rT.1 (by omega) (by omega) (by omega)).mono ?_
        rintro e w9 ⟨v, -, rfl, r9, hg9⟩
        have g9 := (gT.trans (World.grownBy_alloc wT _ (some b))).trans hg9
        clear rT gT hg9
        go_wp2
        refine bodyPost_ret (v := .tuple #[.int .i64 (s : Int), .int .i64 v, .int .i64 D2]) (by simp [results, Try.results27, go_sem]) rfl ⟨(s : Int), v, D2, p + 1 + 1 + 1 + 1 + 1 + 1 + 1, rfl, by omega, r9, g9⟩
      · by_cases c1 : c = 1
        · subst c1
          go_wp2_with fail
          refine (num_any b (p + 1 + 1 + 1 + 1 + 1 + 1) zs _ wT.heap.size 4 [1, 7, 9, (s : Int) + 1] (rT.alloc _) (IntsAt.new wT 3 [1, 7, 9, (s : Int) + 1]) rfl rT.1 (by omega) (by omega) (by omega)).mono ?_
          rintro e w9 ⟨v, -, rfl, r9, hg9⟩
          have g9 := (gT.trans (World.grownBy_alloc wT _ (some b))).trans hg9
          clear rT gT hg9
          go_wp2
          refine bodyPost_ret (v := .tuple #[.int .i64 v, .int .i64 A2, .int .i64 D2]) (by simp [results, Try.results27, go_sem]) rfl ⟨v, A2, D2, p + 1 + 1 + 1 + 1 + 1 + 1 + 1, rfl, by omega, r9, g9⟩
        · have c2 : ((c : Int) == 0) = false := by rw [beq_eq_false_iff_ne]; omega
          have c3 : ((c : Int) == 1) = false := by rw [beq_eq_false_iff_ne]; omega
          go_wp2
          refine bodyPost_ret (v := .tuple #[.int .i64 (s : Int), .int .i64 A2, .int .i64 D2]) (by simp [results, Try.results27, go_sem]) rfl ⟨(s : Int), A2, D2, p + 1 + 1 + 1 + 1 + 1 + 1, rfl, by omega, rT, gT⟩
set_option maxHeartbeats 1600000 in
theorem drawGoldC_any (a : Option Addr) (len cap : Nat) (zs : List Int) (w : World) (h : IsBytes w a len cap zs) :
    Calls Try.prog 10 #[.slice a len cap] w fun e w' => ∃ S A D K : Int, e = .returned (.tuple #[.int .i64 S, .int .i64 A, .int .i64 D, .int .i64 K]) ∧ Below w.heap.size w w' := by
  go_enter Try.func10, Try.ntmps10
  go_wp2_with fail
  refine (open_any a len cap zs _ h).mono ?_
  rintro e w1 ⟨b, ys, rfl, hr, hb, hlb⟩
  clear h
  go_wp2_with fail
  refine (l3Taps_any b 0 ys _ hr (by omega)).mono ?_
  rintro e w2 ⟨S, A, D, q, rfl, hq, r2, g2⟩
  clear hr
  go_wp2_with fail
  refine (pick_any b q 10 ys _ r2 (by omega) (by omega) (by omega)).mono ?_
  rintro e w3 ⟨k, hk, rfl, r3, hg3⟩
  have g3 := g2.trans hg3
  clear r2 g2 hg3
  go_wp2_with fail
  refine (pick_any b (q + 1) 12 ys _ r3 (by omega) (by omega) (by omega)).mono ?_
  rintro e w4 ⟨c, hc, rfl, r4, hg4⟩
  have g4 := g3.trans hg4
  clear r3 g3 hg4
  by_cases c0 : c = 0
  · subst c0
    clear hc
    go_wp2_with fail
    refine (num_any b (q + 1 + 1) ys _ w4.heap.size 6 [-3, 6, 7, 30, 31, 9223372036854775807] (r4.alloc _) (IntsAt.new w4 3 [-3, 6, 7, 30, 31, 9223372036854775807]) rfl r4.1 (by omega) (by omega) (by omega)).mono ?_
    rintro e w5 ⟨v, -, rfl, -, hg5⟩
    have b5 := below_grown hb (Nat.le_refl _) ((g4.trans (World.grownBy_alloc w4 _ (some b))).trans hg5) hlb
    clear r4 g4 hg5 hb hk
    go_wp2
    refine bodyPost_ret (v := .tuple #[.int .i64 S, .int .i64 A, .int .i64 D, .int .i64 v]) (by simp [results, Try.results10, go_sem]) rfl ⟨S, A, D, v, rfl, b5⟩
  · have c1 : ((c : Int) == 0) = false := by rw [beq_eq_false_iff_ne]; omega
    have b5 := below_grown hb (Nat.le_refl _) g4 hlb
    clear r4 g4 hb hc c0
    go_wp2
    refine bodyPost_ret (v := .tuple #[.int .i64 S, .int .i64 A, .int .i64 D, .int .i64 ((k : Int) - 2)]) (by simp [results, Try.results10, go_sem]) rfl ⟨S, A, D, _, rfl, b5⟩
end Go.Proofs.Ytbkppjelljljcaa
