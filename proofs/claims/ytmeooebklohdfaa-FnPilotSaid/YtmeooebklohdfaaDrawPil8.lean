/- The draw of PilotSignal. -/
import Derived.Test.YtmeooebklohdfaaDrawPil5
namespace Go.Proofs.Ytmeooebklohdfaa
open Go.RowKit
set_option linter.unusedVariables false
set_option maxRecDepth 100000
/-- A pilot, an offset, a number of samples and a gain were drawn. -/
def PsPost (w : World) (e : Ending) (w' : World) : Prop :=
  ∃ (c : ByteArray) (g k q a : Int), e = .returned (.tuple #[.agg #[.string c, .int .i64 g], .int .i64 k, .int .i64 q, .int .i64 a]) ∧ c.size ≤ 1000 ∧ FitsI g ∧ FitsI k ∧ FitsI q ∧ FitsI a ∧ Below w.heap.size w w'
set_option maxHeartbeats 3200000 in
theorem drawPSig_any (a : Option Addr) (len cap : Nat) (zs : List Int) (w : World) (h : IsBytes w a len cap zs) :
    Calls Try.prog 13 #[.slice a len cap] w (PsPost w) := by
  have b0 := (Below.refl w.heap.size w).alloc (Nat.le_refl _) (.cells #[.string ⟨#[]⟩, .int .i64 0] 24)
  have P0 := PilW.new w 24 ⟨#[]⟩ 0
  have h0 : IsBytes (w.alloc (.cells #[.string ⟨#[]⟩, .int .i64 0] 24)) a len cap zs := h.below ((Below.refl _ _).alloc (Nat.le_refl _) _)
  have hsA : (w.alloc (.cells #[.string ⟨#[]⟩, .int .i64 0] 24)).heap.size = w.heap.size + 1 := by simp
  clear h
  go_enter Try.func13, Try.ntmps13
  go_wp2_with fail
  refine (open_any a len cap zs _ h0).mono ?_
  rintro e w1 ⟨b, ys, rfl, hr, hb, hlb⟩
  have hwb : w.heap.size < b := by rw [hsA] at hlb; omega
  have g1 := grownAnyQ (grown_of_below hb) (some b)
  have hb1 := hr.1
  clear hb hlb
  go_wp2_with fail
  refine (l5Pilot_any b 0 ys _ hr (by omega)).mono ?_
  rintro e w2 ⟨c, g, q, rfl, hD, hq, r2, h2⟩
  have g2 := g1.trans h2
  have QV := PilAt.new w2 24 c g
  have rV := r2.alloc (.cells #[.string c, .int .i64 g] 24)
  have gV := g2.trans (World.grownBy_alloc w2 (.cells #[.string c, .int .i64 g] 24) (some b))
  have hb2 : b < w2.heap.size := r2.1
  have hDz := hD.2.1
  have hDg := hD.fit
  have hw1 : w.heap.size < w1.heap.size := by omega
  have HN := Lib.hid (fun p (o : Int) W (h : RdAt W b p ys) (hp : p ≤ 800000) (h0 : 0 ≤ o) (h1 : o ≤ 100000) => l5Near_any b p ys c g o W h hp hD h0 h1)
  clear hr h2 g1 g2 r2 hD h0 b0
  obtain ⟨d0, d1, dl⟩ := id QV
  go_wp2_with fail
  obtain ⟨X, hX⟩ : ∃ X, w2.heap.size = X := ⟨_, rfl⟩
  obtain ⟨V, hV⟩ : ∃ V, w2.alloc (.cells #[.string c, .int .i64 g] 24) = V := ⟨_, rfl⟩
  rw [hV] at rV gV QV ⊢
  rw [hX] at QV hb2 ⊢
  clear hV hX d0 d1 dl
  refine (HN.out q 0 _ rV (by omega) (by omega) (by omega)).mono ?_
  rintro e w5 ⟨x1, q3, rfl, hx2, hq4, r6, z7⟩
  have h8 := z7
  clear rV z7
  go_wp2_with fail
  refine (pick_any b q3 60 ys _ r6 (by omega) (by omega) (by omega)).mono ?_
  rintro e w11 ⟨k9, hk10, rfl, r12, z13⟩
  have h14 := h8.trans z13
  clear r6 z13 h8
  go_wp2_with fail
  refine (pick_any b (q3 + 1) 9 ys _ r12 (by omega) (by omega) (by omega)).mono ?_
  rintro e w17 ⟨k15, hk16, rfl, r18, z19⟩
  have h20 := h14.trans z19
  clear r12 z19 h14
  go_wp2_with fail
  refine (pick_any b ((q3 + 1) + 1) 20 ys _ r18 (by omega) (by omega) (by omega)).mono ?_
  rintro e w23 ⟨k21, hk22, rfl, r24, z25⟩
  have h26 := h20.trans z25
  clear r18 z25 h20
  have f1' : FitsI (k9 : Int) := by unfold FitsI; omega
  have f2' : FitsI ((k15 : Int) - 4) := by unfold FitsI; omega
  by_cases k0 : k21 = 0
  · skip
    subst k0
    clear hk22 f1'
    go_wp2_with fail
    refine (num_any b (((q3 + 1) + 1) + 1) ys _ w23.heap.size 3 [-1, 3000, 3001] (r24.alloc _) (IntsAt.new w23 _ [-1, 3000, 3001]) rfl r24.1 (by omega) (by omega) (by omega)).mono ?_
    rintro e w31 ⟨y27, hy28, rfl, r29, z30⟩
    have z32 := (World.grownBy_alloc w23 (.cells #[.int .i64 (-1), .int .i64 3000, .int .i64 3001] 3) (some b)).trans z30
    clear z30
    have h33 := h26.trans z32
    clear r24 z32 h26
    have F34 : FitsI y27 := by
      simp only [List.mem_cons, List.not_mem_nil, or_false] at hy28
      unfold FitsI; omega
    clear hy28
    obtain ⟨d0, d1, dl⟩ := QV.kept h33 (by simp; omega)
    go_wp2_with fail
    refine (l5Bad_any b ((((q3 + 1) + 1) + 1) + 1) ys c g _ r29 (by omega) (by omega) hDg).mono ?_
    rintro e w35 ⟨C, X9, q9, rfl, hC, hX9, hq9, r36, z37⟩
    clear d0 d1 dl
    have h38 := h33.trans z37
    clear r29 z37 h33
    have g9 := gV.trans h38
    obtain ⟨⟨e0, e1, el⟩, ef⟩ := P0.kept g9 (by simp; omega)
    have f0 := ef 0
    have f1 := ef 1
    have b9 := ((Below.refl w.heap.size w).alloc (Nat.le_refl _) (.cells #[.string ⟨#[]⟩, .int .i64 0] 24)).grown g9 (by rw [hsA]; omega) (fun k hk => by cases hk; omega)
    have hws : w.heap.size ≤ w35.heap.size := by omega
    clear h38 r36 gV QV g9 P0 ef HN hsA
    go_wp2
    refine bodyPost_ret (v := .tuple #[.agg #[.string C, .int .i64 X9], .int .i64 x1, .int .i64 y27, .int .i64 ((k15 : Int) - 4)]) (by simp [results, Try.results13, go_sem, e0, e1]) rfl ?_
    exact ⟨C, X9, x1, y27, ((k15 : Int) - 4), rfl, hC, hX9, hx2, F34, f2', b9.grown (pgrown2 0 1 (.string C) (.int .i64 X9)) hws (fun k hk => by cases hk; exact Nat.le_refl _)⟩
  · skip
    by_cases kk1 : k21 = 1
    · skip
      subst kk1
      clear hk22 k0 f2'
      go_wp2_with fail
      refine (num_any b (((q3 + 1) + 1) + 1) ys _ w23.heap.size 3 [1000, 1001, -1001] (r24.alloc _) (IntsAt.new w23 _ [1000, 1001, -1001]) rfl r24.1 (by omega) (by omega) (by omega)).mono ?_
      rintro e w31 ⟨y27, hy28, rfl, r29, z30⟩
      have z32 := (World.grownBy_alloc w23 (.cells #[.int .i64 1000, .int .i64 1001, .int .i64 (-1001)] 3) (some b)).trans z30
      clear z30
      have h33 := h26.trans z32
      clear r24 z32 h26
      have F34 : FitsI y27 := by
        simp only [List.mem_cons, List.not_mem_nil, or_false] at hy28
        unfold FitsI; omega
      clear hy28
      obtain ⟨d0, d1, dl⟩ := QV.kept h33 (by simp; omega)
      go_wp2_with fail
      refine (l5Bad_any b ((((q3 + 1) + 1) + 1) + 1) ys c g _ r29 (by omega) (by omega) hDg).mono ?_
      rintro e w35 ⟨C, X9, q9, rfl, hC, hX9, hq9, r36, z37⟩
      clear d0 d1 dl
      have h38 := h33.trans z37
      clear r29 z37 h33
      have g9 := gV.trans h38
      obtain ⟨⟨e0, e1, el⟩, ef⟩ := P0.kept g9 (by simp; omega)
      have f0 := ef 0
      have f1 := ef 1
      have b9 := ((Below.refl w.heap.size w).alloc (Nat.le_refl _) (.cells #[.string ⟨#[]⟩, .int .i64 0] 24)).grown g9 (by rw [hsA]; omega) (fun k hk => by cases hk; omega)
      have hws : w.heap.size ≤ w35.heap.size := by omega
      clear h38 r36 gV QV g9 P0 ef HN hsA
      go_wp2
      refine bodyPost_ret (v := .tuple #[.agg #[.string C, .int .i64 X9], .int .i64 x1, .int .i64 (k9 : Int), .int .i64 y27]) (by simp [results, Try.results13, go_sem, e0, e1]) rfl ?_
      exact ⟨C, X9, x1, (k9 : Int), y27, rfl, hC, hX9, hx2, f1', F34, b9.grown (pgrown2 0 1 (.string C) (.int .i64 X9)) hws (fun k hk => by cases hk; exact Nat.le_refl _)⟩
    · skip
      have t0 : ((k21 : Int) == 0) = false := by simp; omega
      have t1 : ((k21 : Int) == 1) = false := by simp; omega
      obtain ⟨d0, d1, dl⟩ := QV.kept h26 (by simp; omega)
      go_wp2_with fail
      refine (l5Bad_any b (((q3 + 1) + 1) + 1) ys c g _ r24 (by omega) (by omega) hDg).mono ?_
      rintro e w27 ⟨C, X9, q9, rfl, hC, hX9, hq9, r28, z29⟩
      clear d0 d1 dl
      have h30 := h26.trans z29
      clear r24 z29 h26
      have g9 := gV.trans h30
      obtain ⟨⟨e0, e1, el⟩, ef⟩ := P0.kept g9 (by simp; omega)
      have f0 := ef 0
      have f1 := ef 1
      have b9 := ((Below.refl w.heap.size w).alloc (Nat.le_refl _) (.cells #[.string ⟨#[]⟩, .int .i64 0] 24)).grown g9 (by rw [hsA]; omega) (fun k hk => by cases hk; omega)
      have hws : w.heap.size ≤ w27.heap.size := by omega
      clear h30 r28 gV QV g9 P0 ef HN hsA
      go_wp2
      refine bodyPost_ret (v := .tuple #[.agg #[.string C, .int .i64 X9], .int .i64 x1, .int .i64 (k9 : Int), .int .i64 ((k15 : Int) - 4)]) (by simp [results, Try.results13, go_sem, e0, e1]) rfl ?_
      exact ⟨C, X9, x1, (k9 : Int), ((k15 : Int) - 4), rfl, hC, hX9, hx2, f1', f2', b9.grown (pgrown2 0 1 (.string C) (.int .i64 X9)) hws (fun k hk => by cases hk; exact Nat.le_refl _)⟩
end Go.Proofs.Ytmeooebklohdfaa
