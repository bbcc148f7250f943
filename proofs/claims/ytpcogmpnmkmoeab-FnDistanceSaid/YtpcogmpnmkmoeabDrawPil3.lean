/- The draw of OffsetDistance. -/
import Derived.Test.YtpcogmpnmkmoeabDrawPil2
namespace Go.Proofs.Ytpcogmpnmkmoeab
open Go.RowKit
set_option linter.unusedVariables false
set_option maxRecDepth 100000
theorem grownAnyP {w w' : World} (h : w.grownBy w' none) (row : Option Nat) : w.grownBy w' row := ⟨h.os, h.tape, h.output, h.size, fun k hk _ => h.block k hk (by simp)⟩
set_option maxHeartbeats 3200000 in
theorem drawDist_any (a : Option Addr) (len cap : Nat) (zs : List Int) (w : World) (h : IsBytes w a len cap zs) :
    Calls Try.prog 31 #[.slice a len cap] w fun e w' => ∃ (c : ByteArray) (g x y : Int), e = .returned (.tuple #[.agg #[.string c, .int .i64 g], .int .i64 x, .int .i64 y]) ∧ c.size ≤ 1000 ∧ FitsI g ∧ FitsI x ∧ FitsI y ∧ Below w.heap.size w w' := by
  have b0 := (Below.refl w.heap.size w).alloc (Nat.le_refl _) (.cells #[.string ⟨#[]⟩, .int .i64 0] 28)
  have P0 := PilW.new w 28 ⟨#[]⟩ 0
  have h0 : IsBytes (w.alloc (.cells #[.string ⟨#[]⟩, .int .i64 0] 28)) a len cap zs := h.below ((Below.refl _ _).alloc (Nat.le_refl _) _)
  have hsA : (w.alloc (.cells #[.string ⟨#[]⟩, .int .i64 0] 28)).heap.size = w.heap.size + 1 := by simp
  clear h
  go_enter Try.func31, Try.ntmps31
  go_wp2_with fail
  refine (open_any a len cap zs _ h0).mono ?_
  rintro e w1 ⟨b, ys, rfl, hr, hb, hlb⟩
  have hwb : w.heap.size < b := by rw [hsA] at hlb; omega
  have g1 := grownAnyP (grown_of_below hb) (some b)
  clear hb hlb
  go_wp2_with fail
  refine (l5Pilot_any b 0 ys _ hr (by omega)).mono ?_
  rintro e w2 ⟨c, g, q, rfl, hD, hq, r2, h2⟩
  have g2 := g1.trans h2
  have Q2 := PilAt.new w2 28 c g
  have r2' := r2.alloc (.cells #[.string c, .int .i64 g] 28)
  have ga := World.grownBy_alloc w2 (.cells #[.string c, .int .i64 g] 28) (some b)
  have g2' := g2.trans ga
  have hb2 : b < w2.heap.size := r2.1
  have hDz := hD.2.1
  have hDg : FitsI g := by have := hD.2.2; unfold FitsI; omega
  have HN := Lib.hid (fun p (o : Int) W (h : RdAt W b p ys) (hp : p ≤ 800000) (h0 : 0 ≤ o) (h1 : o ≤ 100000) => l5Near_any b p ys c g o W h hp hD h0 h1)
  clear hr h2 g1 g2 r2 ga hD h0 b0
  obtain ⟨d0, d1, dl⟩ := id Q2
  go_wp2_with fail
  refine (HN.out q 0 _ r2' (by omega) (by omega) (by omega)).mono ?_
  rintro e w3 ⟨x, q3, rfl, hx, hq3, r3, h3⟩
  have g3 := g2'.trans h3
  have Q3 := Q2.kept h3 (by simp; omega)
  clear r2' g2' Q2 h3 d0 d1 dl
  obtain ⟨d0, d1, dl⟩ := id Q3
  go_wp2_with fail
  refine (HN.out q3 5 _ r3 (by omega) (by omega) (by omega)).mono ?_
  rintro e w4 ⟨y, q4, rfl, hy, hq4, r4, h4⟩
  have g4 := g3.trans h4
  have Q4 := Q3.kept h4 (by simp; omega)
  clear r3 g3 Q3 h4 d0 d1 dl
  obtain ⟨d0, d1, dl⟩ := id Q4
  go_wp2_with fail
  refine (l5Bad_any b q4 ys c g _ r4 (by omega) (by omega) hDg).mono ?_
  rintro e w5 ⟨C, X, q5, rfl, hC, hX, hq5, r5, h5⟩
  have g5 := g4.trans h5
  obtain ⟨⟨e0, e1, el⟩, ef⟩ := P0.kept g5 (by simp; omega)
  have f0 := ef 0
  have f1 := ef 1
  have b5 := ((Below.refl w.heap.size w).alloc (Nat.le_refl _) (.cells #[.string ⟨#[]⟩, .int .i64 0] 28)).grown g5 (by rw [hsA]; omega) (fun k hk => by cases hk; omega)
  have hws : w.heap.size ≤ w5.heap.size := by omega
  clear r4 g4 Q4 h5 d0 d1 dl P0 ef g5 HN hsA
  go_wp2
  refine bodyPost_ret (v := .tuple #[.agg #[.string C, .int .i64 X], .int .i64 x, .int .i64 y]) (by simp [results, Try.results31, go_sem, e0, e1]) rfl ?_
  exact ⟨C, X, x, y, rfl, hC, hX, hx, hy, b5.grown (pgrown2 0 1 (.string C) (.int .i64 X)) hws (fun k hk => by cases hk; exact Nat.le_refl _)⟩
end Go.Proofs.Ytpcogmpnmkmoeab
