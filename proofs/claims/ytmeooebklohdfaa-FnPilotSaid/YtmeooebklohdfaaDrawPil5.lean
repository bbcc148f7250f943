/- The draws of ScoreAt, ScoreTable, BestOffset and EarlyLate. -/
import Derived.Test.YtmeooebklohdfaaDrawPil4
namespace Go.Proofs.Ytmeooebklohdfaa
open Go.RowKit
set_option linter.unusedVariables false
set_option maxRecDepth 100000
theorem grownAnyQ {w w' : World} (h : w.grownBy w' none) (row : Option Nat) : w.grownBy w' row := ⟨h.os, h.tape, h.output, h.size, fun k hk _ => h.block k hk (by simp)⟩
theorem DrP.fit {c : ByteArray} {g : Int} (h : DrP c g) : FitsI g := by have := h.2.2; unfold FitsI; omega
/-- A signal, a pilot and an offset were drawn. -/
def ScPost (w : World) (e : Ending) (w' : World) : Prop :=
  ∃ (v : Value) (n : Nat) (f : Nat → Int) (c : ByteArray) (g k : Int), e = .returned (.tuple #[v, .agg #[.string c, .int .i64 g], .int .i64 k]) ∧ OF w' w.heap.size v n f ∧ n ≤ 3001 ∧ (∀ j, j < n → FitsI (f j)) ∧ c.size ≤ 1000 ∧ FitsI g ∧ FitsI k ∧ Below w.heap.size w w'
set_option maxHeartbeats 3200000 in
theorem drawScore_any (a : Option Addr) (len cap : Nat) (zs : List Int) (w : World) (h : IsBytes w a len cap zs) :
    Calls Try.prog 21 #[.slice a len cap] w (ScPost w) := by
  have b0 := (Below.refl w.heap.size w).alloc (Nat.le_refl _) (.cells #[.string ⟨#[]⟩, .int .i64 0] 24)
  have P0 := PilW.new w 24 ⟨#[]⟩ 0
  have h0 : IsBytes (w.alloc (.cells #[.string ⟨#[]⟩, .int .i64 0] 24)) a len cap zs := h.below ((Below.refl _ _).alloc (Nat.le_refl _) _)
  have hsA : (w.alloc (.cells #[.string ⟨#[]⟩, .int .i64 0] 24)).heap.size = w.heap.size + 1 := by simp
  clear h
  go_enter Try.func21, Try.ntmps21
  go_wp2_with fail
  refine (open_any a len cap zs _ h0).mono ?_
  rintro e w1 ⟨b, ys, rfl, hr, hb, hlb⟩
  have hwb : w.heap.size < b := by rw [hsA] at hlb; omega
  have g1 := grownAnyQ (grown_of_below hb) (some b)
  have hb1 := hr.1
  clear hb hlb
  go_wp2_with fail
  refine (l5Heard_any b 0 ys _ hr (by omega)).mono ?_
  rintro e w2 ⟨v, n, f, c, g, k, q, rfl, O2, hn, hf, hD, hk, hq, r2, h2⟩
  have g2 := g1.trans h2
  have Q2 := PilAt.new w2 24 c g
  have r2' := r2.alloc (.cells #[.string c, .int .i64 g] 24)
  have ga := World.grownBy_alloc w2 (.cells #[.string c, .int .i64 g] 24) (some b)
  have g2' := g2.trans ga
  have O2' := O2.alloc (.cells #[.string c, .int .i64 g] 24)
  have hb2 : b < w2.heap.size := r2.1
  have hDz := hD.2.1
  have hDg := hD.fit
  have hk1 : k ≤ 100000 := by have := hD.per; omega
  have hw1 : w.heap.size < w1.heap.size := by omega
  have HF := Lib.hid hf
  have HN := Lib.hid (fun W (h : RdAt W b q ys) => l5Near_any b q ys c g (k : Int) W h (by omega) hD (by omega) (by omega))
  clear hr h2 g1 g2 r2 ga hD h0 b0 hf hk O2
  obtain ⟨d0, d1, dl⟩ := id Q2
  go_wp2_with fail
  refine (HN.out _ r2').mono ?_
  rintro e w3 ⟨x, q3, rfl, hx, hq3, r3, h3⟩
  have g3 := g2'.trans h3
  have Q3 := Q2.kept h3 (by simp; omega)
  have O3 := O2'.kept h3 (O2'.offh hb1)
  clear r2' g2' Q2 h3 d0 d1 dl O2'
  obtain ⟨d0, d1, dl⟩ := id Q3
  go_wp2_with fail
  refine (l5Bad_any b q3 ys c g _ r3 (by omega) (by omega) hDg).mono ?_
  rintro e w5 ⟨C, X, q5, rfl, hC, hX, hq5, r5, h5⟩
  have g5 := g3.trans h5
  have O5 := O3.kept h5 (O3.offh hb1)
  obtain ⟨⟨e0, e1, el⟩, ef⟩ := P0.kept g5 (by simp; omega)
  have f0 := ef 0
  have f1 := ef 1
  have b5 := ((Below.refl w.heap.size w).alloc (Nat.le_refl _) (.cells #[.string ⟨#[]⟩, .int .i64 0] 24)).grown g5 (by rw [hsA]; omega) (fun k hk => by cases hk; omega)
  have hws : w.heap.size ≤ w5.heap.size := by omega
  have O6 := Lib.hid ((O5.kept (pgrown2 (w := w5) (g := w.heap.size) 0 1 (.string C) (.int .i64 X)) (O5.offh hw1)).mono (Nat.le_of_lt hw1))
  clear r3 g3 Q3 h5 d0 d1 dl P0 ef g5 HN hsA O3 O5
  go_wp2
  refine bodyPost_ret (v := .tuple #[v, .agg #[.string C, .int .i64 X], .int .i64 x]) (by simp [results, Try.results21, go_sem, e0, e1]) rfl ?_
  exact ⟨v, n, f, C, X, x, rfl, O6.out, hn, HF.out, hC, hX, hx, b5.grown (pgrown2 0 1 (.string C) (.int .i64 X)) hws (fun k hk => by cases hk; exact Nat.le_refl _)⟩
end Go.Proofs.Ytmeooebklohdfaa
