/- AddRegisters of both sides, and the walk of its exact law. -/
import Derived.Test.YtbkppjelljljcaaRegJump
namespace Go.Proofs.Ytbkppjelljljcaa
open Go.RowKit
/-- Three blocks that a function on two registers lays first: its parameters' and its result's. -/
def Reg3 (w W : World) (S T X S' T' X' : Int) : Prop :=
  Below w.heap.size w W ∧ RegAt W w.heap.size S T X ∧ RegAt W (w.heap.size + 1) S' T' X' ∧ RegAt W (w.heap.size + 1 + 1) 0 0 0 ∧ (∀ o, W.frozen? ⟨w.heap.size, o, none⟩ = false) ∧ (∀ o, W.frozen? ⟨w.heap.size + 1 + 1, o, none⟩ = false)
theorem Reg3.new (w : World) (t : TypeId) (S T X S' T' X' : Int) :
    Reg3 w (((w.alloc (.cells #[.int .i64 S, .int .i64 T, .int .i64 X] t)).alloc (.cells #[.int .i64 S', .int .i64 T', .int .i64 X'] t)).alloc (.cells #[.int .i64 0, .int .i64 0, .int .i64 0] t)) S T X S' T' X' := by
  have r1 := RegAt.new w t S T X
  have r2 := RegAt.new (w.alloc (.cells #[.int .i64 S, .int .i64 T, .int .i64 X] t)) t S' T' X'
  have r3 := RegAt.new ((w.alloc (.cells #[.int .i64 S, .int .i64 T, .int .i64 X] t)).alloc (.cells #[.int .i64 S', .int .i64 T', .int .i64 X'] t)) t 0 0 0
  have s1 : (w.alloc (.cells #[.int .i64 S, .int .i64 T, .int .i64 X] t)).heap.size = w.heap.size + 1 := by simp
  have s2 : ((w.alloc (.cells #[.int .i64 S, .int .i64 T, .int .i64 X] t)).alloc (.cells #[.int .i64 S', .int .i64 T', .int .i64 X'] t)).heap.size = w.heap.size + 1 + 1 := by simp
  rw [s1] at r2
  rw [s2] at r3
  refine ⟨(((Below.refl _ w).alloc (Nat.le_refl _) _).alloc (by simp) _).alloc (by simp; omega) _, ?_, ?_, r3, ?_, ?_⟩
  · exact (r1.below (B := w.heap.size + 1) ((Below.refl _ _).alloc (by simp) _) (by omega)).below (B := w.heap.size + 1) ((Below.refl _ _).alloc (by simp) _) (by omega)
  · exact r2.below (B := w.heap.size + 1 + 1) ((Below.refl _ _).alloc (by simp) _) (by omega)
  · intro o
    exact ((((Below.refl (w.heap.size + 1) (w.alloc (.cells #[.int .i64 S, .int .i64 T, .int .i64 X] t))).alloc (by simp) _).alloc (by simp) _).frozen (p := ⟨w.heap.size, o, none⟩) (by simp)).trans (by simp)
  · intro o
    exact (show ∀ V : World, V.heap.size = w.heap.size + 1 + 1 → (V.alloc (.cells #[.int .i64 0, .int .i64 0, .int .i64 0] t)).frozen? ⟨w.heap.size + 1 + 1, o, none⟩ = false from fun V hV => by rw [← hV]; simp) _ s2
theorem Reg3.below {w W W' : World} {S T X S' T' X' : Int} (h : Reg3 w W S T X S' T' X') (hb : Below W.heap.size W W') : Reg3 w W' S T X S' T' X' := by
  obtain ⟨h1, h2, h3, h4, h5, h6⟩ := h
  exact ⟨below_then h1 (Nat.le_refl _) hb, h2.below hb h2.2.2.2, h3.below hb h3.2.2.2, h4.below hb h4.2.2.2, fun o => (hb.frozen (p := ⟨w.heap.size, o, none⟩) h2.2.2.2).trans (h5 o), fun o => (hb.frozen (p := ⟨w.heap.size + 1 + 1, o, none⟩) h4.2.2.2).trans (h6 o)⟩
theorem iAddR_no (S T X S' T' X' : Int) (w : World) (h : regB S T X = false) :
    Calls Try.prog 8 #[.agg #[.int .i64 S, .int .i64 T, .int .i64 X], .agg #[.int .i64 S', .int .i64 T', .int .i64 X']] w fun e w' => e = .returned noReg.val ∧ Below w.heap.size w w' := by
  go_enter Try.func8, Try.ntmps8
  go_wp2_with fail
  have r0 := Reg3.new w 24 S T X S' T' X'
  refine (iRegisterValid_no S T X _ h).mono ?_
  rintro e w1 ⟨rfl, hb1⟩
  have r1 := r0.below hb1
  clear r0 hb1
  obtain ⟨bb, ⟨c0, c1, c2, cl⟩, ⟨d0, d1, d2, dl⟩, ⟨e0, e1, e2, el⟩, f, g⟩ := r1
  have f2 := f 2
  have g0 := g 0
  have g1 := g 1
  have g2 := g 2
  clear f g
  go_wp2
  refine bodyPost_ret (v := .tuple #[.agg #[.int .i64 0, .int .i64 0, .int .i64 0], .bool false]) (by simp [results, Try.results8, go_sem, e0, e1, e2]) rfl ⟨rfl, ?_⟩
  go_grown
theorem iAddR_no2 (s t x : Nat) (S' T' X' : Int) (w : World) (h : RegN s t x) (h' : regB S' T' X' = false) :
    Calls Try.prog 8 #[.agg #[.int .i64 s, .int .i64 t, .int .i64 x], .agg #[.int .i64 S', .int .i64 T', .int .i64 X']] w fun e w' => e = .returned noReg.val ∧ Below w.heap.size w w' := by
  go_enter Try.func8, Try.ntmps8
  go_wp2_with fail
  have r0 := Reg3.new w 24 s t x S' T' X'
  refine (iRegisterValid_yes s t x _ h).mono ?_
  rintro e w1 ⟨rfl, hb1⟩
  have r1 := r0.below hb1
  clear r0 hb1
  obtain ⟨bb, ⟨c0, c1, c2, cl⟩, ⟨d0, d1, d2, dl⟩, ⟨e0, e1, e2, el⟩, f, g⟩ := id r1
  have f2 := f 2
  have g0 := g 0
  have g1 := g 1
  have g2 := g 2
  clear f g
  go_wp2_with fail
  clear c0 c1 c2 cl d0 d1 d2 dl e0 e1 e2 el f2 g0 g1 g2 bb
  refine (iRegisterValid_no S' T' X' _ h').mono ?_
  rintro e w2 ⟨rfl, hb2⟩
  have r2 := r1.below hb2
  clear r1 hb2
  obtain ⟨bb, ⟨c0, c1, c2, cl⟩, ⟨d0, d1, d2, dl⟩, ⟨e0, e1, e2, el⟩, f, g⟩ := r2
  have f2 := f 2
  have g0 := g 0
  have g1 := g 1
  have g2 := g 2
  clear f g
  go_wp2
  refine bodyPost_ret (v := .tuple #[.agg #[.int .i64 0, .int .i64 0, .int .i64 0], .bool false]) (by simp [results, Try.results8, go_sem, e0, e1, e2]) rfl ⟨rfl, ?_⟩
  go_grown
theorem iAddR_yes (s t x s' t' x' : Nat) (w : World) (h : RegN s t x) (h' : RegN s' t' x') :
    Calls Try.prog 8 #[.agg #[.int .i64 s, .int .i64 t, .int .i64 x], .agg #[.int .i64 s', .int .i64 t', .int .i64 x']] w fun e w' => e = .returned (if s = s' ∧ t = t' then (⟨s, t, (x ^^^ x' : Nat), true⟩ : RegAns) else noReg).val ∧ Below w.heap.size w w' := by
  have hx := xor64 x x' (by have := h.lt; have := tw_le s h.hi; omega) (by have := h'.lt; have := tw_le s' h'.hi; omega)
  by_cases h1 : s = s'
  · subst h1
    have k1 : ((s : Int) == (s : Int)) = true := by simp
    by_cases h2 : t = t'
    · subst h2
      simp only [and_self, if_true]
      go_enter Try.func8, Try.ntmps8
      go_wp2_with fail
      have r0 := Reg3.new w 24 s t x s t x'
      refine (iRegisterValid_yes s t x _ h).mono ?_
      rintro e w1 ⟨rfl, hb1⟩
      have r1 := r0.below hb1
      clear r0 hb1
      obtain ⟨bb, ⟨c0, c1, c2, cl⟩, ⟨d0, d1, d2, dl⟩, ⟨e0, e1, e2, el⟩, f, g⟩ := id r1
      have f2 := f 2
      have g0 := g 0
      have g1 := g 1
      have g2 := g 2
      clear f g
      go_wp2_with fail
      clear c0 c1 c2 cl d0 d1 d2 dl e0 e1 e2 el f2 g0 g1 g2 bb
      refine (iRegisterValid_yes s t x' _ h').mono ?_
      rintro e w2 ⟨rfl, hb2⟩
      have r2 := r1.below hb2
      clear r1 hb2
      obtain ⟨bb, ⟨c0, c1, c2, cl⟩, ⟨d0, d1, d2, dl⟩, ⟨e0, e1, e2, el⟩, f, g⟩ := r2
      have f2 := f 2
      have g0 := g 0
      have g1 := g 1
      have g2 := g 2
      clear f g
      clear h h'
      go_wp2
      refine bodyPost_ret (v := .tuple #[.agg #[.int .i64 s, .int .i64 t, .int .i64 (x ^^^ x' : Nat)], .bool true]) (by simp [results, Try.results8, go_sem, e0, e1, e2]) rfl ⟨rfl, ?_⟩
      go_grown
    · rw [if_neg (fun hh => h2 hh.2)]
      have k2 : ((t : Int) != (t' : Int)) = true := by simp; omega
      have k3 : ((t : Int) == (t' : Int)) = false := by simp; omega
      go_enter Try.func8, Try.ntmps8
      go_wp2_with fail
      have r0 := Reg3.new w 24 s t x s t' x'
      refine (iRegisterValid_yes s t x _ h).mono ?_
      rintro e w1 ⟨rfl, hb1⟩
      have r1 := r0.below hb1
      clear r0 hb1
      obtain ⟨bb, ⟨c0, c1, c2, cl⟩, ⟨d0, d1, d2, dl⟩, ⟨e0, e1, e2, el⟩, f, g⟩ := id r1
      have f2 := f 2
      have g0 := g 0
      have g1 := g 1
      have g2 := g 2
      clear f g
      go_wp2_with fail
      clear c0 c1 c2 cl d0 d1 d2 dl e0 e1 e2 el f2 g0 g1 g2 bb
      refine (iRegisterValid_yes s t' x' _ h').mono ?_
      rintro e w2 ⟨rfl, hb2⟩
      have r2 := r1.below hb2
      clear r1 hb2
      obtain ⟨bb, ⟨c0, c1, c2, cl⟩, ⟨d0, d1, d2, dl⟩, ⟨e0, e1, e2, el⟩, f, g⟩ := r2
      have f2 := f 2
      have g0 := g 0
      have g1 := g 1
      have g2 := g 2
      clear f g
      clear h h' hx
      go_wp2
      refine bodyPost_ret (v := .tuple #[.agg #[.int .i64 0, .int .i64 0, .int .i64 0], .bool false]) (by simp [results, Try.results8, go_sem, e0, e1, e2]) rfl ⟨rfl, ?_⟩
      go_grown
  · rw [if_neg (fun hh => h1 hh.1)]
    have k2 : ((s : Int) != (s' : Int)) = true := by simp; omega
    have k3 : ((s : Int) == (s' : Int)) = false := by simp; omega
    go_enter Try.func8, Try.ntmps8
    go_wp2_with fail
    have r0 := Reg3.new w 24 s t x s' t' x'
    refine (iRegisterValid_yes s t x _ h).mono ?_
    rintro e w1 ⟨rfl, hb1⟩
    have r1 := r0.below hb1
    clear r0 hb1
    obtain ⟨bb, ⟨c0, c1, c2, cl⟩, ⟨d0, d1, d2, dl⟩, ⟨e0, e1, e2, el⟩, f, g⟩ := id r1
    have f2 := f 2
    have g0 := g 0
    have g1 := g 1
    have g2 := g 2
    clear f g
    go_wp2_with fail
    clear c0 c1 c2 cl d0 d1 d2 dl e0 e1 e2 el f2 g0 g1 g2 bb
    refine (iRegisterValid_yes s' t' x' _ h').mono ?_
    rintro e w2 ⟨rfl, hb2⟩
    have r2 := r1.below hb2
    clear r1 hb2
    obtain ⟨bb, ⟨c0, c1, c2, cl⟩, ⟨d0, d1, d2, dl⟩, ⟨e0, e1, e2, el⟩, f, g⟩ := r2
    have f2 := f 2
    have g0 := g 0
    have g1 := g 1
    have g2 := g 2
    clear f g
    clear h h' hx
    go_wp2
    refine bodyPost_ret (v := .tuple #[.agg #[.int .i64 0, .int .i64 0, .int .i64 0], .bool false]) (by simp [results, Try.results8, go_sem, e0, e1, e2]) rfl ⟨rfl, ?_⟩
    go_grown
theorem sAddR_no (S T X S' T' X' : Int) (w : World) (h : regB S T X = false) :
    Calls Try.prog 6 #[.agg #[.int .i64 S, .int .i64 T, .int .i64 X], .agg #[.int .i64 S', .int .i64 T', .int .i64 X']] w fun e w' => e = .returned noReg.val ∧ Below w.heap.size w w' := by
  go_enter Try.func6, Try.ntmps6
  go_wp2_with fail
  have r0 := Reg3.new w 24 S T X S' T' X'
  refine (sRegisterValid_no S T X _ h).mono ?_
  rintro e w1 ⟨rfl, hb1⟩
  have r1 := r0.below hb1
  clear r0 hb1
  obtain ⟨bb, ⟨c0, c1, c2, cl⟩, ⟨d0, d1, d2, dl⟩, ⟨e0, e1, e2, el⟩, f, g⟩ := r1
  have f2 := f 2
  have g0 := g 0
  have g1 := g 1
  have g2 := g 2
  clear f g
  go_wp2
  refine bodyPost_ret (v := .tuple #[.agg #[.int .i64 0, .int .i64 0, .int .i64 0], .bool false]) (by simp [results, Try.results6, go_sem, e0, e1, e2]) rfl ⟨rfl, ?_⟩
  go_grown
theorem sAddR_no2 (s t x : Nat) (S' T' X' : Int) (w : World) (h : RegN s t x) (h' : regB S' T' X' = false) :
    Calls Try.prog 6 #[.agg #[.int .i64 s, .int .i64 t, .int .i64 x], .agg #[.int .i64 S', .int .i64 T', .int .i64 X']] w fun e w' => e = .returned noReg.val ∧ Below w.heap.size w w' := by
  go_enter Try.func6, Try.ntmps6
  go_wp2_with fail
  have r0 := Reg3.new w 24 s t x S' T' X'
  refine (sRegisterValid_yes s t x _ h).mono ?_
  rintro e w1 ⟨rfl, hb1⟩
  have r1 := r0.below hb1
  clear r0 hb1
  obtain ⟨bb, ⟨c0, c1, c2, cl⟩, ⟨d0, d1, d2, dl⟩, ⟨e0, e1, e2, el⟩, f, g⟩ := id r1
  have f2 := f 2
  have g0 := g 0
  have g1 := g 1
  have g2 := g 2
  clear f g
  go_wp2_with fail
  clear c0 c1 c2 cl d0 d1 d2 dl e0 e1 e2 el f2 g0 g1 g2 bb
  refine (sRegisterValid_no S' T' X' _ h').mono ?_
  rintro e w2 ⟨rfl, hb2⟩
  have r2 := r1.below hb2
  clear r1 hb2
  obtain ⟨bb, ⟨c0, c1, c2, cl⟩, ⟨d0, d1, d2, dl⟩, ⟨e0, e1, e2, el⟩, f, g⟩ := r2
  have f2 := f 2
  have g0 := g 0
  have g1 := g 1
  have g2 := g 2
  clear f g
  go_wp2
  refine bodyPost_ret (v := .tuple #[.agg #[.int .i64 0, .int .i64 0, .int .i64 0], .bool false]) (by simp [results, Try.results6, go_sem, e0, e1, e2]) rfl ⟨rfl, ?_⟩
  go_grown
theorem sAddR_yes (s t x s' t' x' : Nat) (w : World) (h : RegN s t x) (h' : RegN s' t' x') :
    Calls Try.prog 6 #[.agg #[.int .i64 s, .int .i64 t, .int .i64 x], .agg #[.int .i64 s', .int .i64 t', .int .i64 x']] w fun e w' => e = .returned (if s = s' ∧ t = t' then (⟨s, t, (x ^^^ x' : Nat), true⟩ : RegAns) else noReg).val ∧ Below w.heap.size w w' := by
  have hx := xor64 x x' (by have := h.lt; have := tw_le s h.hi; omega) (by have := h'.lt; have := tw_le s' h'.hi; omega)
  by_cases h1 : s = s'
  · subst h1
    have k1 : ((s : Int) == (s : Int)) = true := by simp
    by_cases h2 : t = t'
    · subst h2
      simp only [and_self, if_true]
      go_enter Try.func6, Try.ntmps6
      go_wp2_with fail
      have r0 := Reg3.new w 24 s t x s t x'
      refine (sRegisterValid_yes s t x _ h).mono ?_
      rintro e w1 ⟨rfl, hb1⟩
      have r1 := r0.below hb1
      clear r0 hb1
      obtain ⟨bb, ⟨c0, c1, c2, cl⟩, ⟨d0, d1, d2, dl⟩, ⟨e0, e1, e2, el⟩, f, g⟩ := id r1
      have f2 := f 2
      have g0 := g 0
      have g1 := g 1
      have g2 := g 2
      clear f g
      go_wp2_with fail
      clear c0 c1 c2 cl d0 d1 d2 dl e0 e1 e2 el f2 g0 g1 g2 bb
      refine (sRegisterValid_yes s t x' _ h').mono ?_
      rintro e w2 ⟨rfl, hb2⟩
      have r2 := r1.below hb2
      clear r1 hb2
      obtain ⟨bb, ⟨c0, c1, c2, cl⟩, ⟨d0, d1, d2, dl⟩, ⟨e0, e1, e2, el⟩, f, g⟩ := r2
      have f2 := f 2
      have g0 := g 0
      have g1 := g 1
      have g2 := g 2
      clear f g
      clear h h'
      go_wp2
      refine bodyPost_ret (v := .tuple #[.agg #[.int .i64 s, .int .i64 t, .int .i64 (x ^^^ x' : Nat)], .bool true]) (by simp [results, Try.results6, go_sem, e0, e1, e2]) rfl ⟨rfl, ?_⟩
      go_grown
    · rw [if_neg (fun hh => h2 hh.2)]
      have k2 : ((t : Int) != (t' : Int)) = true := by simp; omega
      have k3 : ((t : Int) == (t' : Int)) = false := by simp; omega
      go_enter Try.func6, Try.ntmps6
      go_wp2_with fail
      have r0 := Reg3.new w 24 s t x s t' x'
      refine (sRegisterValid_yes s t x _ h).mono ?_
      rintro e w1 ⟨rfl, hb1⟩
      have r1 := r0.below hb1
      clear r0 hb1
      obtain ⟨bb, ⟨c0, c1, c2, cl⟩, ⟨d0, d1, d2, dl⟩, ⟨e0, e1, e2, el⟩, f, g⟩ := id r1
      have f2 := f 2
      have g0 := g 0
      have g1 := g 1
      have g2 := g 2
      clear f g
      go_wp2_with fail
      clear c0 c1 c2 cl d0 d1 d2 dl e0 e1 e2 el f2 g0 g1 g2 bb
      refine (sRegisterValid_yes s t' x' _ h').mono ?_
      rintro e w2 ⟨rfl, hb2⟩
      have r2 := r1.below hb2
      clear r1 hb2
      obtain ⟨bb, ⟨c0, c1, c2, cl⟩, ⟨d0, d1, d2, dl⟩, ⟨e0, e1, e2, el⟩, f, g⟩ := r2
      have f2 := f 2
      have g0 := g 0
      have g1 := g 1
      have g2 := g 2
      clear f g
      clear h h' hx
      go_wp2
      refine bodyPost_ret (v := .tuple #[.agg #[.int .i64 0, .int .i64 0, .int .i64 0], .bool false]) (by simp [results, Try.results6, go_sem, e0, e1, e2]) rfl ⟨rfl, ?_⟩
      go_grown
  · rw [if_neg (fun hh => h1 hh.1)]
    have k2 : ((s : Int) != (s' : Int)) = true := by simp; omega
    have k3 : ((s : Int) == (s' : Int)) = false := by simp; omega
    go_enter Try.func6, Try.ntmps6
    go_wp2_with fail
    have r0 := Reg3.new w 24 s t x s' t' x'
    refine (sRegisterValid_yes s t x _ h).mono ?_
    rintro e w1 ⟨rfl, hb1⟩
    have r1 := r0.below hb1
    clear r0 hb1
    obtain ⟨bb, ⟨c0, c1, c2, cl⟩, ⟨d0, d1, d2, dl⟩, ⟨e0, e1, e2, el⟩, f, g⟩ := id r1
    have f2 := f 2
    have g0 := g 0
    have g1 := g 1
    have g2 := g 2
    clear f g
    go_wp2_with fail
    clear c0 c1 c2 cl d0 d1 d2 dl e0 e1 e2 el f2 g0 g1 g2 bb
    refine (sRegisterValid_yes s' t' x' _ h').mono ?_
    rintro e w2 ⟨rfl, hb2⟩
    have r2 := r1.below hb2
    clear r1 hb2
    obtain ⟨bb, ⟨c0, c1, c2, cl⟩, ⟨d0, d1, d2, dl⟩, ⟨e0, e1, e2, el⟩, f, g⟩ := r2
    have f2 := f 2
    have g0 := g 0
    have g1 := g 1
    have g2 := g 2
    clear f g
    clear h h' hx
    go_wp2
    refine bodyPost_ret (v := .tuple #[.agg #[.int .i64 0, .int .i64 0, .int .i64 0], .bool false]) (by simp [results, Try.results6, go_sem, e0, e1, e2]) rfl ⟨rfl, ?_⟩
    go_grown
def addRAns (S T X S' T' X' : Int) : RegAns :=
  if regB S T X && regB S' T' X' && decide (S = S') && decide (T = T') then ⟨S, T, (X.toNat ^^^ X'.toNat : Nat), true⟩ else noReg
theorem addRAns_yes {s t x s' t' x' : Nat} (h : RegN s t x) (h' : RegN s' t' x') : addRAns s t x s' t' x' = if s = s' ∧ t = t' then (⟨s, t, (x ^^^ x' : Nat), true⟩ : RegAns) else noReg := by
  unfold addRAns
  rw [h.valid, h'.valid]
  by_cases h1 : s = s'
  · by_cases h2 : t = t'
    · subst h1 h2; simp
    · have : ¬ (t : Int) = (t' : Int) := by omega
      simp [h2, this]
  · have : ¬ (s : Int) = (s' : Int) := by omega
    simp [h1, this]
theorem iAddR_any (S T X S' T' X' : Int) (w : World) :
    Calls Try.prog 8 #[.agg #[.int .i64 S, .int .i64 T, .int .i64 X], .agg #[.int .i64 S', .int .i64 T', .int .i64 X']] w fun e w' => e = .returned (addRAns S T X S' T' X').val ∧ Below w.heap.size w w' := by
  cases h : regB S T X with
  | false => rw [show addRAns S T X S' T' X' = noReg by simp [addRAns, h]]; exact iAddR_no S T X S' T' X' w h
  | true =>
    obtain ⟨s, t, x, rfl, rfl, rfl, hr⟩ := RegN.of h
    cases h' : regB S' T' X' with
    | false => rw [show addRAns s t x S' T' X' = noReg by simp [addRAns, h']]; exact iAddR_no2 s t x S' T' X' w hr h'
    | true =>
      obtain ⟨s', t', x', rfl, rfl, rfl, hr'⟩ := RegN.of h'
      rw [addRAns_yes hr hr']; exact iAddR_yes s t x s' t' x' w hr hr'
theorem sAddR_any (S T X S' T' X' : Int) (w : World) :
    Calls Try.prog 6 #[.agg #[.int .i64 S, .int .i64 T, .int .i64 X], .agg #[.int .i64 S', .int .i64 T', .int .i64 X']] w fun e w' => e = .returned (addRAns S T X S' T' X').val ∧ Below w.heap.size w w' := by
  cases h : regB S T X with
  | false => rw [show addRAns S T X S' T' X' = noReg by simp [addRAns, h]]; exact sAddR_no S T X S' T' X' w h
  | true =>
    obtain ⟨s, t, x, rfl, rfl, rfl, hr⟩ := RegN.of h
    cases h' : regB S' T' X' with
    | false => rw [show addRAns s t x S' T' X' = noReg by simp [addRAns, h']]; exact sAddR_no2 s t x S' T' X' w hr h'
    | true =>
      obtain ⟨s', t', x', rfl, rfl, rfl, hr'⟩ := RegN.of h'
      rw [addRAns_yes hr hr']; exact sAddR_yes s t x s' t' x' w hr hr'
end Go.Proofs.Ytbkppjelljljcaa
