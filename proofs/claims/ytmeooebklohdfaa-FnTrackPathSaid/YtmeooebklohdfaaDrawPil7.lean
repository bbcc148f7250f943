/- The draw of TrackPath. -/
import Derived.Test.YtmeooebklohdfaaDrawPil5
namespace Go.Proofs.Ytmeooebklohdfaa
open Go.RowKit
set_option linter.unusedVariables false
set_option maxRecDepth 100000
/-- A signal, a pilot, an offset and a number of steps were drawn. -/
def TkPost (w : World) (e : Ending) (w' : World) : Prop :=
  ∃ (v : Value) (n : Nat) (f : Nat → Int) (c : ByteArray) (g k s : Int), e = .returned (.tuple #[v, .agg #[.string c, .int .i64 g], .int .i64 k, .int .i64 s]) ∧ OF w' w.heap.size v n f ∧ n ≤ 3001 ∧ c.size ≤ 1000 ∧ FitsI g ∧ FitsI k ∧ FitsI s ∧ Below w.heap.size w w'
set_option maxHeartbeats 6400000 in
theorem drawTrack_any (a : Option Addr) (len cap : Nat) (zs : List Int) (w : World) (h : IsBytes w a len cap zs) :
    Calls Try.prog 45 #[.slice a len cap] w (TkPost w) := by
  have P0 := PilW.new w 24 ⟨#[]⟩ 0
  have h0 : IsBytes (w.alloc (.cells #[.string ⟨#[]⟩, .int .i64 0] 24)) a len cap zs := h.below ((Below.refl _ _).alloc (Nat.le_refl _) _)
  have hsA : (w.alloc (.cells #[.string ⟨#[]⟩, .int .i64 0] 24)).heap.size = w.heap.size + 1 := by simp
  clear h
  go_enter Try.func45, Try.ntmps45
  go_wp2_with fail
  refine (open_any a len cap zs _ h0).mono ?_
  rintro e w1 ⟨b, ys, rfl, hr, hb, hlb⟩
  have hwb : w.heap.size < b := by rw [hsA] at hlb; omega
  have g1 := grownAnyQ (grown_of_below hb) (some b)
  have hb1 := hr.1
  have hx1 := h0.below hb
  clear hb hlb h0
  go_wp2_with fail
  refine (drawScore_any a len cap zs _ hx1).mono ?_
  rintro e w2 ⟨v, n, f, c, g, k, rfl, O2, hn, hf, hc, hg, hk, hb2⟩
  have r2 := hr.below hb2
  have g2 := g1.trans (grownAnyQ (grown_of_below hb2) (some b))
  have hb2' := r2.1
  have QV := PilAt.new w2 24 c g
  have rV := r2.alloc (.cells #[.string c, .int .i64 g] 24)
  have gV := g2.trans (World.grownBy_alloc w2 (.cells #[.string c, .int .i64 g] 24) (some b))
  have OV := O2.alloc (.cells #[.string c, .int .i64 g] 24)
  have hw1 : w.heap.size < w1.heap.size := by omega
  have RV := P0.kept gV (by simp; omega)
  have bV := ((Below.refl w.heap.size w).alloc (Nat.le_refl _) (.cells #[.string ⟨#[]⟩, .int .i64 0] 24)).grown gV (by rw [hsA]; omega) (fun k hk => by cases hk; omega)
  clear hr hb2 g1 g2 r2 hf O2 hx1 P0 hsA gV
  go_wp2_with fail
  obtain ⟨X, hX⟩ : ∃ X, w2.heap.size = X := ⟨_, rfl⟩
  obtain ⟨V, hV⟩ : ∃ V, w2.alloc (.cells #[.string c, .int .i64 g] 24) = V := ⟨_, rfl⟩
  rw [hV] at rV bV OV QV RV ⊢
  rw [hX] at QV hb2' ⊢
  clear hV hX w2
  refine (pick_any b 0 16 ys _ rV (by omega) (by omega) (by omega)).mono ?_
  rintro e w3 ⟨k3, hk3, rfl, r3, h3⟩
  have O3 := OV.kept h3 (OV.offh hb1)
  clear rV OV
  by_cases k0 : k3 = 0
  · subst k0
    clear hk3
    obtain ⟨c0, c1, cl⟩ := QV.kept h3 (by simp; omega)
    have hy3 := h3.trans (World.grownBy_alloc w3 (.cells #[.int .i64 (-1), .int .i64 200, .int .i64 201, .int .i64 9223372036854775807] 3) (some b))
    have ry := r3.alloc (.cells #[.int .i64 (-1), .int .i64 200, .int .i64 201, .int .i64 9223372036854775807] 3)
    have Oy := O3.alloc (.cells #[.int .i64 (-1), .int .i64 200, .int .i64 201, .int .i64 9223372036854775807] 3)
    have hI0 := IntsAt.new w3 3 [-1, 200, 201, 9223372036854775807]
    have hlt : b < w3.heap.size := r3.1
    obtain ⟨LL, hLL⟩ : ∃ L, w3.heap.size = L := ⟨_, rfl⟩
    have HL3 := Lib.hid hLL
    obtain ⟨V3, hV3⟩ : ∃ W, w3.alloc (.cells #[.int .i64 (-1), .int .i64 200, .int .i64 201, .int .i64 9223372036854775807] 3) = W := ⟨_, rfl⟩
    have HV3 := Lib.hid hV3
    have ra := (hV3 ▸ ry : RdAt V3 b 1 ys).below (Below.refl _ _).drew
    have ha := (hV3 ▸ hy3 : V.grownBy V3 (some b)).trans (drewRowQ V3 (some b))
    have Oa := (hV3 ▸ Oy : OF V3 w1.heap.size v n f).below (Below.refl _ _).drew
    have hI : IntsAt V3.drew LL [-1, 200, 201, 9223372036854775807] := by
      rw [← hLL, ← hV3]
      exact ⟨by have := hI0.1; exact this, fun i hi => hI0.2 i hi⟩
    obtain ⟨e0, e1, el⟩ := QV.kept ha (by simp; omega)
    rw [hLL] at hlt
    obtain ⟨a0, a1, al⟩ : PilAt (w3.alloc (.cells #[.int .i64 (-1), .int .i64 200, .int .i64 201, .int .i64 9223372036854775807] 3)).drew X c g := by rw [HV3.out]; exact ⟨e0, e1, el⟩
    obtain ⟨z0, z1, zl⟩ := QV.kept (h3.trans (drewRowQ w3 (some b))) (by simp; omega)
    clear ry hy3 Oy hI0 hLL hV3
    go_wp2_with fail
    go_region_held3 (fun wx => wx.cell? ⟨X, 0, none⟩ = some (.string c) ∧ wx.cell? ⟨X, 1, none⟩ = some (.int .i64 g)) (first | with_reducible exact ⟨s0, s1⟩ | with_reducible exact ⟨m0, m1⟩ | with_reducible exact ⟨z0, z1⟩ | with_reducible exact ⟨a0, a1⟩ | with_reducible exact ⟨e0, e1⟩) (first
      | (go_at_call 62; rw [HV3.out, HL3.out]; refine (num_any b 1 ys _ LL 4 [-1, 200, 201, 9223372036854775807] ra hI rfl hlt (by omega) (by omega) (by omega)).mono ?_; rintro e w4 ⟨y, hy, rfl, r4, h4'⟩; have h4 := ha.trans h4'; have O4 := Oa.kept h4' (Oa.offh hb1); obtain ⟨m0, m1, ml⟩ := QV.kept h4 (by simp; omega); obtain ⟨⟨d0, d1, dl⟩, df⟩ := RV.kept h4 (by simp; omega); have f0 := df 0; have f1 := df 1; obtain ⟨s0, s1, sl⟩ := (QV.kept h4 (by simp; omega)).kept (pgrown2 (w := w4) (g := w.heap.size) 0 1 (.string c) (.int .i64 g)) (by simp; omega)))
    have hF : FitsI y := by
      simp only [List.mem_cons, List.not_mem_nil, or_false] at hy
      unfold FitsI; omega
    have b9 := bV.grown h4 bV.size (fun k hk => by cases hk; omega)
    have hws : w.heap.size ≤ w4.heap.size := b9.size
    have O9 := Lib.hid ((O4.kept (pgrown2 (w := w4) (g := w.heap.size) 0 1 (.string c) (.int .i64 g)) (O4.offh hw1)).mono (Nat.le_of_lt hw1))
    go_wp2
    refine bodyPost_ret (v := .tuple #[v, .agg #[.string c, .int .i64 g], .int .i64 k, .int .i64 y]) (by simp [results, Try.results45, go_sem, d0, d1]) rfl ?_
    exact ⟨v, n, f, c, g, k, y, rfl, O9.out, hn, hc, hg, hk, hF, b9.grown (pgrown2 0 1 (.string c) (.int .i64 g)) hws (fun k hk => by cases hk; exact Nat.le_refl _)⟩
  · have t0 : ((k3 : Int) == 0) = false := by simp; omega
    have rz := r3.below (Below.refl _ _).drew
    have hz := h3.trans (drewRowQ w3 (some b))
    have Oz := O3.below (Below.refl _ _).drew
    obtain ⟨c0, c1, cl⟩ := QV.kept h3 (by simp; omega)
    obtain ⟨e0, e1, el⟩ := QV.kept hz (by simp; omega)
    go_wp2_with fail
    go_region_held3 (fun wx => wx.cell? ⟨X, 0, none⟩ = some (.string c) ∧ wx.cell? ⟨X, 1, none⟩ = some (.int .i64 g)) (first | with_reducible exact ⟨s0, s1⟩ | with_reducible exact ⟨m0, m1⟩ | with_reducible exact ⟨e0, e1⟩) (first
      | (go_at_call 61; refine (pick_any b 1 12 ys _ rz (by omega) (by omega) (by omega)).mono ?_; rintro e w4 ⟨y, hy, rfl, r4, h4'⟩; have h4 := hz.trans h4'; have O4 := Oz.kept h4' (Oz.offh hb1); obtain ⟨m0, m1, ml⟩ := QV.kept h4 (by simp; omega); obtain ⟨⟨d0, d1, dl⟩, df⟩ := RV.kept h4 (by simp; omega); have f0 := df 0; have f1 := df 1; obtain ⟨s0, s1, sl⟩ := (QV.kept h4 (by simp; omega)).kept (pgrown2 (w := w4) (g := w.heap.size) 0 1 (.string c) (.int .i64 g)) (by simp; omega)))
    have hF : FitsI (y : Int) := by unfold FitsI; omega
    have b9 := bV.grown h4 bV.size (fun k hk => by cases hk; omega)
    have hws : w.heap.size ≤ w4.heap.size := b9.size
    have O9 := Lib.hid ((O4.kept (pgrown2 (w := w4) (g := w.heap.size) 0 1 (.string c) (.int .i64 g)) (O4.offh hw1)).mono (Nat.le_of_lt hw1))
    go_wp2
    refine bodyPost_ret (v := .tuple #[v, .agg #[.string c, .int .i64 g], .int .i64 k, .int .i64 (y : Int)]) (by simp [results, Try.results45, go_sem, d0, d1]) rfl ?_
    exact ⟨v, n, f, c, g, k, (y : Int), rfl, O9.out, hn, hc, hg, hk, hF, b9.grown (pgrown2 0 1 (.string c) (.int .i64 g)) hws (fun k hk => by cases hk; exact Nat.le_refl _)⟩
end Go.Proofs.Ytmeooebklohdfaa
