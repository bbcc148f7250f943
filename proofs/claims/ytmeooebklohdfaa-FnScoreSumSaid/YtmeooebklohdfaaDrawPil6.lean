/- The draws of FirstOffset, VerifyOffset, LockedAt, TrackPath, ScoreTable, BestOffset and EarlyLate. -/
import Derived.Test.YtmeooebklohdfaaDrawPil5
namespace Go.Proofs.Ytmeooebklohdfaa
open Go.RowKit
set_option linter.unusedVariables false
set_option maxRecDepth 100000
/-- A signal, a pilot, a step and a threshold were drawn. -/
def FoPost (w : World) (e : Ending) (w' : World) : Prop :=
  ∃ (v : Value) (n : Nat) (f : Nat → Int) (c : ByteArray) (g s t : Int), e = .returned (.tuple #[v, .agg #[.string c, .int .i64 g], .int .i64 s, .int .i64 t]) ∧ OF w' w.heap.size v n f ∧ n ≤ 3001 ∧ (∀ j, j < n → FitsI (f j)) ∧ c.size ≤ 1000 ∧ FitsI g ∧ FitsI s ∧ FitsI t ∧ Below w.heap.size w w'
set_option maxHeartbeats 3200000 in
theorem drawFirstO_any (a : Option Addr) (len cap : Nat) (zs : List Int) (w : World) (h : IsBytes w a len cap zs) :
    Calls Try.prog 33 #[.slice a len cap] w (FoPost w) := by
  have b0 := (Below.refl w.heap.size w).alloc (Nat.le_refl _) (.cells #[.string ⟨#[]⟩, .int .i64 0] 24)
  have P0 := PilW.new w 24 ⟨#[]⟩ 0
  have h0 : IsBytes (w.alloc (.cells #[.string ⟨#[]⟩, .int .i64 0] 24)) a len cap zs := h.below ((Below.refl _ _).alloc (Nat.le_refl _) _)
  have hsA : (w.alloc (.cells #[.string ⟨#[]⟩, .int .i64 0] 24)).heap.size = w.heap.size + 1 := by simp
  clear h
  go_enter Try.func33, Try.ntmps33
  go_wp2_with fail
  refine (open_any a len cap zs _ h0).mono ?_
  rintro e w1 ⟨b, ys, rfl, hr, hb, hlb⟩
  have hwb : w.heap.size < b := by rw [hsA] at hlb; omega
  have g1 := grownAnyQ (grown_of_below hb) (some b)
  have hb1 := hr.1
  clear hb hlb
  go_wp2_with fail
  refine (l5Heard_any b 0 ys _ hr (by omega)).mono ?_
  rintro e w2 ⟨v, n, f, c, g, k, q, rfl, O2, hn, hf, hD, hk, hq, r2, h2⟩
  have g2 := g1.trans h2
  have QV := PilAt.new w2 24 c g
  have rV := r2.alloc (.cells #[.string c, .int .i64 g] 24)
  have gV := g2.trans (World.grownBy_alloc w2 (.cells #[.string c, .int .i64 g] 24) (some b))
  have OV := O2.alloc (.cells #[.string c, .int .i64 g] 24)
  have hb2 : b < w2.heap.size := r2.1
  have hDz := hD.2.1
  have hDg := hD.fit
  have hk1 : k ≤ 100000 := by have := hD.per; omega
  have hw1 : w.heap.size < w1.heap.size := by omega
  have HF := Lib.hid hf
  have HN := Lib.hid (fun p (o : Int) W (h : RdAt W b p ys) (hp : p ≤ 800000) (h0 : 0 ≤ o) (h1 : o ≤ 100000) => l5Near_any b p ys c g o W h hp hD h0 h1)
  have HT := Lib.hid (fun p W (h : RdAt W b p ys) (hp : p ≤ 800000) => l5Threshold_any b p ys c g W h hp hD)
  clear hr h2 g1 g2 r2 hD h0 b0 hf hk O2
  go_wp2_with fail
  obtain ⟨X, hX⟩ : ∃ X, w2.heap.size = X := ⟨_, rfl⟩
  obtain ⟨V, hV⟩ : ∃ V, w2.alloc (.cells #[.string c, .int .i64 g] 24) = V := ⟨_, rfl⟩
  rw [hV] at rV gV OV QV ⊢
  rw [hX] at QV hb2 ⊢
  clear hV hX w2
  refine (pick_any b q 4 ys _ rV (by omega) (by omega) (by omega)).mono ?_
  rintro e w3 ⟨k1, hk2, rfl, r4, z5⟩
  have h6 := z5
  have O7 := OV.kept z5 (OV.offh hb1)
  clear rV OV z5
  go_wp2_with fail
  refine (pick_any b (q + 1) 16 ys _ r4 (by omega) (by omega) (by omega)).mono ?_
  rintro e w10 ⟨k8, hk9, rfl, r11, z12⟩
  have h13 := h6.trans z12
  have O14 := O7.kept z12 (O7.offh hb1)
  clear r4 O7 z12 h6
  have fs : FitsI (1 + (k1 : Int)) := by unfold FitsI; omega
  by_cases k0 : k8 = 0
  · skip
    subst k0
    clear hk9 fs
    go_wp2_with fail
    refine (num_any b ((q + 1) + 1) ys _ w10.heap.size 4 [0, 8, 9, -1] (r11.alloc _) (IntsAt.new w10 _ [0, 8, 9, -1]) rfl r11.1 (by omega) (by omega) (by omega)).mono ?_
    rintro e w19 ⟨y15, hy16, rfl, r17, z18⟩
    have z20 := (World.grownBy_alloc w10 (.cells #[.int .i64 0, .int .i64 8, .int .i64 9, .int .i64 (-1)] 3) (some b)).trans z18
    clear z18
    have h21 := h13.trans z20
    have O22 := O14.kept z20 (O14.offh hb1)
    clear r11 O14 z20 h13
    have F23 : FitsI y15 := by
      simp only [List.mem_cons, List.not_mem_nil, or_false] at hy16
      unfold FitsI; omega
    clear hy16
    obtain ⟨d0, d1, dl⟩ := QV.kept h21 (by simp; omega)
    go_wp2_with fail
    refine (HT.out (((q + 1) + 1) + 1) _ r17 (by omega)).mono ?_
    rintro e w28 ⟨t24, q26, rfl, ht25, hq27, r29, z30⟩
    clear d0 d1 dl
    have h31 := h21.trans z30
    have O32 := O22.kept z30 (O22.offh hb1)
    clear r17 O22 z30 h21
    obtain ⟨d0, d1, dl⟩ := QV.kept h31 (by simp; omega)
    go_wp2_with fail
    refine (l5Bad_any b q26 ys c g _ r29 (by omega) (by omega) hDg).mono ?_
    rintro e w33 ⟨C, X9, q9, rfl, hC, hX9, hq9, r34, z35⟩
    clear d0 d1 dl
    have h36 := h31.trans z35
    have O37 := O32.kept z35 (O32.offh hb1)
    clear r29 O32 z35 h31
    have g9 := gV.trans h36
    obtain ⟨⟨e0, e1, el⟩, ef⟩ := P0.kept g9 (by simp; omega)
    have f0 := ef 0
    have f1 := ef 1
    have b9 := ((Below.refl w.heap.size w).alloc (Nat.le_refl _) (.cells #[.string ⟨#[]⟩, .int .i64 0] 24)).grown g9 (by rw [hsA]; omega) (fun k hk => by cases hk; omega)
    have hws : w.heap.size ≤ w33.heap.size := by omega
    have O9 := Lib.hid ((O37.kept (pgrown2 (w := w33) (g := w.heap.size) 0 1 (.string C) (.int .i64 X9)) (O37.offh hw1)).mono (Nat.le_of_lt hw1))
    clear h36 O37 r34 gV QV g9 P0 ef HN HT hsA
    go_wp2
    refine bodyPost_ret (v := .tuple #[v, .agg #[.string C, .int .i64 X9], .int .i64 y15, .int .i64 t24]) (by simp [results, Try.results33, go_sem, e0, e1]) rfl ?_
    exact ⟨v, n, f, C, X9, y15, t24, rfl, O9.out, hn, HF.out, hC, hX9, F23, ht25, b9.grown (pgrown2 0 1 (.string C) (.int .i64 X9)) hws (fun k hk => by cases hk; exact Nat.le_refl _)⟩
  · skip
    have t0 : ((k8 : Int) == 0) = false := by simp; omega
    obtain ⟨d0, d1, dl⟩ := QV.kept h13 (by simp; omega)
    go_wp2_with fail
    refine (HT.out ((q + 1) + 1) _ r11 (by omega)).mono ?_
    rintro e w19 ⟨t15, q17, rfl, ht16, hq18, r20, z21⟩
    clear d0 d1 dl
    have h22 := h13.trans z21
    have O23 := O14.kept z21 (O14.offh hb1)
    clear r11 O14 z21 h13
    obtain ⟨d0, d1, dl⟩ := QV.kept h22 (by simp; omega)
    go_wp2_with fail
    refine (l5Bad_any b q17 ys c g _ r20 (by omega) (by omega) hDg).mono ?_
    rintro e w24 ⟨C, X9, q9, rfl, hC, hX9, hq9, r25, z26⟩
    clear d0 d1 dl
    have h27 := h22.trans z26
    have O28 := O23.kept z26 (O23.offh hb1)
    clear r20 O23 z26 h22
    have g9 := gV.trans h27
    obtain ⟨⟨e0, e1, el⟩, ef⟩ := P0.kept g9 (by simp; omega)
    have f0 := ef 0
    have f1 := ef 1
    have b9 := ((Below.refl w.heap.size w).alloc (Nat.le_refl _) (.cells #[.string ⟨#[]⟩, .int .i64 0] 24)).grown g9 (by rw [hsA]; omega) (fun k hk => by cases hk; omega)
    have hws : w.heap.size ≤ w24.heap.size := by omega
    have O9 := Lib.hid ((O28.kept (pgrown2 (w := w24) (g := w.heap.size) 0 1 (.string C) (.int .i64 X9)) (O28.offh hw1)).mono (Nat.le_of_lt hw1))
    clear h27 O28 r25 gV QV g9 P0 ef HN HT hsA
    go_wp2
    refine bodyPost_ret (v := .tuple #[v, .agg #[.string C, .int .i64 X9], .int .i64 (1 + (k1 : Int)), .int .i64 t15]) (by simp [results, Try.results33, go_sem, e0, e1]) rfl ?_
    exact ⟨v, n, f, C, X9, (1 + (k1 : Int)), t15, rfl, O9.out, hn, HF.out, hC, hX9, fs, ht16, b9.grown (pgrown2 0 1 (.string C) (.int .i64 X9)) hws (fun k hk => by cases hk; exact Nat.le_refl _)⟩
/-- A signal, a pilot, an offset, a threshold and two numbers of periods were drawn. -/
def VfPost (w : World) (e : Ending) (w' : World) : Prop :=
  ∃ (v : Value) (n : Nat) (f : Nat → Int) (c : ByteArray) (g k t s m : Int), e = .returned (.tuple #[v, .agg #[.string c, .int .i64 g], .int .i64 k, .int .i64 t, .int .i64 s, .int .i64 m]) ∧ OF w' w.heap.size v n f ∧ n ≤ 3001 ∧ (∀ j, j < n → FitsI (f j)) ∧ c.size ≤ 1000 ∧ FitsI g ∧ FitsI k ∧ FitsI t ∧ FitsI s ∧ FitsI m ∧ Below w.heap.size w w'
set_option maxHeartbeats 3200000 in
theorem drawVerify_any (a : Option Addr) (len cap : Nat) (zs : List Int) (w : World) (h : IsBytes w a len cap zs) :
    Calls Try.prog 38 #[.slice a len cap] w (VfPost w) := by
  have b0 := (Below.refl w.heap.size w).alloc (Nat.le_refl _) (.cells #[.string ⟨#[]⟩, .int .i64 0] 24)
  have P0 := PilW.new w 24 ⟨#[]⟩ 0
  have h0 : IsBytes (w.alloc (.cells #[.string ⟨#[]⟩, .int .i64 0] 24)) a len cap zs := h.below ((Below.refl _ _).alloc (Nat.le_refl _) _)
  have hsA : (w.alloc (.cells #[.string ⟨#[]⟩, .int .i64 0] 24)).heap.size = w.heap.size + 1 := by simp
  clear h
  go_enter Try.func38, Try.ntmps38
  go_wp2_with fail
  refine (open_any a len cap zs _ h0).mono ?_
  rintro e w1 ⟨b, ys, rfl, hr, hb, hlb⟩
  have hwb : w.heap.size < b := by rw [hsA] at hlb; omega
  have g1 := grownAnyQ (grown_of_below hb) (some b)
  have hb1 := hr.1
  clear hb hlb
  go_wp2_with fail
  refine (l5Heard_any b 0 ys _ hr (by omega)).mono ?_
  rintro e w2 ⟨v, n, f, c, g, k, q, rfl, O2, hn, hf, hD, hk, hq, r2, h2⟩
  have g2 := g1.trans h2
  have QV := PilAt.new w2 24 c g
  have rV := r2.alloc (.cells #[.string c, .int .i64 g] 24)
  have gV := g2.trans (World.grownBy_alloc w2 (.cells #[.string c, .int .i64 g] 24) (some b))
  have OV := O2.alloc (.cells #[.string c, .int .i64 g] 24)
  have hb2 : b < w2.heap.size := r2.1
  have hDz := hD.2.1
  have hDg := hD.fit
  have hk1 : k ≤ 100000 := by have := hD.per; omega
  have hw1 : w.heap.size < w1.heap.size := by omega
  have HF := Lib.hid hf
  have HN := Lib.hid (fun p (o : Int) W (h : RdAt W b p ys) (hp : p ≤ 800000) (h0 : 0 ≤ o) (h1 : o ≤ 100000) => l5Near_any b p ys c g o W h hp hD h0 h1)
  have HT := Lib.hid (fun p W (h : RdAt W b p ys) (hp : p ≤ 800000) => l5Threshold_any b p ys c g W h hp hD)
  clear hr h2 g1 g2 r2 hD h0 b0 hf hk O2
  go_wp2_with fail
  obtain ⟨X, hX⟩ : ∃ X, w2.heap.size = X := ⟨_, rfl⟩
  obtain ⟨V, hV⟩ : ∃ V, w2.alloc (.cells #[.string c, .int .i64 g] 24) = V := ⟨_, rfl⟩
  rw [hV] at rV gV OV QV ⊢
  rw [hX] at QV hb2 ⊢
  clear hV hX w2
  obtain ⟨d0, d1, dl⟩ := id QV
  refine (HN.out q (k : Int) _ rV (by omega) (by omega) (by omega)).mono ?_
  rintro e w5 ⟨x1, q3, rfl, hx2, hq4, r6, z7⟩
  clear d0 d1 dl
  have h8 := z7
  have O9 := OV.kept z7 (OV.offh hb1)
  clear rV OV z7
  obtain ⟨d0, d1, dl⟩ := QV.kept h8 (by simp; omega)
  go_wp2_with fail
  refine (HT.out q3 _ r6 (by omega)).mono ?_
  rintro e w14 ⟨t10, q12, rfl, ht11, hq13, r15, z16⟩
  clear d0 d1 dl
  have h17 := h8.trans z16
  have O18 := O9.kept z16 (O9.offh hb1)
  clear r6 O9 z16 h8
  go_wp2_with fail
  refine (pick_any b q12 5 ys _ r15 (by omega) (by omega) (by omega)).mono ?_
  rintro e w21 ⟨k19, hk20, rfl, r22, z23⟩
  have h24 := h17.trans z23
  have O25 := O18.kept z23 (O18.offh hb1)
  clear r15 O18 z23 h17
  go_wp2_with fail
  refine (pick_any b (q12 + 1) 16 ys _ r22 (by omega) (by omega) (by omega)).mono ?_
  rintro e w28 ⟨k26, hk27, rfl, r29, z30⟩
  have h31 := h24.trans z30
  have O32 := O25.kept z30 (O25.offh hb1)
  clear r22 O25 z30 h24
  have fs : FitsI (k19 : Int) := by unfold FitsI; omega
  by_cases k0 : k26 = 0
  · skip
    subst k0
    clear hk27 fs
    go_wp2_with fail
    refine (num_any b ((q12 + 1) + 1) ys _ w28.heap.size 3 [-1, 200, 201] (r29.alloc _) (IntsAt.new w28 _ [-1, 200, 201]) rfl r29.1 (by omega) (by omega) (by omega)).mono ?_
    rintro e w37 ⟨y33, hy34, rfl, r35, z36⟩
    have z38 := (World.grownBy_alloc w28 (.cells #[.int .i64 (-1), .int .i64 200, .int .i64 201] 3) (some b)).trans z36
    clear z36
    have h39 := h31.trans z38
    have O40 := O32.kept z38 (O32.offh hb1)
    clear r29 O32 z38 h31
    have F41 : FitsI y33 := by
      simp only [List.mem_cons, List.not_mem_nil, or_false] at hy34
      unfold FitsI; omega
    clear hy34
    obtain ⟨d0, d1, dl⟩ := QV.kept h39 (by simp; omega)
    go_wp2_with fail
    refine (l5Bad_any b (((q12 + 1) + 1) + 1) ys c g _ r35 (by omega) (by omega) hDg).mono ?_
    rintro e w42 ⟨C, X9, q9, rfl, hC, hX9, hq9, r43, z44⟩
    clear d0 d1 dl
    have h45 := h39.trans z44
    have O46 := O40.kept z44 (O40.offh hb1)
    clear r35 O40 z44 h39
    go_wp2_with fail
    refine (pick_any b q9 5 ys _ r43 (by omega) (by omega) (by omega)).mono ?_
    rintro e w49 ⟨k47, hk48, rfl, r50, z51⟩
    have h52 := h45.trans z51
    have O53 := O46.kept z51 (O46.offh hb1)
    clear r43 O46 z51 h45
    have fm : FitsI (k47 : Int) := by unfold FitsI; omega
    have g9 := gV.trans h52
    obtain ⟨⟨e0, e1, el⟩, ef⟩ := P0.kept g9 (by simp; omega)
    have f0 := ef 0
    have f1 := ef 1
    have b9 := ((Below.refl w.heap.size w).alloc (Nat.le_refl _) (.cells #[.string ⟨#[]⟩, .int .i64 0] 24)).grown g9 (by rw [hsA]; omega) (fun k hk => by cases hk; omega)
    have hws : w.heap.size ≤ w49.heap.size := by omega
    have O9 := Lib.hid ((O53.kept (pgrown2 (w := w49) (g := w.heap.size) 0 1 (.string C) (.int .i64 X9)) (O53.offh hw1)).mono (Nat.le_of_lt hw1))
    clear h52 O53 r50 gV QV g9 P0 ef HN HT hsA
    go_wp2
    refine bodyPost_ret (v := .tuple #[v, .agg #[.string C, .int .i64 X9], .int .i64 x1, .int .i64 t10, .int .i64 y33, .int .i64 (k47 : Int)]) (by simp [results, Try.results38, go_sem, e0, e1]) rfl ?_
    exact ⟨v, n, f, C, X9, x1, t10, y33, (k47 : Int), rfl, O9.out, hn, HF.out, hC, hX9, hx2, ht11, F41, fm, b9.grown (pgrown2 0 1 (.string C) (.int .i64 X9)) hws (fun k hk => by cases hk; exact Nat.le_refl _)⟩
  · skip
    have t0 : ((k26 : Int) == 0) = false := by simp; omega
    obtain ⟨d0, d1, dl⟩ := QV.kept h31 (by simp; omega)
    go_wp2_with fail
    refine (l5Bad_any b ((q12 + 1) + 1) ys c g _ r29 (by omega) (by omega) hDg).mono ?_
    rintro e w33 ⟨C, X9, q9, rfl, hC, hX9, hq9, r34, z35⟩
    clear d0 d1 dl
    have h36 := h31.trans z35
    have O37 := O32.kept z35 (O32.offh hb1)
    clear r29 O32 z35 h31
    go_wp2_with fail
    refine (pick_any b q9 5 ys _ r34 (by omega) (by omega) (by omega)).mono ?_
    rintro e w40 ⟨k38, hk39, rfl, r41, z42⟩
    have h43 := h36.trans z42
    have O44 := O37.kept z42 (O37.offh hb1)
    clear r34 O37 z42 h36
    have fm : FitsI (k38 : Int) := by unfold FitsI; omega
    have g9 := gV.trans h43
    obtain ⟨⟨e0, e1, el⟩, ef⟩ := P0.kept g9 (by simp; omega)
    have f0 := ef 0
    have f1 := ef 1
    have b9 := ((Below.refl w.heap.size w).alloc (Nat.le_refl _) (.cells #[.string ⟨#[]⟩, .int .i64 0] 24)).grown g9 (by rw [hsA]; omega) (fun k hk => by cases hk; omega)
    have hws : w.heap.size ≤ w40.heap.size := by omega
    have O9 := Lib.hid ((O44.kept (pgrown2 (w := w40) (g := w.heap.size) 0 1 (.string C) (.int .i64 X9)) (O44.offh hw1)).mono (Nat.le_of_lt hw1))
    clear h43 O44 r41 gV QV g9 P0 ef HN HT hsA
    go_wp2
    refine bodyPost_ret (v := .tuple #[v, .agg #[.string C, .int .i64 X9], .int .i64 x1, .int .i64 t10, .int .i64 (k19 : Int), .int .i64 (k38 : Int)]) (by simp [results, Try.results38, go_sem, e0, e1]) rfl ?_
    exact ⟨v, n, f, C, X9, x1, t10, (k19 : Int), (k38 : Int), rfl, O9.out, hn, HF.out, hC, hX9, hx2, ht11, fs, fm, b9.grown (pgrown2 0 1 (.string C) (.int .i64 X9)) hws (fun k hk => by cases hk; exact Nat.le_refl _)⟩
/-- A signal, a pilot, an offset and a threshold were drawn. -/
def LkPost (w : World) (e : Ending) (w' : World) : Prop :=
  ∃ (v : Value) (n : Nat) (f : Nat → Int) (c : ByteArray) (g k t : Int), e = .returned (.tuple #[v, .agg #[.string c, .int .i64 g], .int .i64 k, .int .i64 t]) ∧ OF w' w.heap.size v n f ∧ n ≤ 3001 ∧ (∀ j, j < n → FitsI (f j)) ∧ c.size ≤ 1000 ∧ FitsI g ∧ FitsI k ∧ FitsI t ∧ Below w.heap.size w w'
set_option maxHeartbeats 3200000 in
theorem drawLocked_any (a : Option Addr) (len cap : Nat) (zs : List Int) (w : World) (h : IsBytes w a len cap zs) :
    Calls Try.prog 49 #[.slice a len cap] w (LkPost w) := by
  have b0 := (Below.refl w.heap.size w).alloc (Nat.le_refl _) (.cells #[.string ⟨#[]⟩, .int .i64 0] 24)
  have P0 := PilW.new w 24 ⟨#[]⟩ 0
  have h0 : IsBytes (w.alloc (.cells #[.string ⟨#[]⟩, .int .i64 0] 24)) a len cap zs := h.below ((Below.refl _ _).alloc (Nat.le_refl _) _)
  have hsA : (w.alloc (.cells #[.string ⟨#[]⟩, .int .i64 0] 24)).heap.size = w.heap.size + 1 := by simp
  clear h
  go_enter Try.func49, Try.ntmps49
  go_wp2_with fail
  refine (open_any a len cap zs _ h0).mono ?_
  rintro e w1 ⟨b, ys, rfl, hr, hb, hlb⟩
  have hwb : w.heap.size < b := by rw [hsA] at hlb; omega
  have g1 := grownAnyQ (grown_of_below hb) (some b)
  have hb1 := hr.1
  clear hb hlb
  go_wp2_with fail
  refine (l5Heard_any b 0 ys _ hr (by omega)).mono ?_
  rintro e w2 ⟨v, n, f, c, g, k, q, rfl, O2, hn, hf, hD, hk, hq, r2, h2⟩
  have g2 := g1.trans h2
  have QV := PilAt.new w2 24 c g
  have rV := r2.alloc (.cells #[.string c, .int .i64 g] 24)
  have gV := g2.trans (World.grownBy_alloc w2 (.cells #[.string c, .int .i64 g] 24) (some b))
  have OV := O2.alloc (.cells #[.string c, .int .i64 g] 24)
  have hb2 : b < w2.heap.size := r2.1
  have hDz := hD.2.1
  have hDg := hD.fit
  have hk1 : k ≤ 100000 := by have := hD.per; omega
  have hw1 : w.heap.size < w1.heap.size := by omega
  have HF := Lib.hid hf
  have HN := Lib.hid (fun p (o : Int) W (h : RdAt W b p ys) (hp : p ≤ 800000) (h0 : 0 ≤ o) (h1 : o ≤ 100000) => l5Near_any b p ys c g o W h hp hD h0 h1)
  have HT := Lib.hid (fun p W (h : RdAt W b p ys) (hp : p ≤ 800000) => l5Threshold_any b p ys c g W h hp hD)
  clear hr h2 g1 g2 r2 hD h0 b0 hf hk O2
  go_wp2_with fail
  obtain ⟨X, hX⟩ : ∃ X, w2.heap.size = X := ⟨_, rfl⟩
  obtain ⟨V, hV⟩ : ∃ V, w2.alloc (.cells #[.string c, .int .i64 g] 24) = V := ⟨_, rfl⟩
  rw [hV] at rV gV OV QV ⊢
  rw [hX] at QV hb2 ⊢
  clear hV hX w2
  refine (pick_any b q 2 ys _ rV (by omega) (by omega) (by omega)).mono ?_
  rintro e w3 ⟨k1, hk2, rfl, r4, z5⟩
  have h6 := z5
  have O7 := OV.kept z5 (OV.offh hb1)
  clear rV OV z5
  have fk : FitsI (k : Int) := by unfold FitsI; omega
  by_cases k0 : k1 = 0
  · skip
    subst k0
    clear hk2 fk
    obtain ⟨d0, d1, dl⟩ := QV.kept h6 (by simp; omega)
    go_wp2_with fail
    refine (HN.out (q + 1) (k : Int) _ r4 (by omega) (by omega) (by omega)).mono ?_
    rintro e w12 ⟨x8, q10, rfl, hx9, hq11, r13, z14⟩
    clear d0 d1 dl
    have h15 := h6.trans z14
    have O16 := O7.kept z14 (O7.offh hb1)
    clear r4 O7 z14 h6
    obtain ⟨d0, d1, dl⟩ := QV.kept h15 (by simp; omega)
    go_wp2_with fail
    refine (HT.out q10 _ r13 (by omega)).mono ?_
    rintro e w21 ⟨t17, q19, rfl, ht18, hq20, r22, z23⟩
    clear d0 d1 dl
    have h24 := h15.trans z23
    have O25 := O16.kept z23 (O16.offh hb1)
    clear r13 O16 z23 h15
    obtain ⟨d0, d1, dl⟩ := QV.kept h24 (by simp; omega)
    go_wp2_with fail
    refine (l5Bad_any b q19 ys c g _ r22 (by omega) (by omega) hDg).mono ?_
    rintro e w26 ⟨C, X9, q9, rfl, hC, hX9, hq9, r27, z28⟩
    clear d0 d1 dl
    have h29 := h24.trans z28
    have O30 := O25.kept z28 (O25.offh hb1)
    clear r22 O25 z28 h24
    have g9 := gV.trans h29
    obtain ⟨⟨e0, e1, el⟩, ef⟩ := P0.kept g9 (by simp; omega)
    have f0 := ef 0
    have f1 := ef 1
    have b9 := ((Below.refl w.heap.size w).alloc (Nat.le_refl _) (.cells #[.string ⟨#[]⟩, .int .i64 0] 24)).grown g9 (by rw [hsA]; omega) (fun k hk => by cases hk; omega)
    have hws : w.heap.size ≤ w26.heap.size := by omega
    have O9 := Lib.hid ((O30.kept (pgrown2 (w := w26) (g := w.heap.size) 0 1 (.string C) (.int .i64 X9)) (O30.offh hw1)).mono (Nat.le_of_lt hw1))
    clear h29 O30 r27 gV QV g9 P0 ef HN HT hsA
    go_wp2
    refine bodyPost_ret (v := .tuple #[v, .agg #[.string C, .int .i64 X9], .int .i64 x8, .int .i64 t17]) (by simp [results, Try.results49, go_sem, e0, e1]) rfl ?_
    exact ⟨v, n, f, C, X9, x8, t17, rfl, O9.out, hn, HF.out, hC, hX9, hx9, ht18, b9.grown (pgrown2 0 1 (.string C) (.int .i64 X9)) hws (fun k hk => by cases hk; exact Nat.le_refl _)⟩
  · skip
    have t0 : ((k1 : Int) == 0) = false := by simp; omega
    obtain ⟨d0, d1, dl⟩ := QV.kept h6 (by simp; omega)
    go_wp2_with fail
    refine (HT.out (q + 1) _ r4 (by omega)).mono ?_
    rintro e w12 ⟨t8, q10, rfl, ht9, hq11, r13, z14⟩
    clear d0 d1 dl
    have h15 := h6.trans z14
    have O16 := O7.kept z14 (O7.offh hb1)
    clear r4 O7 z14 h6
    obtain ⟨d0, d1, dl⟩ := QV.kept h15 (by simp; omega)
    go_wp2_with fail
    refine (l5Bad_any b q10 ys c g _ r13 (by omega) (by omega) hDg).mono ?_
    rintro e w17 ⟨C, X9, q9, rfl, hC, hX9, hq9, r18, z19⟩
    clear d0 d1 dl
    have h20 := h15.trans z19
    have O21 := O16.kept z19 (O16.offh hb1)
    clear r13 O16 z19 h15
    have g9 := gV.trans h20
    obtain ⟨⟨e0, e1, el⟩, ef⟩ := P0.kept g9 (by simp; omega)
    have f0 := ef 0
    have f1 := ef 1
    have b9 := ((Below.refl w.heap.size w).alloc (Nat.le_refl _) (.cells #[.string ⟨#[]⟩, .int .i64 0] 24)).grown g9 (by rw [hsA]; omega) (fun k hk => by cases hk; omega)
    have hws : w.heap.size ≤ w17.heap.size := by omega
    have O9 := Lib.hid ((O21.kept (pgrown2 (w := w17) (g := w.heap.size) 0 1 (.string C) (.int .i64 X9)) (O21.offh hw1)).mono (Nat.le_of_lt hw1))
    clear h20 O21 r18 gV QV g9 P0 ef HN HT hsA
    go_wp2
    refine bodyPost_ret (v := .tuple #[v, .agg #[.string C, .int .i64 X9], .int .i64 (k : Int), .int .i64 t8]) (by simp [results, Try.results49, go_sem, e0, e1]) rfl ?_
    exact ⟨v, n, f, C, X9, (k : Int), t8, rfl, O9.out, hn, HF.out, hC, hX9, fk, ht9, b9.grown (pgrown2 0 1 (.string C) (.int .i64 X9)) hws (fun k hk => by cases hk; exact Nat.le_refl _)⟩
/-- A signal and a pilot were drawn. -/
def TbPost (w : World) (e : Ending) (w' : World) : Prop :=
  ∃ (v : Value) (n : Nat) (f : Nat → Int) (c : ByteArray) (g : Int), e = .returned (.tuple #[v, .agg #[.string c, .int .i64 g]]) ∧ OF w' w.heap.size v n f ∧ n ≤ 3001 ∧ (∀ j, j < n → FitsI (f j)) ∧ c.size ≤ 1000 ∧ FitsI g ∧ Below w.heap.size w w'

set_option maxHeartbeats 3200000 in
theorem drawTable_any (a : Option Addr) (len cap : Nat) (zs : List Int) (w : World) (h : IsBytes w a len cap zs) :
    Calls Try.prog 27 #[.slice a len cap] w (TbPost w) := by
  have P0 := PilW.new w 24 ⟨#[]⟩ 0
  have h0 : IsBytes (w.alloc (.cells #[.string ⟨#[]⟩, .int .i64 0] 24)) a len cap zs := h.below ((Below.refl _ _).alloc (Nat.le_refl _) _)
  have b0 := (Below.refl w.heap.size w).alloc (Nat.le_refl _) (.cells #[.string ⟨#[]⟩, .int .i64 0] 24)
  obtain ⟨W, hW⟩ : ∃ W, w.alloc (.cells #[.string ⟨#[]⟩, .int .i64 0] 24) = W := ⟨_, rfl⟩
  have hsA : W.heap.size = w.heap.size + 1 := by rw [← hW]; simp
  rw [hW] at P0 h0 b0
  clear h
  go_enter Try.func27, Try.ntmps27
  go_wp2_with fail
  clear hW
  refine (drawScore_any a len cap zs _ h0).mono ?_
  rintro e w1 ⟨v, n, f, c, g, k, rfl, O1, hn, hf, hc, hg, hk, b1⟩
  have HF := Lib.hid hf
  have hw1 : w.heap.size < W.heap.size := by omega
  have b2 := below_then b0 (Nat.le_refl _) b1
  have P1 := P0.kept (grown_of_below b1) (by simp)
  clear b0 h0 hf P0
  have O2 := O1.alloc (.cells #[.string c, .int .i64 g] 24)
  have b3 := b2.alloc b2.size (.cells #[.string c, .int .i64 g] 24)
  have QV := PilAt.new w1 24 c g
  have P2 := P1.kept (World.grownBy_alloc w1 (.cells #[.string c, .int .i64 g] 24) none) (by simp)
  clear O1 b2 P1 b1
  go_wp2_with fail
  obtain ⟨X, hX⟩ : ∃ X, w1.heap.size = X := ⟨_, rfl⟩
  obtain ⟨V, hV⟩ : ∃ V, w1.alloc (.cells #[.string c, .int .i64 g] 24) = V := ⟨_, rfl⟩
  rw [hV] at O2 b3 QV P2 ⊢
  rw [hX] at QV ⊢
  clear hV hX w1
  obtain ⟨d0, d1, dl⟩ := id QV
  obtain ⟨⟨e0, e1, el⟩, ef⟩ := id P2
  have f0 := ef 0
  have f1 := ef 1
  have O9 := Lib.hid (((O2.drewN 1).kept (pgrown2 (w := V.drew) (g := w.heap.size) 0 1 (.string c) (.int .i64 g)) ((O2.drewN 1).offh hw1)).mono (Nat.le_of_lt hw1))
  have b9 := Lib.hid (b3.drew.grown (pgrown2 0 1 (.string c) (.int .i64 g)) b3.size (fun k hk => by cases hk; exact Nat.le_refl _))
  clear O2 b3 ef hsA
  go_region
  go_wp2
  refine bodyPost_ret (v := .tuple #[v, .agg #[.string c, .int .i64 g]]) (by simp [results, Try.results27, go_sem, e0, e1]) rfl ?_
  exact ⟨v, n, f, c, g, rfl, O9.out, hn, HF.out, hc, hg, b9.out⟩
set_option maxHeartbeats 3200000 in
theorem drawBest_any (a : Option Addr) (len cap : Nat) (zs : List Int) (w : World) (h : IsBytes w a len cap zs) :
    Calls Try.prog 30 #[.slice a len cap] w (TbPost w) := by
  have P0 := PilW.new w 24 ⟨#[]⟩ 0
  have h0 : IsBytes (w.alloc (.cells #[.string ⟨#[]⟩, .int .i64 0] 24)) a len cap zs := h.below ((Below.refl _ _).alloc (Nat.le_refl _) _)
  have b0 := (Below.refl w.heap.size w).alloc (Nat.le_refl _) (.cells #[.string ⟨#[]⟩, .int .i64 0] 24)
  obtain ⟨W, hW⟩ : ∃ W, w.alloc (.cells #[.string ⟨#[]⟩, .int .i64 0] 24) = W := ⟨_, rfl⟩
  have hsA : W.heap.size = w.heap.size + 1 := by rw [← hW]; simp
  rw [hW] at P0 h0 b0
  clear h
  go_enter Try.func30, Try.ntmps30
  go_wp2_with fail
  clear hW
  refine (drawTable_any a len cap zs _ h0).mono ?_
  rintro e w1 ⟨v, n, f, c, g, rfl, O1, hn, hf, hc, hg, b1⟩
  have HF := Lib.hid hf
  have hw1 : w.heap.size < W.heap.size := by omega
  have b2 := below_then b0 (Nat.le_refl _) b1
  have P1 := P0.kept (grown_of_below b1) (by simp)
  clear b0 h0 hf P0
  obtain ⟨⟨e0, e1, el⟩, ef⟩ := id P1
  have f0 := ef 0
  have f1 := ef 1
  have O9 := Lib.hid ((O1.kept (pgrown2 (w := w1) (g := w.heap.size) 0 1 (.string c) (.int .i64 g)) (O1.offh hw1)).mono (Nat.le_of_lt hw1))
  have b9 := Lib.hid (b2.grown (pgrown2 0 1 (.string c) (.int .i64 g)) b2.size (fun k hk => by cases hk; exact Nat.le_refl _))
  clear O1 b2 b1 ef P1 hsA
  go_wp2
  refine bodyPost_ret (v := .tuple #[v, .agg #[.string c, .int .i64 g]]) (by simp [results, Try.results30, go_sem, e0, e1]) rfl ?_
  exact ⟨v, n, f, c, g, rfl, O9.out, hn, HF.out, hc, hg, b9.out⟩
set_option maxHeartbeats 3200000 in
theorem drawEarly_any (a : Option Addr) (len cap : Nat) (zs : List Int) (w : World) (h : IsBytes w a len cap zs) :
    Calls Try.prog 41 #[.slice a len cap] w (ScPost w) := by
  have P0 := PilW.new w 24 ⟨#[]⟩ 0
  have h0 : IsBytes (w.alloc (.cells #[.string ⟨#[]⟩, .int .i64 0] 24)) a len cap zs := h.below ((Below.refl _ _).alloc (Nat.le_refl _) _)
  have b0 := (Below.refl w.heap.size w).alloc (Nat.le_refl _) (.cells #[.string ⟨#[]⟩, .int .i64 0] 24)
  obtain ⟨W, hW⟩ : ∃ W, w.alloc (.cells #[.string ⟨#[]⟩, .int .i64 0] 24) = W := ⟨_, rfl⟩
  have hsA : W.heap.size = w.heap.size + 1 := by rw [← hW]; simp
  rw [hW] at P0 h0 b0
  clear h
  go_enter Try.func41, Try.ntmps41
  go_wp2_with fail
  clear hW
  refine (drawScore_any a len cap zs _ h0).mono ?_
  rintro e w1 ⟨v, n, f, c, g, k, rfl, O1, hn, hf, hc, hg, hk, b1⟩
  have HF := Lib.hid hf
  have hw1 : w.heap.size < W.heap.size := by omega
  have b2 := below_then b0 (Nat.le_refl _) b1
  have P1 := P0.kept (grown_of_below b1) (by simp)
  clear b0 h0 hf P0
  obtain ⟨⟨e0, e1, el⟩, ef⟩ := id P1
  have f0 := ef 0
  have f1 := ef 1
  have O9 := Lib.hid ((O1.kept (pgrown2 (w := w1) (g := w.heap.size) 0 1 (.string c) (.int .i64 g)) (O1.offh hw1)).mono (Nat.le_of_lt hw1))
  have b9 := Lib.hid (b2.grown (pgrown2 0 1 (.string c) (.int .i64 g)) b2.size (fun k hk => by cases hk; exact Nat.le_refl _))
  clear O1 b2 b1 ef P1 hsA
  go_wp2
  refine bodyPost_ret (v := .tuple #[v, .agg #[.string c, .int .i64 g], .int .i64 k]) (by simp [results, Try.results41, go_sem, e0, e1]) rfl ?_
  exact ⟨v, n, f, c, g, k, rfl, O9.out, hn, HF.out, hc, hg, hk, b9.out⟩
end Go.Proofs.Ytmeooebklohdfaa
