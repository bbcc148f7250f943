/- Contracts of the draws of chapter 4: signals and numbers. -/
import Derived.Test.YtlcnlhephhbhcaaDrawSig
import Derived.Test.YtlcnlhephhbhcaaDraw9
namespace Go.Proofs.Ytlcnlhephhbhcaa
open Go.RowKit
set_option linter.unusedVariables false
set_option maxRecDepth 100000
def strLn : Value → Nat
  | .string z => z.size
  | _ => 0
theorem OF.off {w : World} {b : Nat} {v : Value} {n : Nat} {f : Nat → Int} (h : OF w (b + 1) v n f) : v.ownBlock = none ∨ v.ownBlock ≠ some b := by
  cases hv : v.ownBlock with
  | none => exact .inl rfl
  | some q => right; intro e; cases e; have := (h.lt _ hv).1; omega
/-- A signal and a number were drawn. -/
def DrawSigInt (w : World) (e : Ending) (w' : World) : Prop := ∃ (v : Value) (n : Nat) (f : Nat → Int) (k : Int), e = .returned (.tuple #[v, .int .i64 k]) ∧ OF w' w.heap.size v n f ∧ n ≤ 3001 ∧ (∀ j, j < n → FitsI (f j)) ∧ FitsI k ∧ Below w.heap.size w w'
/-- A signal and two numbers were drawn. -/
def DrawSigInts (w : World) (e : Ending) (w' : World) : Prop := ∃ (v : Value) (n : Nat) (f : Nat → Int) (k l : Int), e = .returned (.tuple #[v, .int .i64 k, .int .i64 l]) ∧ OF w' w.heap.size v n f ∧ n ≤ 3001 ∧ (∀ j, j < n → FitsI (f j)) ∧ FitsI k ∧ FitsI l ∧ Below w.heap.size w w'
/-- Two signals were drawn. -/
def DrawSigs (w : World) (e : Ending) (w' : World) : Prop := ∃ (v : Value) (n : Nat) (f : Nat → Int) (u : Value) (m : Nat) (g : Nat → Int), e = .returned (.tuple #[v, u]) ∧ OF w' w.heap.size v n f ∧ n ≤ 3001 ∧ (∀ j, j < n → FitsI (f j)) ∧ OF w' w.heap.size u m g ∧ m ≤ 3001 ∧ (∀ j, j < m → FitsI (g j)) ∧ Below w.heap.size w w'
set_option maxHeartbeats 1600000 in
theorem drawAddSig_any (a : Option Addr) (len cap : Nat) (zs : List Int) (w : World) (h : IsBytes w a len cap zs) :
    Calls Try.prog 56 #[.slice a len cap] w (DrawSigs w) := by
  go_enter Try.func56, Try.ntmps56
  go_wp2_with fail
  refine (open_any a len cap zs _ h).mono ?_
  rintro e w1 ⟨b, ys, rfl, hr, hb, hlb⟩
  go_wp2_with fail
  refine (l4Some_any b 0 20 ys _ hr (by omega) (by omega)).mono ?_
  rintro e w12 ⟨v2, n3, f4, q5, rfl, O6, hn7, hf8, hq9, hr10, g11⟩
  have H13 : Hid (∀ j, j < n3 → FitsI (f4 j)) := Lib.hid (fun j hj => by have := hf8 j hj; unfold FitsI; omega)
  have hs14 : w1.heap.size ≤ w12.heap.size := g11.size
  have hb15 : b < w1.heap.size := hr.1
  clear hf8
  go_wp2_with fail
  refine (l4Bad_any b q5 w1.heap.size ys v2 n3 f4 _ hr10 (by omega) O6 (by omega) H13.out hb15 hs14).mono ?_
  rintro e w26 ⟨u16, m17, f18, q19, rfl, O20, hm21, hg22, hq23, hr24, g25⟩
  have g27 := g25 w1 g11 (Nat.le_refl _)
  have O28 := O20.mono (show b + 1 ≤ w1.heap.size by omega)
  have H29 := Lib.hid hg22
  clear O6 O20 hg22 g25 g11 hr10 H13 hs14 hb15 hn7
  have bw30 := below_grown hb (Nat.le_refl _) g27 hlb
  clear hb hr g27
  go_wp2_with fail
  refine (l4Some_any b q19 20 ys _ hr24 (by omega) (by omega)).mono ?_
  rintro e w41 ⟨v31, n32, f33, q34, rfl, O35, hn36, hf37, hq38, hr39, g40⟩
  have H42 : Hid (∀ j, j < n32 → FitsI (f33 j)) := Lib.hid (fun j hj => by have := hf37 j hj; unfold FitsI; omega)
  have hs43 : w26.heap.size ≤ w41.heap.size := g40.size
  have hb44 : b < w26.heap.size := hr24.1
  clear hf37
  go_wp2_with fail
  refine (l4Bad_any b q34 w26.heap.size ys v31 n32 f33 _ hr39 (by omega) O35 (by omega) H42.out hb44 hs43).mono ?_
  rintro e w55 ⟨u45, m46, f47, q48, rfl, O49, hm50, hg51, hq52, hr53, g54⟩
  have g56 := g54 w26 g40 (Nat.le_refl _)
  have O57 := O49.mono (show b + 1 ≤ w26.heap.size by omega)
  have H58 := Lib.hid hg51
  clear O35 O49 hg51 g54 g40 hr39 H42 hs43 hb44 hn36
  have bw59 := below_grown bw30 (Nat.le_refl _) g56 hlb
  have O60 := O28.kept g56 O28.off
  clear O28
  clear bw30 hr24 g56
  go_wp2
  go_ret2
  exact ⟨u16, m17, f18, u45, m46, f47, rfl, O60.mono (by omega), hm21, H29.out, O57.mono (by omega), hm50, H58.out, bw59⟩
set_option maxHeartbeats 1600000 in
theorem drawScaleSig_any (a : Option Addr) (len cap : Nat) (zs : List Int) (w : World) (h : IsBytes w a len cap zs) :
    Calls Try.prog 46 #[.slice a len cap] w (DrawSigInt w) := by
  go_enter Try.func46, Try.ntmps46
  go_wp2_with fail
  refine (open_any a len cap zs _ h).mono ?_
  rintro e w1 ⟨b, ys, rfl, hr, hb, hlb⟩
  go_wp2_with fail
  refine (l4Some_any b 0 20 ys _ hr (by omega) (by omega)).mono ?_
  rintro e w12 ⟨v2, n3, f4, q5, rfl, O6, hn7, hf8, hq9, hr10, g11⟩
  have H13 : Hid (∀ j, j < n3 → FitsI (f4 j)) := Lib.hid (fun j hj => by have := hf8 j hj; unfold FitsI; omega)
  have hs14 : w1.heap.size ≤ w12.heap.size := g11.size
  have hb15 : b < w1.heap.size := hr.1
  clear hf8
  go_wp2_with fail
  refine (l4Bad_any b q5 w1.heap.size ys v2 n3 f4 _ hr10 (by omega) O6 (by omega) H13.out hb15 hs14).mono ?_
  rintro e w26 ⟨u16, m17, f18, q19, rfl, O20, hm21, hg22, hq23, hr24, g25⟩
  have g27 := g25 w1 g11 (Nat.le_refl _)
  have O28 := O20.mono (show b + 1 ≤ w1.heap.size by omega)
  have H29 := Lib.hid hg22
  clear O6 O20 hg22 g25 g11 hr10 H13 hs14 hb15 hn7
  have bw30 := below_grown hb (Nat.le_refl _) g27 hlb
  clear hb hr g27
  go_wp2_with fail
  refine (pick_any b q19 12 ys _ hr24 (by omega) (by omega) (by omega)).mono ?_
  rintro e w35 ⟨k31, hk32, rfl, hr33, g34⟩
  have bw36 := below_grown bw30 (Nat.le_refl _) g34 hlb
  have O37 := O28.kept g34 O28.off
  clear O28
  clear bw30 hr24 g34
  by_cases ck31 : k31 = 0
  · subst ck31
    clear hk32
    go_wp2_with fail
    refine (num_any b (q19 + 1) ys _ w35.heap.size 5 [100000, 1000000, 1000001, -100001, 0] (hr33.alloc _) (IntsAt.new w35 _ [100000, 1000000, 1000001, -100001, 0]) rfl hr33.1 (by omega) (by omega) (by omega)).mono ?_
    rintro e w42 ⟨y38, hy39, rfl, hr40, g41⟩
    have g43 := (World.grownBy_alloc w35 (.cells #[.int .i64 100000, .int .i64 1000000, .int .i64 1000001, .int .i64 (-100001), .int .i64 0] 3) (some b)).trans g41
    clear g41
    have bw44 := below_grown bw36 (Nat.le_refl _) g43 hlb
    have O45 := O37.kept g43 O37.off
    clear O37
    clear bw36 hr33 g43
    have hf46 : FitsI y38 := by simp only [List.mem_cons, List.not_mem_nil, or_false] at hy39; unfold FitsI; omega
    clear hy39
    go_wp2
    go_ret2
    exact ⟨u16, m17, f18, y38, rfl, O45.mono (by omega), hm21, H29.out, hf46, bw44⟩
  · have ek31 : ((k31 : Int) == 0) = false := by rw [beq_eq_false_iff_ne]; omega
    go_wp2_with fail
    clear ek31
    refine (pick_any b (q19 + 1) 21 ys _ hr33 (by omega) (by omega) (by omega)).mono ?_
    rintro e w51 ⟨k47, hk48, rfl, hr49, g50⟩
    have bw52 := below_grown bw36 (Nat.le_refl _) g50 hlb
    have O53 := O37.kept g50 O37.off
    clear O37
    clear bw36 hr33 g50
    have hF : FitsI (k47 - 10) := by unfold FitsI; omega
    go_wp2
    go_ret2
    exact ⟨u16, m17, f18, _, rfl, O53.mono (by omega), hm21, H29.out, hF, bw52⟩
set_option maxHeartbeats 1600000 in
theorem drawClipSig_any (a : Option Addr) (len cap : Nat) (zs : List Int) (w : World) (h : IsBytes w a len cap zs) :
    Calls Try.prog 54 #[.slice a len cap] w (DrawSigInt w) := by
  go_enter Try.func54, Try.ntmps54
  go_wp2_with fail
  refine (open_any a len cap zs _ h).mono ?_
  rintro e w1 ⟨b, ys, rfl, hr, hb, hlb⟩
  go_wp2_with fail
  refine (l4Some_any b 0 20 ys _ hr (by omega) (by omega)).mono ?_
  rintro e w12 ⟨v2, n3, f4, q5, rfl, O6, hn7, hf8, hq9, hr10, g11⟩
  have H13 : Hid (∀ j, j < n3 → FitsI (f4 j)) := Lib.hid (fun j hj => by have := hf8 j hj; unfold FitsI; omega)
  have hs14 : w1.heap.size ≤ w12.heap.size := g11.size
  have hb15 : b < w1.heap.size := hr.1
  clear hf8
  go_wp2_with fail
  refine (l4Bad_any b q5 w1.heap.size ys v2 n3 f4 _ hr10 (by omega) O6 (by omega) H13.out hb15 hs14).mono ?_
  rintro e w26 ⟨u16, m17, f18, q19, rfl, O20, hm21, hg22, hq23, hr24, g25⟩
  have g27 := g25 w1 g11 (Nat.le_refl _)
  have O28 := O20.mono (show b + 1 ≤ w1.heap.size by omega)
  have H29 := Lib.hid hg22
  clear O6 O20 hg22 g25 g11 hr10 H13 hs14 hb15 hn7
  have bw30 := below_grown hb (Nat.le_refl _) g27 hlb
  clear hb hr g27
  go_wp2_with fail
  refine (pick_any b q19 12 ys _ hr24 (by omega) (by omega) (by omega)).mono ?_
  rintro e w35 ⟨k31, hk32, rfl, hr33, g34⟩
  have bw36 := below_grown bw30 (Nat.le_refl _) g34 hlb
  have O37 := O28.kept g34 O28.off
  clear O28
  clear bw30 hr24 g34
  by_cases ck31 : k31 = 0
  · subst ck31
    clear hk32
    go_wp2_with fail
    refine (num_any b (q19 + 1) ys _ w35.heap.size 3 [-1, 1000000, 1000001] (hr33.alloc _) (IntsAt.new w35 _ [-1, 1000000, 1000001]) rfl hr33.1 (by omega) (by omega) (by omega)).mono ?_
    rintro e w42 ⟨y38, hy39, rfl, hr40, g41⟩
    have g43 := (World.grownBy_alloc w35 (.cells #[.int .i64 (-1), .int .i64 1000000, .int .i64 1000001] 3) (some b)).trans g41
    clear g41
    have bw44 := below_grown bw36 (Nat.le_refl _) g43 hlb
    have O45 := O37.kept g43 O37.off
    clear O37
    clear bw36 hr33 g43
    have hf46 : FitsI y38 := by simp only [List.mem_cons, List.not_mem_nil, or_false] at hy39; unfold FitsI; omega
    clear hy39
    go_wp2
    go_ret2
    exact ⟨u16, m17, f18, y38, rfl, O45.mono (by omega), hm21, H29.out, hf46, bw44⟩
  · have ek31 : ((k31 : Int) == 0) = false := by rw [beq_eq_false_iff_ne]; omega
    go_wp2_with fail
    clear ek31
    refine (pick_any b (q19 + 1) 12 ys _ hr33 (by omega) (by omega) (by omega)).mono ?_
    rintro e w51 ⟨k47, hk48, rfl, hr49, g50⟩
    have bw52 := below_grown bw36 (Nat.le_refl _) g50 hlb
    have O53 := O37.kept g50 O37.off
    clear O37
    clear bw36 hr33 g50
    have hF : FitsI (k47) := by unfold FitsI; omega
    go_wp2
    go_ret2
    exact ⟨u16, m17, f18, _, rfl, O53.mono (by omega), hm21, H29.out, hF, bw52⟩
theorem l4Number_any (b p : Nat) (ys : List Int) (w : World) (hr : RdAt w b p ys) (hp : p ≤ 900000) :
    Calls Try.prog 107 #[.pointer (some ⟨b, 0, none⟩)] w fun e w' => ∃ (k : Int) (q : Nat), e = .returned (.int .i64 k) ∧ FitsI k ∧ q ≤ p + 5 ∧ RdAt w' b q ys ∧ w.grownBy w' (some b) := by
  go_enter Try.func107, Try.ntmps107
  go_wp2_with fail
  refine (pick_any b p 12 ys _ hr (by omega) (by omega) (by omega)).mono ?_
  rintro e w1 ⟨k, hk, rfl, hr1, hg1⟩
  clear hr
  by_cases c0 : k = 0
  · subst c0
    clear hk
    go_wp2_with fail
    refine (num_any b (p + 1) ys _ w1.heap.size 6 [-1, 2980, 3000, 3001, 9223372036854775807, -9223372036854775808] (hr1.alloc _) (IntsAt.new w1 _ [-1, 2980, 3000, 3001, 9223372036854775807, -9223372036854775808]) rfl hr1.1 (by omega) (by omega) (by omega)).mono ?_
    rintro e w2 ⟨y, hy, rfl, hr2, hg2⟩
    have hf : FitsI y := by simp only [List.mem_cons, List.not_mem_nil, or_false] at hy; unfold FitsI; omega
    have ga := hg1.trans ((World.grownBy_alloc w1 (.cells #[.int .i64 (-1), .int .i64 2980, .int .i64 3000, .int .i64 3001, .int .i64 9223372036854775807, .int .i64 (-9223372036854775808)] 3) (some b)).trans hg2)
    clear hy hr1 hg1 hg2
    go_wp2
    go_ret
    exact ⟨y, p + 1 + 1, rfl, hf, by omega, hr2, ga⟩
  · have e0 : ((k : Int) == 0) = false := by rw [beq_eq_false_iff_ne]; omega
    go_wp2_with fail
    clear e0
    refine (pick_any b (p + 1) 16 ys _ hr1 (by omega) (by omega) (by omega)).mono ?_
    rintro e w2 ⟨j, hj, rfl, hr2, hg2⟩
    have ga := hg1.trans hg2
    clear hr1 hg1 hg2
    go_wp2
    go_ret
    exact ⟨_, p + 1 + 1, rfl, by unfold FitsI; omega, by omega, hr2, ga⟩
set_option maxHeartbeats 1600000 in
theorem drawDelaySig_any (a : Option Addr) (len cap : Nat) (zs : List Int) (w : World) (h : IsBytes w a len cap zs) :
    Calls Try.prog 48 #[.slice a len cap] w (DrawSigInt w) := by
  go_enter Try.func48, Try.ntmps48
  go_wp2_with fail
  refine (open_any a len cap zs _ h).mono ?_
  rintro e w1 ⟨b, ys, rfl, hr, hb, hlb⟩
  go_wp2_with fail
  refine (l4Some_any b 0 20 ys _ hr (by omega) (by omega)).mono ?_
  rintro e w12 ⟨v2, n3, f4, q5, rfl, O6, hn7, hf8, hq9, hr10, g11⟩
  have H13 : Hid (∀ j, j < n3 → FitsI (f4 j)) := Lib.hid (fun j hj => by have := hf8 j hj; unfold FitsI; omega)
  have hs14 : w1.heap.size ≤ w12.heap.size := g11.size
  have hb15 : b < w1.heap.size := hr.1
  clear hf8
  go_wp2_with fail
  refine (l4Bad_any b q5 w1.heap.size ys v2 n3 f4 _ hr10 (by omega) O6 (by omega) H13.out hb15 hs14).mono ?_
  rintro e w26 ⟨u16, m17, f18, q19, rfl, O20, hm21, hg22, hq23, hr24, g25⟩
  have g27 := g25 w1 g11 (Nat.le_refl _)
  have O28 := O20.mono (show b + 1 ≤ w1.heap.size by omega)
  have H29 := Lib.hid hg22
  clear O6 O20 hg22 g25 g11 hr10 H13 hs14 hb15 hn7
  have bw30 := below_grown hb (Nat.le_refl _) g27 hlb
  clear hb hr g27
  go_wp2_with fail
  refine (l4Number_any b q19 ys _ hr24 (by omega)).mono ?_
  rintro e w37 ⟨k31, q32, rfl, hf33, hq34, hr35, g36⟩
  have bw38 := below_grown bw30 (Nat.le_refl _) g36 hlb
  have O39 := O28.kept g36 O28.off
  clear O28
  clear bw30 hr24 g36
  go_wp2
  go_ret2
  exact ⟨u16, m17, f18, k31, rfl, O39.mono (by omega), hm21, H29.out, hf33, bw38⟩
set_option maxHeartbeats 1600000 in
theorem drawCutSig_any (a : Option Addr) (len cap : Nat) (zs : List Int) (w : World) (h : IsBytes w a len cap zs) :
    Calls Try.prog 52 #[.slice a len cap] w (DrawSigInts w) := by
  go_enter Try.func52, Try.ntmps52
  go_wp2_with fail
  refine (open_any a len cap zs _ h).mono ?_
  rintro e w1 ⟨b, ys, rfl, hr, hb, hlb⟩
  have h1 := h.below hb
  go_wp2_with fail
  refine (drawDelaySig_any a len cap zs _ h1).mono ?_
  rintro e w2 ⟨v, n, f, k, rfl, O, hn, hf, hk, hb2⟩
  have hr2 := hr.below hb2
  have O2 := O.mono (show b + 1 ≤ w1.heap.size from hr.1)
  have b2 := below_then hb (Nat.le_refl _) hb2
  have H := Lib.hid hf
  clear h h1 hr hb hb2 O hf
  go_wp2_with fail
  refine (l4Number_any b 0 ys _ hr2 (by omega)).mono ?_
  rintro e w3 ⟨l, q, rfl, hl, hq, hr3, g⟩
  have b3 := below_grown b2 (Nat.le_refl _) g hlb
  have O3 := O2.kept g O2.off
  clear hr2 b2 O2 g
  go_wp2
  go_ret3
  exact ⟨v, n, f, k, l, rfl, O3.mono (by omega), hn, H.out, hk, hl, b3⟩
set_option maxHeartbeats 1600000 in
theorem drawBitErr_any (a : Option Addr) (len cap : Nat) (zs : List Int) (w : World) (h : IsBytes w a len cap zs) :
    Calls Try.prog 63 #[.slice a len cap] w (DrawTwo w) := by
  go_enter Try.func63, Try.ntmps63
  go_wp2_with fail
  refine (open_any a len cap zs _ h).mono ?_
  rintro e w1 ⟨b, ys, rfl, hr, hb, hlb⟩
  go_wp2_with fail
  refine (l1String_any b 0 12 ys _ hr (by omega) (by omega)).mono ?_
  rintro e w2 ⟨z, q, rfl, hz, hq, hr2, hg2⟩
  have b2 := below_grown hb (Nat.le_refl _) hg2 hlb
  clear hr hb hg2
  go_wp2_with fail
  go_loopw [6] (fun v wr => ∃ Y : ByteArray, v = .string Y ∧ Y.size ≤ z.size ∧ RdAt wr b (q + Y.size) ys ∧ Below w.heap.size w wr) (fun v _ => z.size - strLn v)
  case atStart => exact ⟨⟨#[]⟩, rfl, Nat.zero_le _, hr2, b2⟩
  case round =>
    obtain ⟨Y, rfl, hYa, rR, rg⟩ := hrel
    clear hr2 b2
    by_cases hlt : Y.size < z.size
    · go_wp2_with fail
      refine (pick_any b (q + Y.size) 2 ys _ rR (by omega) (by omega) (by omega)).mono ?_
      rintro e w5 ⟨k3, hk3, rfl, hr5, hg5⟩
      have bG := below_grown rg (Nat.le_refl _) hg5 hlb
      clear rR rg hg5
      go_wp2_with fail
      refine (l9Dec_digit k3 _ (by omega)).mono ?_
      rintro e w6 ⟨⟨X, rfl, hD⟩, hb6⟩
      have hr6 := hr5.below hb6
      have bH := below_then bG (Nat.le_refl _) hb6
      have hs1 : Y.size + X.size ≤ 9223372036854775807 := by omega
      have HS : Hid ((Y ++ X).size = Y.size + 1) := Lib.hid (by rw [ByteArray.size_append, hD])
      clear hr5 bG hb6 hD
      go_wp2
      go_roundw
      case rel => exact ⟨Y ++ X, rfl, by rw [HS.out]; omega, by rw [HS.out]; exact hr6, bH⟩
      case measure => have := HS.out; simp only [strLn]; simp [this]; omega
    · go_wp2_with fail
      refine (l2Bad_any b (q + Y.size) ys z _ rR (by omega) (by omega)).mono ?_
      rintro e w7 ⟨x, q3, rfl, hx, hq3, hr7, hg7⟩
      have bG := below_grown rg (Nat.le_refl _) hg7 hlb
      clear rR rg hg7
      go_wp2
      go_ret2
      exact ⟨x, Y, rfl, hx, by omega, bG⟩
end Go.Proofs.Ytlcnlhephhbhcaa
