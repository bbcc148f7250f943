/- Contracts of the draws of chapter 8: cells that are sometimes none, targets, names; the draws of the laws. -/
import Derived.Test.YtjnipbopimpggabDrawCel
namespace Go.Proofs.Ytjnipbopimpggab
open Go.RowKit
set_option linter.unusedVariables false
set_option maxRecDepth 100000
theorem grown_refl (w : World) (r : Option Nat) : w.grownBy w r := ⟨rfl, rfl, rfl, Nat.le_refl _, fun _ _ _ => rfl⟩
def CelBadPost (b p B : Nat) (zs : List Int) (v : Value) (n : Nat) (w : World) (e : Ending) (w' : World) : Prop :=
  ∃ (f : Nat → Usr) (q : Nat), e = .returned v ∧ TF w' B v n f ∧ (∀ i, i < n → DrT (f i)) ∧ q ≤ p + 300 ∧ RdAt w' b q zs ∧ ∃ W, w.grownBy W (some b) ∧ W.grownBy w' v.ownBlock
theorem DrT.up {n k : Nat} {f : Nat → Usr} {u : Usr} (h : ∀ i, i < n → DrT (f i)) (hu : DrT u) : ∀ i, i < n → DrT (upU f k u i) := fun i hi => by
  by_cases e : i = k
  · rw [e, upU_eq]; exact hu
  · rw [upU_ne e]; exact h i hi
set_option maxHeartbeats 3200000 in
theorem l8Bad_any (b p B : Nat) (zs : List Int) (v : Value) (n : Nat) (f : Nat → Usr) (w : World) (hr : RdAt w b p zs) (hp : p ≤ 900000) (hO : TF w B v n f) (hn : n ≤ 8) (hf : ∀ i, i < n → DrT (f i)) (hb : b < B) (hB : B ≤ w.heap.size) :
    Calls Try.prog 55 #[.pointer (some ⟨b, 0, none⟩), v] w (CelBadPost b p B zs v n w) := by
  have hbl := hr.1
  have HF := Lib.hid hf
  clear hf
  obtain ⟨a, cap, rfl, hg⟩ := hO.form
  by_cases h0 : n = 0
  · subst h0
    clear hg
    go_enter Try.func55, Try.ntmps55
    go_wp2
    go_ret
    exact ⟨f, p, rfl, hO, HF.out, by omega, hr, w, grown_refl _ _, grown_refl _ _⟩
  · have e0 : ((n : Int) == 0) = false := by simp; omega
    obtain ⟨g, rfl, hgB, hgl⟩ := hg (by omega)
    clear hg
    have hnb := own_neT hO hb
    go_enter Try.func55, Try.ntmps55
    go_wp2_with fail
    refine (pick_any b p n zs _ hr (by omega) (by omega) (by omega)).mono ?_
    rintro e w1 ⟨k, hk, rfl, hr1, hg1⟩
    have O1 := hO.kept hg1 hnb
    clear hr hO
    go_wp2_with fail
    refine (pick_any b (p + 1) 30 zs _ hr1 (by omega) (by omega) (by omega)).mono ?_
    rintro e w2 ⟨y, hy, rfl, hr2, hg2⟩
    have O2 := O1.kept hg2 hnb
    have g2 := hg1.trans hg2
    have hsz2 : g < w2.heap.size := Nat.lt_of_lt_of_le hgl g2.size
    clear hr1 O1 hg1 hg2
    have i0 : (0 : Int) ≤ (k : Int) := by omega
    have i1 : (k : Int) < (n : Int) := by omega
    by_cases y0 : y = 0
    · subst y0
      go_wp2_with fail
      refine (of_any b (p + 1 + 1) w2.heap.size 4 9 zs _ (hr2.alloc _) (TxtAt.arr w2 _ _ 4 9 (by
        intro i hi
        match i, hi with
        | 0, _ => exact ⟨_, rfl, by decide⟩
        | 1, _ => exact ⟨_, rfl, by decide⟩
        | 2, _ => exact ⟨_, rfl, by decide⟩
        | 3, _ => exact ⟨_, rfl, by decide⟩)) hr2.1 (by omega) (by omega) (by omega)).mono ?_
      rintro e w3 ⟨z, q3, rfl, hz, hq3, hr3, hg3⟩
      have O3 := (O2.alloc (.cells #[.string ⟨#[]⟩, .string ⟨#[65]⟩, .string ⟨#[97]⟩, .string ⟨#[97, 98, 99, 100, 101, 102, 103, 104, 105]⟩] 9)).kept hg3 hnb
      have g3 := (g2.trans (World.grownBy_alloc w2 (.cells #[.string ⟨#[]⟩, .string ⟨#[65]⟩, .string ⟨#[97]⟩, .string ⟨#[97, 98, 99, 100, 101, 102, 103, 104, 105]⟩] 9) (some b))).trans hg3
      obtain ⟨d0, d1, d2, d3⟩ := O3.cells k hk
      have fr := O3.free
      have O4 := Lib.hid (O3.set0 k z)
      have one : w3.grownBy (w3.setCell ⟨g, k * 4, none⟩ (.string z)) (some g) := ⟨rfl, rfl, rfl, by simp, fun k hk hne => Below.heap_setCell _ _ _ _ (fun e => hne (by rw [e]))⟩
      have hr4 := Lib.hid (hr3.kept one (fun q e => by cases e; omega))
      have ONE := Lib.hid one
      have HF2 := Lib.hid (DrT.up (k := k) (u := ⟨z, (f k).data, (f k).gain, (f k).delay⟩) HF.out (by
        obtain ⟨h1, h2, h3, h4⟩ := HF.out k hk
        exact ⟨by show z.size ≤ 1000; omega, h2, h3, h4⟩))
      clear O2 O3 hr3 hg3 g2 hr2 one
      go_wp2
      go_ret
      exact ⟨_, q3, rfl, O4.out, HF2.out, by omega, hr4.out, w3, g3, ONE.out⟩
    have e0' : ((y : Int) == 0) = false := by rw [beq_eq_false_iff_ne]; omega
    by_cases y1 : y = 1
    · subst y1
      go_wp2_with fail
      refine (of_any b (p + 1 + 1) w2.heap.size 4 7 zs _ (hr2.alloc _) (TxtAt.arr w2 _ _ 4 7 (by
        intro i hi
        match i, hi with
        | 0, _ => exact ⟨_, rfl, by decide⟩
        | 1, _ => exact ⟨_, rfl, by decide⟩
        | 2, _ => exact ⟨_, rfl, by decide⟩
        | 3, _ => exact ⟨_, rfl, by decide⟩)) hr2.1 (by omega) (by omega) (by omega)).mono ?_
      rintro e w3 ⟨z, q3, rfl, hz, hq3, hr3, hg3⟩
      have O3 := (O2.alloc (.cells #[.string ⟨#[]⟩, .string ⟨#[48]⟩, .string ⟨#[50]⟩, .string ⟨#[48, 48, 48, 48, 48, 48, 48]⟩] 9)).kept hg3 hnb
      have g3 := (g2.trans (World.grownBy_alloc w2 (.cells #[.string ⟨#[]⟩, .string ⟨#[48]⟩, .string ⟨#[50]⟩, .string ⟨#[48, 48, 48, 48, 48, 48, 48]⟩] 9) (some b))).trans hg3
      obtain ⟨d0, d1, d2, d3⟩ := O3.cells k hk
      have fr := O3.free
      have O4 := Lib.hid (O3.set1 k z)
      have one : w3.grownBy (w3.setCell ⟨g, k * 4 + 1, none⟩ (.string z)) (some g) := ⟨rfl, rfl, rfl, by simp, fun k hk hne => Below.heap_setCell _ _ _ _ (fun e => hne (by rw [e]))⟩
      have hr4 := Lib.hid (hr3.kept one (fun q e => by cases e; omega))
      have ONE := Lib.hid one
      have HF2 := Lib.hid (DrT.up (k := k) (u := ⟨(f k).code, z, (f k).gain, (f k).delay⟩) HF.out (by
        obtain ⟨h1, h2, h3, h4⟩ := HF.out k hk
        exact ⟨h1, by show z.size ≤ 1000; omega, h3, h4⟩))
      clear O2 O3 hr3 hg3 g2 hr2 one
      go_wp2
      go_ret
      exact ⟨_, q3, rfl, O4.out, HF2.out, by omega, hr4.out, w3, g3, ONE.out⟩
    have e1 : ((y : Int) == 1) = false := by rw [beq_eq_false_iff_ne]; omega
    by_cases y2 : y = 2
    · subst y2
      go_wp2_with fail
      refine (num_any b (p + 1 + 1) zs _ w2.heap.size 3 [-1, 1000, 1001] (hr2.alloc _) (IntsAt.new w2 _ [-1, 1000, 1001]) rfl hr2.1 (by omega) (by omega) (by omega)).mono ?_
      rintro e w3 ⟨z, hz, rfl, hr3, hg3⟩
      have hzf : FitsI z := by
        simp only [List.mem_cons, List.not_mem_nil, or_false] at hz
        unfold FitsI; omega
      have O3 := (O2.alloc (.cells #[.int .i64 (-1), .int .i64 1000, .int .i64 1001] 3)).kept hg3 hnb
      have g3 := (g2.trans (World.grownBy_alloc w2 (.cells #[.int .i64 (-1), .int .i64 1000, .int .i64 1001] 3) (some b))).trans hg3
      obtain ⟨d0, d1, d2, d3⟩ := O3.cells k hk
      have fr := O3.free
      have O4 := Lib.hid (O3.set2 k z)
      have one : w3.grownBy (w3.setCell ⟨g, k * 4 + 2, none⟩ (.int .i64 z)) (some g) := ⟨rfl, rfl, rfl, by simp, fun k hk hne => Below.heap_setCell _ _ _ _ (fun e => hne (by rw [e]))⟩
      have hr4 := Lib.hid (hr3.kept one (fun q e => by cases e; omega))
      have ONE := Lib.hid one
      have HF2 := Lib.hid (DrT.up (k := k) (u := ⟨(f k).code, (f k).data, z, (f k).delay⟩) HF.out (by
        obtain ⟨h1, h2, h3, h4⟩ := HF.out k hk
        exact ⟨h1, h2, hzf, h4⟩))
      clear O2 O3 hr3 hg3 g2 hr2 one hz
      go_wp2
      go_ret
      exact ⟨_, p + 1 + 1 + 1, rfl, O4.out, HF2.out, by omega, hr4.out, w3, g3, ONE.out⟩
    have e2 : ((y : Int) == 2) = false := by rw [beq_eq_false_iff_ne]; omega
    by_cases y3 : y = 3
    · subst y3
      go_wp2_with fail
      refine (num_any b (p + 1 + 1) zs _ w2.heap.size 4 [0, 20, 21, -1] (hr2.alloc _) (IntsAt.new w2 _ [0, 20, 21, -1]) rfl hr2.1 (by omega) (by omega) (by omega)).mono ?_
      rintro e w3 ⟨z, hz, rfl, hr3, hg3⟩
      have hzf : FitsI z := by
        simp only [List.mem_cons, List.not_mem_nil, or_false] at hz
        unfold FitsI; omega
      have O3 := (O2.alloc (.cells #[.int .i64 0, .int .i64 20, .int .i64 21, .int .i64 (-1)] 3)).kept hg3 hnb
      have g3 := (g2.trans (World.grownBy_alloc w2 (.cells #[.int .i64 0, .int .i64 20, .int .i64 21, .int .i64 (-1)] 3) (some b))).trans hg3
      obtain ⟨d0, d1, d2, d3⟩ := O3.cells k hk
      have fr := O3.free
      have O4 := Lib.hid (O3.set3 k z)
      have one : w3.grownBy (w3.setCell ⟨g, k * 4 + 3, none⟩ (.int .i64 z)) (some g) := ⟨rfl, rfl, rfl, by simp, fun k hk hne => Below.heap_setCell _ _ _ _ (fun e => hne (by rw [e]))⟩
      have hr4 := Lib.hid (hr3.kept one (fun q e => by cases e; omega))
      have ONE := Lib.hid one
      have HF2 := Lib.hid (DrT.up (k := k) (u := ⟨(f k).code, (f k).data, (f k).gain, z⟩) HF.out (by
        obtain ⟨h1, h2, h3, h4⟩ := HF.out k hk
        exact ⟨h1, h2, h3, hzf⟩))
      clear O2 O3 hr3 hg3 g2 hr2 one hz
      go_wp2
      go_ret
      exact ⟨_, p + 1 + 1 + 1, rfl, O4.out, HF2.out, by omega, hr4.out, w3, g3, ONE.out⟩
    have e3 : ((y : Int) == 3) = false := by rw [beq_eq_false_iff_ne]; omega
    go_wp2
    go_ret
    exact ⟨f, p + 1 + 1, rfl, O2, HF.out, by omega, hr2, w2, g2, grown_refl _ _⟩
theorem l8Open_any (b p : Nat) (zs : List Int) (w : World) (hr : RdAt w b p zs) (hp : p ≤ 800000) :
    Calls Try.prog 33 #[.pointer (some ⟨b, 0, none⟩)] w (CelPost b p 900 zs w) := by
  have hbl := hr.1
  go_enter Try.func33, Try.ntmps33
  go_wp2_with fail
  refine (l8Some_any b p zs _ hr hp).mono ?_
  rintro e w1 ⟨v, n, f, q, rfl, O1, hn, hf, hq, hr1, hg1⟩
  have HF := Lib.hid hf
  have hs1 : w.heap.size ≤ w1.heap.size := hg1.size
  clear hf hr
  go_wp2_with fail
  refine (l8Bad_any b q w.heap.size zs v n f _ hr1 (by omega) O1 hn HF.out hbl hs1).mono ?_
  rintro e w2 ⟨f2, q2, rfl, O2, hf2, hq2, hr2, W, hgw, hgv⟩
  have HF2 := Lib.hid hf2
  have g2 : w.grownBy w2 (some b) := grown_own (hg1.trans hgw) hgv (fun k e => (O1.lt k e).1)
  clear hf2 O1 hr1 hg1 hgw hgv
  go_wp2
  go_ret
  exact ⟨_, n, f2, q2, rfl, O2, hn, HF2.out, by omega, hr2, g2⟩
def AimPost (b p : Nat) (zs : List Int) (w : World) (e : Ending) (w' : World) : Prop :=
  ∃ (t : Int) (q : Nat), e = .returned (.int .i64 t) ∧ FitsI t ∧ q ≤ p + 2 ∧ RdAt w' b q zs ∧ w.grownBy w' (some b)
theorem l8Aim_any (b p : Nat) (zs : List Int) (w : World) (hr : RdAt w b p zs) (hp : p ≤ 900000) :
    Calls Try.prog 51 #[.pointer (some ⟨b, 0, none⟩)] w (AimPost b p zs w) := by
  have hbl := hr.1
  go_enter Try.func51, Try.ntmps51
  go_wp2_with fail
  refine (pick_any b p 12 zs _ hr (by omega) (by omega) (by omega)).mono ?_
  rintro e w1 ⟨k, hk, rfl, hr1, hg1⟩
  clear hr
  by_cases h0 : k = 0
  · subst h0
    clear hk
    go_wp2_with fail
    refine (num_any b (p + 1) zs _ w1.heap.size 4 [-1, 40, 41, 9223372036854775807] (hr1.alloc _) (IntsAt.new w1 _ [-1, 40, 41, 9223372036854775807]) rfl hr1.1 (by omega) (by omega) (by omega)).mono ?_
    rintro e w2 ⟨t, ht, rfl, hr2, hg2⟩
    have hf : FitsI t := by
      simp only [List.mem_cons, List.not_mem_nil, or_false] at ht
      unfold FitsI; omega
    have g2 := (hg1.trans (World.grownBy_alloc w1 (.cells #[.int .i64 (-1), .int .i64 40, .int .i64 41, .int .i64 9223372036854775807] 3) (some b))).trans hg2
    clear ht hr1 hg1 hg2
    go_wp2
    go_ret
    exact ⟨t, p + 1 + 1, rfl, hf, by omega, hr2, g2⟩
  · have e0 : ((k : Int) == 0) = false := by rw [beq_eq_false_iff_ne]; omega
    go_wp2_with fail
    refine (pick_any b (p + 1) 12 zs _ hr1 (by omega) (by omega) (by omega)).mono ?_
    rintro e w2 ⟨t, ht, rfl, hr2, hg2⟩
    have g2 := hg1.trans hg2
    clear hr1 hg1 hg2
    go_wp2
    go_ret
    exact ⟨t, p + 1 + 1, rfl, by unfold FitsI; omega, by omega, hr2, g2⟩
/-- Stations and a number were drawn. -/
def CelInt (w : World) (e : Ending) (w' : World) : Prop := ∃ (v : Value) (n : Nat) (f : Nat → Usr) (t : Int), e = .returned (.tuple #[v, .int .i64 t]) ∧ TF w' w.heap.size v n f ∧ n ≤ 8 ∧ (∀ i, i < n → DrT (f i)) ∧ FitsI t ∧ Below w.heap.size w w'
theorem drawPowerStep_any (a : Option Addr) (len cap : Nat) (zs : List Int) (w : World) (h : IsBytes w a len cap zs) :
    Calls Try.prog 23 #[.slice a len cap] w (CelInt w) := by
  go_enter Try.func23, Try.ntmps23
  go_wp2_with fail
  refine (open_any a len cap zs _ h).mono ?_
  rintro e w1 ⟨b, ys, rfl, hr, hb, hlb⟩
  go_wp2_with fail
  refine (l8Open_any b 0 ys _ hr (by omega)).mono ?_
  rintro e w2 ⟨v, n, f, q, rfl, O2, hn, hf, hq, hr2, hg2⟩
  have b2 := below_grown hb (Nat.le_refl _) hg2 hlb
  have hb1 := hr.1
  have O3 := O2.mono hb.size
  have HF := Lib.hid hf
  clear hr hf hg2
  go_wp2_with fail
  refine (l8Aim_any b q ys _ hr2 (by omega)).mono ?_
  rintro e w4 ⟨t, q3, rfl, ht, hq3, hr4, hg4⟩
  have O4 := O3.kept hg4 (own_neT O2 hb1)
  have b4 := b2.grown hg4 b2.size (fun k e => by cases e; omega)
  clear hr2 O2 O3 b2 hg4 hb
  go_wp2
  go_ret2
  exact ⟨_, n, f, t, rfl, O4, hn, HF.out, ht, b4⟩
theorem drawPowerTime_any (a : Option Addr) (len cap : Nat) (zs : List Int) (w : World) (h : IsBytes w a len cap zs) :
    Calls Try.prog 7 #[.slice a len cap] w (CelInt w) := by
  go_enter Try.func7, Try.ntmps7
  go_wp2_with fail
  refine (drawPowerStep_any a len cap zs _ h).mono ?_
  rintro e w1 ⟨v, n, f, t, rfl, O, hn, hf, ht, b1⟩
  have HF := Lib.hid hf
  clear hf
  go_wp2
  go_ret2
  exact ⟨_, n, f, t, rfl, O, hn, HF.out, ht, b1⟩
/-- A station and a number were drawn. -/
def StnInt (w : World) (e : Ending) (w' : World) : Prop := ∃ (u : Usr) (t : Int), e = .returned (.tuple #[.agg #[.string u.code, .string u.data, .int .i64 u.gain, .int .i64 u.delay], .int .i64 t]) ∧ DrT u ∧ FitsI t ∧ Below w.heap.size w w'
end Go.Proofs.Ytjnipbopimpggab
