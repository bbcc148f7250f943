/- The contracts of DrawAdmitStation and DrawReleaseStation. -/
import Derived.Test.YtjnipbopimpggabDrawCel2
import Derived.BigQuiet
namespace Go.Proofs.Ytjnipbopimpggab
open Go.RowKit
set_option linter.unusedVariables false
set_option maxRecDepth 100000
theorem results_tmp4c {fn : Func} {t u v x : Tmp} (h : fn.results = #[.tmp t, .tmp u, .tmp v, .tmp x]) (tmps : Array Value) (P : Program) (w : World) :
    (results fn tmps).run P w = .ok (.tuple #[tmps.getD t undef, tmps.getD u undef, tmps.getD v undef, tmps.getD x undef]) w := by
  simp [results, h]
/-- Stations, a name and two numbers were drawn. -/
def CelAdmit (w : World) (e : Ending) (w' : World) : Prop := ∃ (v : Value) (n : Nat) (f : Nat → Usr) (z : ByteArray) (D L : Int), e = .returned (.tuple #[v, .string z, .int .i64 D, .int .i64 L]) ∧ TF w' w.heap.size v n f ∧ n ≤ 8 ∧ (∀ i, i < n → DrT (f i)) ∧ z.size ≤ 1000 ∧ FitsI D ∧ FitsI L ∧ Below w.heap.size w w'
set_option maxHeartbeats 3200000 in
theorem drawAdmit_any (a : Option Addr) (len cap : Nat) (zs : List Int) (w : World) (h : IsBytes w a len cap zs) :
    Calls Try.prog 13 #[.slice a len cap] w (CelAdmit w) := by
  go_enter Try.func13, Try.ntmps13
  go_wp2_with fail
  refine (open_any a len cap zs _ h).mono ?_
  rintro e w1 ⟨b, ys, rfl, hr, hb, hlb⟩
  go_wp2_with fail
  refine (l8Open_any b 0 ys _ hr (by omega)).mono ?_
  rintro e w2 ⟨v, n, f, q, rfl, O2, hn, hf, hq, hr2, hg2⟩
  have b2 := below_grown hb (Nat.le_refl _) hg2 hlb
  have hb1 := hr.1
  have hnb := own_neT O2 hb1
  have O3 := O2.mono hb.size
  have HF := Lib.hid hf
  clear hr hf hg2 O2 hb
  go_wp2_with fail
  refine (pick_any b q 5 ys _ hr2 (by omega) (by omega) (by omega)).mono ?_
  rintro e w3 ⟨k3, hk3, rfl, hr3, h3⟩
  have O4 := O3.kept h3 hnb
  have b3 := b2.grown h3 b2.size (fun k e => by cases e; omega)
  clear hr2 O3 b2 h3
  go_wp2_with fail
  refine (pick_any b (q + 1) 6 ys _ hr3 (by omega) (by omega) (by omega)).mono ?_
  rintro e w4 ⟨k4, hk4, rfl, hr4, h4⟩
  have O5 := O4.kept h4 hnb
  have b4 := b3.grown h4 b3.size (fun k e => by cases e; omega)
  clear hr3 O4 b3 h4
  go_wp2_with fail
  refine (pick_any b (q + 1 + 1) 16 ys _ hr4 (by omega) (by omega) (by omega)).mono ?_
  rintro e w5 ⟨y, hy, rfl, hr5, h5⟩
  have O6 := O5.kept h5 hnb
  have b5 := b4.grown h5 b4.size (fun k e => by cases e; omega)
  clear hr4 O5 b4 h5
  by_cases y0 : y = 0
  · subst y0
    clear hy
    go_wp2_with fail
    refine (num_any b (q + 1 + 1 + 1) ys _ w5.heap.size 3 [-1, 0, 7] (hr5.alloc _) (IntsAt.new w5 _ [-1, 0, 7]) rfl hr5.1 (by omega) (by omega) (by omega)).mono ?_
    rintro e w6 ⟨D, hD, rfl, hr6, h6⟩
    have fD : FitsI D := by
      simp only [List.mem_cons, List.not_mem_nil, or_false] at hD
      unfold FitsI; omega
    have O7 := (O6.alloc (.cells #[.int .i64 (-1), .int .i64 0, .int .i64 7] 3)).kept h6 hnb
    have b6 := (b5.alloc b5.size (.cells #[.int .i64 (-1), .int .i64 0, .int .i64 7] 3)).grown h6 (Nat.le_trans b5.size (by simp)) (fun k e => by cases e; omega)
    clear hD hr5 O6 b5 h6
    go_wp2_with fail
    refine (of_any b (q + 1 + 1 + 1 + 1) w6.heap.size 6 3 ys _ (hr6.alloc _) (TxtAt.arr w6 _ _ 6 3 (by
      intro i hi
      match i, hi with
      | 0, _ => exact ⟨_, rfl, by decide⟩
      | 1, _ => exact ⟨_, rfl, by decide⟩
      | 2, _ => exact ⟨_, rfl, by decide⟩
      | 3, _ => exact ⟨_, rfl, by decide⟩
      | 4, _ => exact ⟨_, rfl, by decide⟩
      | 5, _ => exact ⟨_, rfl, by decide⟩)) hr6.1 (by omega) (by omega) (by omega)).mono ?_
    rintro e w9 ⟨z, q9, rfl, hz, hq9, hr9, h9⟩
    have O9 := (O7.alloc (.cells #[.string ⟨#[110]⟩, .string ⟨#[109]⟩, .string ⟨#[97]⟩, .string ⟨#[110, 101, 119]⟩, .string ⟨#[]⟩, .string ⟨#[66]⟩] 9)).kept h9 hnb
    have b9 := (b6.alloc b6.size (.cells #[.string ⟨#[110]⟩, .string ⟨#[109]⟩, .string ⟨#[97]⟩, .string ⟨#[110, 101, 119]⟩, .string ⟨#[]⟩, .string ⟨#[66]⟩] 9)).grown h9 (Nat.le_trans b6.size (by simp)) (fun k e => by cases e; omega)
    clear O7 b6 h9 hr6 hr9
    go_wp2
    refine bodyPost_ret (results_tmp4c rfl _ _ _) rfl ?_
    exact ⟨_, n, f, z, D, 1 + (k4 : Int), rfl, O9, hn, HF.out, by omega, fD, by unfold FitsI; omega, b9⟩
  have e0 : ((y : Int) == 0) = false := by rw [beq_eq_false_iff_ne]; omega
  by_cases y1 : y = 1
  · subst y1
    clear hy y0 e0
    go_wp2_with fail
    refine (num_any b (q + 1 + 1 + 1) ys _ w5.heap.size 3 [0, 20, 21] (hr5.alloc _) (IntsAt.new w5 _ [0, 20, 21]) rfl hr5.1 (by omega) (by omega) (by omega)).mono ?_
    rintro e w6 ⟨D, hD, rfl, hr6, h6⟩
    have fD : FitsI D := by
      simp only [List.mem_cons, List.not_mem_nil, or_false] at hD
      unfold FitsI; omega
    have O7 := (O6.alloc (.cells #[.int .i64 0, .int .i64 20, .int .i64 21] 3)).kept h6 hnb
    have b6 := (b5.alloc b5.size (.cells #[.int .i64 0, .int .i64 20, .int .i64 21] 3)).grown h6 (Nat.le_trans b5.size (by simp)) (fun k e => by cases e; omega)
    clear hD hr5 O6 b5 h6
    go_wp2_with fail
    refine (of_any b (q + 1 + 1 + 1 + 1) w6.heap.size 6 3 ys _ (hr6.alloc _) (TxtAt.arr w6 _ _ 6 3 (by
      intro i hi
      match i, hi with
      | 0, _ => exact ⟨_, rfl, by decide⟩
      | 1, _ => exact ⟨_, rfl, by decide⟩
      | 2, _ => exact ⟨_, rfl, by decide⟩
      | 3, _ => exact ⟨_, rfl, by decide⟩
      | 4, _ => exact ⟨_, rfl, by decide⟩
      | 5, _ => exact ⟨_, rfl, by decide⟩)) hr6.1 (by omega) (by omega) (by omega)).mono ?_
    rintro e w9 ⟨z, q9, rfl, hz, hq9, hr9, h9⟩
    have O9 := (O7.alloc (.cells #[.string ⟨#[110]⟩, .string ⟨#[109]⟩, .string ⟨#[97]⟩, .string ⟨#[110, 101, 119]⟩, .string ⟨#[]⟩, .string ⟨#[66]⟩] 9)).kept h9 hnb
    have b9 := (b6.alloc b6.size (.cells #[.string ⟨#[110]⟩, .string ⟨#[109]⟩, .string ⟨#[97]⟩, .string ⟨#[110, 101, 119]⟩, .string ⟨#[]⟩, .string ⟨#[66]⟩] 9)).grown h9 (Nat.le_trans b6.size (by simp)) (fun k e => by cases e; omega)
    clear O7 b6 h9 hr6 hr9
    go_wp2
    refine bodyPost_ret (results_tmp4c rfl _ _ _) rfl ?_
    exact ⟨_, n, f, z, 1 + (k3 : Int), D, rfl, O9, hn, HF.out, by omega, by unfold FitsI; omega, fD, b9⟩
  · have e1 : ((y : Int) == 1) = false := by rw [beq_eq_false_iff_ne]; omega
    go_wp2_with fail
    refine (of_any b (q + 1 + 1 + 1) w5.heap.size 6 3 ys _ (hr5.alloc _) (TxtAt.arr w5 _ _ 6 3 (by
      intro i hi
      match i, hi with
      | 0, _ => exact ⟨_, rfl, by decide⟩
      | 1, _ => exact ⟨_, rfl, by decide⟩
      | 2, _ => exact ⟨_, rfl, by decide⟩
      | 3, _ => exact ⟨_, rfl, by decide⟩
      | 4, _ => exact ⟨_, rfl, by decide⟩
      | 5, _ => exact ⟨_, rfl, by decide⟩)) hr5.1 (by omega) (by omega) (by omega)).mono ?_
    rintro e w9 ⟨z, q9, rfl, hz, hq9, hr9, h9⟩
    have O9 := (O6.alloc (.cells #[.string ⟨#[110]⟩, .string ⟨#[109]⟩, .string ⟨#[97]⟩, .string ⟨#[110, 101, 119]⟩, .string ⟨#[]⟩, .string ⟨#[66]⟩] 9)).kept h9 hnb
    have b9 := (b5.alloc b5.size (.cells #[.string ⟨#[110]⟩, .string ⟨#[109]⟩, .string ⟨#[97]⟩, .string ⟨#[110, 101, 119]⟩, .string ⟨#[]⟩, .string ⟨#[66]⟩] 9)).grown h9 (Nat.le_trans b5.size (by simp)) (fun k e => by cases e; omega)
    clear O6 b5 h9 hr5 hr9
    go_wp2
    refine bodyPost_ret (results_tmp4c rfl _ _ _) rfl ?_
    exact ⟨_, n, f, z, 1 + (k3 : Int), 1 + (k4 : Int), rfl, O9, hn, HF.out, by omega, by unfold FitsI; omega, by unfold FitsI; omega, b9⟩
def WhichPost (b p : Nat) (zs : List Int) (w : World) (e : Ending) (w' : World) : Prop :=
  ∃ (z : ByteArray) (q : Nat), e = .returned (.string z) ∧ z.size ≤ 1000 ∧ q ≤ p + 200 ∧ RdAt w' b q zs ∧ w.grownBy w' (some b)
set_option maxHeartbeats 1600000 in
theorem l8Which_any (b p : Nat) (ys : List Int) (v : Value) (n B : Nat) (f : Nat → Usr) (w : World) (hr : RdAt w b p ys) (hp : p ≤ 900000) (hO : TF w B v n f) (hn : n ≤ 8) (hf : ∀ i, i < n → DrT (f i)) (hb : b < B) :
    Calls Try.prog 47 #[.pointer (some ⟨b, 0, none⟩), v] w (WhichPost b p ys w) := by
  have hbl := hr.1
  have HF := Lib.hid hf
  have hnb := own_neT hO hb
  clear hf
  obtain ⟨a, cap, rfl, hg⟩ := hO.form
  by_cases h0 : n = 0
  · subst h0
    clear hg hO
    go_enter Try.func47, Try.ntmps47
    go_wp2_with fail
    refine (of_any b (p) w.heap.size 5 1 ys _ (hr.alloc _) (TxtAt.arr w _ _ 5 1 (by
      intro i hi
      match i, hi with
      | 0, _ => exact ⟨_, rfl, by decide⟩
      | 1, _ => exact ⟨_, rfl, by decide⟩
      | 2, _ => exact ⟨_, rfl, by decide⟩
      | 3, _ => exact ⟨_, rfl, by decide⟩
      | 4, _ => exact ⟨_, rfl, by decide⟩)) hr.1 (by omega) (by omega) (by omega)).mono ?_
    rintro e w3 ⟨z, q3, rfl, hz, hq3, hr3, hg3⟩
    have g3 := (World.grownBy_alloc w (.cells #[.string ⟨#[97]⟩, .string ⟨#[98]⟩, .string ⟨#[122]⟩, .string ⟨#[]⟩, .string ⟨#[65]⟩] 9) (some b)).trans hg3
    go_wp2
    go_ret
    exact ⟨z, q3, rfl, by omega, by omega, hr3, g3⟩
  · obtain ⟨g, rfl, hgB, hgl⟩ := hg (by omega)
    clear hg
    have j0 : (0 : Int) < (n : Int) := by omega
    go_enter Try.func47, Try.ntmps47
    go_wp2_with fail
    refine (pick_any b p 3 ys _ hr (by omega) (by omega) (by omega)).mono ?_
    rintro e w1 ⟨k, hk, rfl, hr1, hg1⟩
    have O1 := hO.kept hg1 hnb
    clear hr hO
    by_cases k0 : 0 < k
    · go_wp2_with fail
      refine (pick_any b (p + 1) n ys _ hr1 (by omega) (by omega) (by omega)).mono ?_
      rintro e w2 ⟨y, hy, rfl, hr2, hg2⟩
      have O2 := O1.kept hg2 hnb
      have g2 := hg1.trans hg2
      obtain ⟨c0, -, -, -⟩ := O2.cells y hy
      have hs := (HF.out y hy).1
      have i0 : (0 : Int) ≤ (y : Int) := by omega
      have i1 : (y : Int) < (n : Int) := by omega
      clear hr1 O1 O2 hg1 hg2
      go_wp2
      go_ret
      exact ⟨_, p + 1 + 1, rfl, hs, by omega, hr2, g2⟩
    · obtain rfl : k = 0 := by omega
      go_wp2_with fail
      refine (of_any b (p + 1) w1.heap.size 5 1 ys _ (hr1.alloc _) (TxtAt.arr w1 _ _ 5 1 (by
        intro i hi
        match i, hi with
        | 0, _ => exact ⟨_, rfl, by decide⟩
        | 1, _ => exact ⟨_, rfl, by decide⟩
        | 2, _ => exact ⟨_, rfl, by decide⟩
        | 3, _ => exact ⟨_, rfl, by decide⟩
        | 4, _ => exact ⟨_, rfl, by decide⟩)) hr1.1 (by omega) (by omega) (by omega)).mono ?_
      rintro e w3 ⟨z, q3, rfl, hz, hq3, hr3, hg3⟩
      have g3 := (hg1.trans (World.grownBy_alloc w1 (.cells #[.string ⟨#[97]⟩, .string ⟨#[98]⟩, .string ⟨#[122]⟩, .string ⟨#[]⟩, .string ⟨#[65]⟩] 9) (some b))).trans hg3
      go_wp2
      go_ret
      exact ⟨z, q3, rfl, by omega, by omega, hr3, g3⟩
def CelName (w : World) (e : Ending) (w' : World) : Prop := ∃ (v : Value) (n : Nat) (f : Nat → Usr) (z : ByteArray), e = .returned (.tuple #[v, .string z]) ∧ TF w' w.heap.size v n f ∧ n ≤ 8 ∧ (∀ i, i < n → DrT (f i)) ∧ z.size ≤ 1000 ∧ Below w.heap.size w w'
theorem drawRelease_any (a : Option Addr) (len cap : Nat) (zs : List Int) (w : World) (h : IsBytes w a len cap zs) :
    Calls Try.prog 19 #[.slice a len cap] w (CelName w) := by
  go_enter Try.func19, Try.ntmps19
  go_wp2_with fail
  refine (open_any a len cap zs _ h).mono ?_
  rintro e w1 ⟨b, ys, rfl, hr, hb, hlb⟩
  go_wp2_with fail
  refine (l8Open_any b 0 ys _ hr (by omega)).mono ?_
  rintro e w2 ⟨v, n, f, q, rfl, O2, hn, hf, hq, hr2, hg2⟩
  have b2 := below_grown hb (Nat.le_refl _) hg2 hlb
  have hb1 := hr.1
  have hnb := own_neT O2 hb1
  have HF := Lib.hid hf
  have hsz := hb.size
  clear hr hf hg2
  go_wp2_with fail
  refine (l8Which_any b q ys v n w1.heap.size f _ hr2 (by omega) O2 hn HF.out hb1).mono ?_
  rintro e w3 ⟨z, q3, rfl, hz, hq3, hr3, h3⟩
  have O3 := (O2.kept h3 hnb).mono hsz
  have b3 := b2.grown h3 b2.size (fun k e => by cases e; omega)
  clear hr2 O2 b2 h3 hb
  go_wp2
  go_ret2
  exact ⟨_, n, f, z, rfl, O3, hn, HF.out, hz, b3⟩
end Go.Proofs.Ytjnipbopimpggab
