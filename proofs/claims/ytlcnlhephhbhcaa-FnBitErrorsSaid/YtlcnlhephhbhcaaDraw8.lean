/- Contracts of the draws of sequences: one of some texts, digits, a sequence, one that is sometimes none, a shift, two sequences. -/
import Derived.Test.YtlcnlhephhbhcaaDraw7
namespace Go.Proofs.Ytlcnlhephhbhcaa
open Go.RowKit
set_option linter.unusedVariables false
/-- A row of texts, none longer than M. -/
def TxtAt (w : World) (L n M : Nat) : Prop := L < w.heap.size ∧ ∀ i, i < n → ∃ z : ByteArray, w.cell? ⟨L, i, none⟩ = some (.string z) ∧ z.size ≤ M
set_option maxRecDepth 100000 in
theorem of_any (b p L n M : Nat) (zs : List Int) (w : World) (hr : RdAt w b p zs) (hx : TxtAt w L n M) (hLb : b < L) (hp : p ≤ 1000000) (h1 : 1 ≤ n) (h2 : n ≤ 1000) :
    Calls Try.prog 121 #[.pointer (some ⟨b, 0, none⟩), .slice (some ⟨L, 0, none⟩) n n] w (StrPost0 M b p zs w) := by
  go_enter Try.func121, Try.ntmps121
  go_wp2_with fail
  refine (pick_any b p n zs _ hr hp h1 (by omega)).mono ?_
  rintro e w1 ⟨k, hk, rfl, hr1, hg⟩
  obtain ⟨z, hz, hzM⟩ := hx.2 k hk
  have hc : w1.cell? ⟨L, k, none⟩ = some (.string z) := hg.cell hz (by simp; omega)
  clear hx hz
  go_wp2
  go_ret
  exact ⟨z, p + 1, rfl, hzM, by omega, hr1, hg⟩
set_option maxRecDepth 100000 in
theorem l9Dec_digit (n : Nat) (w : World) (hn : n ≤ 9) : Calls Try.prog 110 #[.int .i64 n] w fun e w' => (∃ z : ByteArray, e = .returned (.string z) ∧ z.size = 1) ∧ Below w.heap.size w w' := by
  obtain ⟨V, hV⟩ : ∃ V, 48 + n = V := ⟨_, rfl⟩
  have v1 : (48 : Int) + (n : Int) = (V : Int) := by omega
  have v2 : IntKind.u8.wrap (V : Int) = (V : Int) := IntWalk.u8_in _ (by omega)
  have hB : Bytes (w.alloc (.cells #[.int .u8 (V : Nat)] 5)) w.heap.size 5 1 (fun _ => V) := World.rowIs_alloc w #[.int .u8 (V : Nat)] 5 _ (fun i hi => by
    obtain rfl : i = 0 := by simp at hi; omega
    rfl)
  have hst := fun cap => hB.str (P := Try.prog) 46 5 9 (by kernel_rfl) (by kernel_rfl) (by kernel_rfl) 0 1 cap (by omega)
  obtain ⟨y, hy⟩ : ∃ y, strF 1 (fun _ => V) = y := ⟨_, rfl⟩
  have hys : y.size = 1 := by rw [← hy]; exact strF_size _ _
  rw [hy] at hst
  have HY := Lib.hid hys
  have hy2 : y.size + ByteArray.size ⟨#[]⟩ ≤ 9223372036854775807 := by rw [hys]; decide
  clear hy hB hys hV
  go_enter Try.func110, Try.ntmps110
  go_wp2
  go_loop [0, 3] (fun i s => i = .int .i64 n ∧ s = .string ⟨#[]⟩) (fun i _ => (intOf i).toNat)
  case atStart => exact ⟨rfl, rfl⟩
  case round =>
    obtain ⟨rfl, rfl⟩ := hrel
    go_wp2
    go_ret
    exact ⟨⟨_, rfl, by rw [ByteArray.size_append, HY.out]; rfl⟩, (Below.refl _ _).alloc (Nat.le_refl _) _⟩
/-- What drawing a sequence leaves. -/
def SeqPost (b p : Nat) (zs : List Int) (w : World) (e : Ending) (w' : World) : Prop :=
  ∃ (z : ByteArray) (q : Nat), e = .returned (.string z) ∧ 1 ≤ z.size ∧ z.size ≤ 40 ∧ q ≤ p + 200 ∧ RdAt w' b q zs ∧ w.grownBy w' (some b)
theorem drewRow (V : World) (row : Option Nat) : V.grownBy V.drew row := ⟨rfl, rfl, rfl, Nat.le_refl _, fun _ _ _ => rfl⟩
theorem pick_40 (b p : Nat) (zs : List Int) (w : World) (h : RdAt w b p zs) (hp : p ≤ 1000000) :
    Calls Try.prog 99 #[.pointer (some ⟨b, 0, none⟩), .int .i64 40] w (PickPost 40 b p zs w) := pick_any b p 40 zs w h hp (by omega) (by omega)
theorem run_one (s t x k : Nat) (w : World) (h : RegN s t x) (hk : k ≤ 100) :
    Calls Try.prog 136 #[.agg #[.int .i64 s, .int .i64 t, .int .i64 x], .int .i64 (IntKind.i64.wrap (1 + (k : Int)))] w fun e w' => e = .returned (.string (runS s t x (1 + k))) ∧ Below w.heap.size w w' := by
  have := l1Run_any s t x (1 + k) w h (by omega)
  rw [show ((1 + k : Nat) : Int) = 1 + (k : Int) by omega] at this
  rw [show IntKind.i64.wrap (1 + (k : Int)) = 1 + (k : Int) from IntWalk.i64_in _ (by omega)]
  exact this
theorem pick_few (b p n : Nat) (zs : List Int) (w : World) (h : RdAt w b p zs) (hp : p ≤ 1000000) (h1 : 1 ≤ n) (h2 : n ≤ 1000) :
    Calls Try.prog 99 #[.pointer (some ⟨b, 0, none⟩), .int .i64 n] w (PickPost n b p zs w) := pick_any b p n zs w h hp h1 (by omega)
theorem run_tw (s t : Nat) (w : World) (h : RegN s t 1) :
    Calls Try.prog 136 #[.agg #[.int .i64 s, .int .i64 t, .int .i64 1], .int .i64 (IntKind.i64.wrap (((tw s : Nat) : Int) - 1))] w fun e w' => e = .returned (.string (runS s t 1 (tw s - 1))) ∧ Below w.heap.size w w' := by
  have hp := tw_pos s
  have ht := tw_le s h.hi
  have := l1Run_any s t 1 (tw s - 1) w h (by omega)
  rw [show ((tw s - 1 : Nat) : Int) = ((tw s : Nat) : Int) - 1 by omega] at this
  rw [show IntKind.i64.wrap (((tw s : Nat) : Int) - 1) = ((tw s : Nat) : Int) - 1 from IntWalk.i64_in _ (by omega)]
  exact this
set_option maxHeartbeats 6400000 in
set_option maxRecDepth 100000 in
theorem l2Some_any (b p : Nat) (zs : List Int) (w : World) (hr : RdAt w b p zs) (hp : p ≤ 800000) :
    Calls Try.prog 125 #[.pointer (some ⟨b, 0, none⟩)] w (SeqPost b p zs w) := by
  have hbl := hr.1
  go_enter Try.func125, Try.ntmps125
  go_wp2_with fail
  refine (pick_any b p 4 zs _ hr (by omega) (by omega) (by omega)).mono ?_
  rintro e w1 ⟨k, hk, rfl, hr1, hg1⟩
  clear hr
  by_cases k0 : k = 0
  · subst k0
    clear hk
    go_wp2_with fail
    refine (l1Some_any b (p + 1) zs _ hr1 (by omega)).mono ?_
    rintro e w2 ⟨s, t, x, q, rfl, hR, hq, hr2, hg2⟩
    have hg2' := hg1.trans hg2
    clear hr1 hg1 hg2
    go_wp2_with fail
    obtain ⟨V, hrV, hgV, hAV, hVs, hbV, hV⟩ : ∃ V, RdAt V b q zs ∧ w.grownBy V (some b) ∧ RegAt V w2.heap.size s t x ∧ w.heap.size ≤ w2.heap.size ∧ b < w2.heap.size ∧ w2.alloc (.cells #[.int .i64 s, .int .i64 t, .int .i64 x] 126) = V :=
      ⟨_, hr2.alloc _, hg2'.trans (World.grownBy_alloc w2 _ (some b)), RegAt.new w2 _ s t x, hg2'.size, hr2.1, rfl⟩
    rw [hV]
    clear hV hr2 hg2'
    obtain ⟨c0, c1, c2, cl⟩ := id hAV
    go_region_with ((first
      | (go_at_call 99; ((with_reducible refine (pick_40 b q zs _ (hrV.below (Below.refl _ _).drew) (by omega)).mono ?_); rintro e w5 ⟨k1, hk1, rfl, hr5, hg5⟩; obtain ⟨m0, m1, m2, ml⟩ := (hAV.kept (drewRow V none) (by simp)).kept hg5 (by simp; omega)))
      | (go_at_call 136; ((with_reducible refine (run_one s t x k1 _ hR (by omega)).mono ?_); rintro e w6 ⟨rfl, hb6⟩))))
    all_goals
      have hz := runS_size s t x (1 + k1)
      have hrf : RdAt w6 b (q + 1) zs := hr5.below hb6
      have hgf : w.grownBy w6 (some b) := (hgV.trans ((drewRow V (some b)).trans hg5)).trans (grow hb6 (some b))
      obtain ⟨Z, hZ⟩ : ∃ Z, runS s t x (1 + k1) = Z := ⟨_, rfl⟩
      rw [hZ] at hz ⊢
      have HZ := Lib.hid hz
      clear hAV c0 c1 c2 cl m0 m1 m2 ml hr5 hg5 hb6 hgV hrV hZ hz
      go_wp2
      go_ret
      exact ⟨Z, q + 1, rfl, by rw [HZ.out]; omega, by rw [HZ.out]; omega, by omega, hrf, hgf⟩
  by_cases k1 : k = 1
  · subst k1
    clear hk k0
    go_wp2_with fail
    refine (num_any b (p + 1) zs _ w1.heap.size 4 [3, 4, 5, 2] (hr1.alloc _) (IntsAt.new w1 _ [3, 4, 5, 2]) rfl hr1.1 (by omega) (by omega) (by omega)).mono ?_
    rintro e w2 ⟨v, hv, rfl, hr2, hg2⟩
    obtain ⟨s, rfl, hs2, hs5⟩ : ∃ s : Nat, v = s ∧ 2 ≤ s ∧ s ≤ 5 := by
      simp only [List.mem_cons, List.not_mem_nil, or_false] at hv
      exact ⟨v.toNat, by omega, by omega, by omega⟩
    have hg2' := hg1.trans ((World.grownBy_alloc w1 _ (some b)).trans hg2)
    clear hv hr1 hg1 hg2
    go_wp2_with fail
    refine (mTaps_any s _ hs2 hs5).mono ?_
    rintro e w3 ⟨vv, n, f, rfl, O3, hn1, hn2, hf, hb3⟩
    have hr3 := hr2.below hb3
    have hg3 := hg2'.trans (grow hb3 (some b))
    have HF := Lib.hid hf
    have hbw : b < w2.heap.size := hr2.1
    obtain ⟨a, cap, rfl, ha⟩ := O3.form
    obtain ⟨g, rfl, hgB, hgl, hgc⟩ := ha (by omega)
    have HG := Lib.hid hgc
    have htw := tw_le s (by omega)
    have htw2 := tw_pos s
    clear hr2 hg2' hb3 hf O3 ha hgc
    go_wp2_with fail
    go_region_with ((first
      | (go_at_call 99; ((with_reducible refine (pick_few b (p + 1 + 1) n zs _ (hr3.below (Below.refl _ _).drew) (by omega) hn1 (by omega)).mono ?_); rintro e w5 ⟨k2, hk2, rfl, hr5, hg5⟩; obtain ⟨tt, htt, hRt⟩ := HF.out k2 hk2; have hcc : w5.cell? ⟨g, k2, none⟩ = some (.int .i64 (tt : Nat)) := (by rw [← htt]; exact hg5.cell ((HG.out k2 hk2).1) (by simp; omega))))
      | (go_at_call 132; ((with_reducible refine (l1Two_any s _ (by omega)).mono ?_); rintro e w' ⟨rfl, rfl⟩))
      | (go_at_call 136; ((with_reducible refine (run_tw s tt _ hRt).mono ?_); rintro e w6 ⟨rfl, hb6⟩))))
    all_goals
      have hz := runS_size s tt 1 (tw s - 1)
      have hrf : RdAt w6 b (p + 1 + 1 + 1) zs := hr5.below hb6
      have hgf : w.grownBy w6 (some b) := (hg3.trans ((drewRow w3 (some b)).trans hg5)).trans (grow hb6 (some b))
      have h4 := tw_four s hs2
      have h32 : tw s ≤ 32 := by
        have : s = 2 ∨ s = 3 ∨ s = 4 ∨ s = 5 := by omega
        rcases this with rfl | rfl | rfl | rfl <;> decide
      obtain ⟨Z, hZ⟩ : ∃ Z, runS s tt 1 (tw s - 1) = Z := ⟨_, rfl⟩
      rw [hZ] at hz ⊢
      have HZ := Lib.hid hz
      clear hr5 hg5 hb6 hg3 hr3 hcc htt hZ hz
      go_wp2
      go_ret
      exact ⟨Z, p + 1 + 1 + 1, rfl, by rw [HZ.out]; omega, by rw [HZ.out]; omega, by omega, hrf, hgf⟩
  by_cases k2 : k = 2
  · subst k2
    clear hk k0 k1
    go_wp2_with fail
    refine (l1String_any b (p + 1) 5 zs _ hr1 (by omega) (by omega)).mono ?_
    rintro e w2 ⟨z, q, rfl, hz, hq, hr2, hg2⟩
    have hg2' := hg1.trans hg2
    have hzs : z.size + ByteArray.size ⟨#[49]⟩ ≤ 9223372036854775807 := by show z.size + 1 ≤ _; omega
    have hzz : (z ++ ⟨#[49]⟩).size = z.size + 1 := by rw [ByteArray.size_append]; rfl
    have HS := Lib.hid (show z.size + 1 ≤ 6 by omega)
    clear hr1 hg1 hg2
    go_wp2_with fail
    obtain ⟨Y, hY⟩ : ∃ Y, z ++ ⟨#[49]⟩ = Y := ⟨_, rfl⟩
    rw [hY] at hzz ⊢
    have HY := Lib.hid hzz
    clear hY hzz hzs
    refine (pick_any b q 4 zs _ hr2 (by omega) (by omega) (by omega)).mono ?_
    rintro e w3 ⟨k3, hk3, rfl, hr3, hg3⟩
    have hg3' := hg2'.trans hg3
    have hm : Y.size * (1 + k3) ≤ 6 * 4 := Nat.mul_le_mul (by rw [HY.out]; exact HS.out) (by omega)
    have hm2 : 1 ≤ Y.size * (1 + k3) := Nat.mul_pos (by rw [HY.out]; omega) (by omega)
    have hM := fun w => l9Many_any Y (1 + k3) w (by omega) (by omega)
    rw [show ((1 + k3 : Nat) : Int) = 1 + (k3 : Int) by omega] at hM
    have hsz := many_size Y (1 + k3)
    obtain ⟨Z, hZ⟩ : ∃ Z, many Y (1 + k3) = Z := ⟨_, rfl⟩
    rw [hZ] at hM hsz
    have HM := Lib.hid hM
    have HZ := Lib.hid (show 1 ≤ Z.size ∧ Z.size ≤ 40 by omega)
    clear hr2 hg2' hg3 hm hm2 hM hsz hZ
    go_wp2_with fail
    refine (HM.out _).mono ?_
    rintro e w' ⟨rfl, rfl⟩
    go_wp2
    go_ret
    exact ⟨Z, q + 1, rfl, HZ.out.1, HZ.out.2, by omega, hr3, hg3'⟩
  · have e0 : ((k : Int) == 0) = false := by simp; omega
    have e1 : ((k : Int) == 1) = false := by simp; omega
    have e2 : ((k : Int) == 2) = false := by simp; omega
    go_wp2_with fail
    clear e0 e1 e2
    refine (l1String_any b (p + 1) 24 zs _ hr1 (by omega) (by omega)).mono ?_
    rintro e w2 ⟨z, q, rfl, hz, hq, hr2, hg2⟩
    have hg2' := hg1.trans hg2
    have hzs : z.size + ByteArray.size ⟨#[48]⟩ ≤ 9223372036854775807 := by show z.size + 1 ≤ _; omega
    have HZ : Hid ((z ++ ⟨#[48]⟩).size = z.size + 1) := Lib.hid (by rw [ByteArray.size_append]; rfl)
    clear hr1 hg1 hg2
    go_wp2
    go_ret
    exact ⟨_, q, rfl, by rw [HZ.out]; omega, by rw [HZ.out]; omega, by omega, hr2, hg2'⟩
end Go.Proofs.Ytlcnlhephhbhcaa
