/- Contracts of the draws of pilots. -/
import Derived.Test.YtmeooebklohdfaaBadBig
import Derived.Test.YtmeooebklohdfaaDrawBits
import Derived.Test.YtmeooebklohdfaaGoldS
import Derived.Test.YtmeooebklohdfaaPilK
namespace Go.Proofs.Ytmeooebklohdfaa
open Go.RowKit
set_option linter.unusedVariables false
set_option maxRecDepth 100000
/-- A box with a pilot that nobody froze. -/
def PilW (w : World) (b : Nat) (c : ByteArray) (g : Int) : Prop := PilAt w b c g ∧ ∀ o, w.frozen? ⟨b, o, none⟩ = false
theorem pil_frozen_new (w : World) (c : Array Value) (t : TypeId) (o : Nat) : (w.alloc (.cells c t)).frozen? ⟨w.heap.size, o, none⟩ = false :=
  frozen_of_row _ _ _ c t (by show (w.heap.push _)[w.heap.size]? = _; simp)
theorem PilW.new (w : World) (t : TypeId) (c : ByteArray) (g : Int) : PilW (w.alloc (.cells #[.string c, .int .i64 g] t)) w.heap.size c g := ⟨PilAt.new w t c g, fun o => pil_frozen_new w _ t o⟩
theorem PilW.kept {w w' : World} {b : Nat} {row : Option Nat} {c : ByteArray} {g : Int} (h : PilW w b c g) (hg : w.grownBy w' row) (hne : some b ≠ row) : PilW w' b c g :=
  ⟨h.1.kept hg hne, fun o => frozen_kept' (h.2 o) h.1.2.2 hg hne⟩
/-- What a drawn pilot looks like. -/
def DrP (c : ByteArray) (g : Int) : Prop := seqB c = true ∧ c.size ≤ 15 ∧ 1 ≤ g ∧ g ≤ 6
theorem DrP.ok {c : ByteArray} {g : Int} (h : DrP c g) : pilB c g = true := (pilB_iff c g).2 ⟨h.1, h.2.2.1, by have := h.2.2.2; omega⟩
theorem pgrown2 {w : World} {g : Nat} (p0 p1 : Nat) (y0 y1 : Value) : w.grownBy ((w.setCell ⟨g, p0, none⟩ y0).setCell ⟨g, p1, none⟩ y1) (some g) := by
  have one : ∀ (w : World) (p : Nat) (y : Value), w.grownBy (w.setCell ⟨g, p, none⟩ y) (some g) := fun w p y => ⟨rfl, rfl, rfl, by simp, fun k hk hne => Below.heap_setCell _ _ _ _ (fun e => hne (by rw [e]))⟩
  exact (one _ _ _).trans (one _ _ _)
theorem okB_01 {D : ByteArray} (h : okB D D.size = true) : okB (D ++ ⟨#[48, 49]⟩) (D ++ ⟨#[48, 49]⟩ : ByteArray).size = true := okB_of_zb _ fun i hi => by
  rw [ByteArray.size_append] at hi
  have h2 : ByteArray.size ⟨#[48, 49]⟩ = 2 := rfl
  rcases Nat.lt_or_ge i D.size with h1 | h1
  · rw [zb_append_left _ _ _ h1]; exact okB_zb D h i h1
  · rw [zb_append_right _ _ _ h1 hi]
    have : i - D.size = 0 ∨ i - D.size = 1 := by omega
    rcases this with e | e <;> rw [e]
    · exact .inl rfl
    · exact .inr rfl
theorem RdAt.setNewP {w : World} {b p : Nat} {zs : List Int} {a : Addr} (h : RdAt w b p zs) (hb : b < a.block) (v : Value) : RdAt (w.setCell a v) b p zs :=
  h.kept (row := some a.block) ⟨rfl, rfl, rfl, by simp, fun k _ hne => Below.heap_setCell _ _ _ _ (fun e => hne (by rw [e]))⟩ (fun k e => by cases e; exact hb)
theorem grown_setNewP {w w1 : World} {b : Nat} {a : Addr} (h : w.grownBy w1 (some b)) (ha : w.heap.size ≤ a.block) (v : Value) : w.grownBy (w1.setCell a v) (some b) :=
  h.andThen (row' := some a.block) ⟨rfl, rfl, rfl, by simp, fun k _ hne => Below.heap_setCell _ _ _ _ (fun e => hne (by rw [e]))⟩ (fun j e => by cases e; exact .inl ha)
def PilPost (b p : Nat) (zs : List Int) (w : World) (e : Ending) (w' : World) : Prop :=
  ∃ (c : ByteArray) (g : Int) (q : Nat), e = .returned (.agg #[.string c, .int .i64 g]) ∧ DrP c g ∧ q ≤ p + 110 ∧ RdAt w' b q zs ∧ w.grownBy w' (some b)
set_option maxHeartbeats 3200000 in
theorem l5Pilot_any (b p : Nat) (zs : List Int) (w : World) (hr : RdAt w b p zs) (hp : p ≤ 800000) :
    Calls Try.prog 59 #[.pointer (some ⟨b, 0, none⟩)] w (PilPost b p zs w) := by
  have hbl := hr.1
  have P0 := PilW.new w 24 ⟨#[]⟩ 0
  have r0 := hr.alloc (.cells #[.string ⟨#[]⟩, .int .i64 0] 24)
  have g0 := World.grownBy_alloc w (.cells #[.string ⟨#[]⟩, .int .i64 0] 24) (some b)
  obtain ⟨W, hW⟩ : ∃ W, w.alloc (.cells #[.string ⟨#[]⟩, .int .i64 0] 24) = W := ⟨_, rfl⟩
  have hWs : W.heap.size = w.heap.size + 1 := by rw [← hW]; simp
  rw [hW] at P0 r0 g0
  go_enter Try.func59, Try.ntmps59
  go_wp2_with fail
  have hx := IntsAt.new W 3 [3, 3, 2, 4]
  rw [hWs] at hx
  clear hr hW
  refine (num_any b p zs _ (w.heap.size + 1) 4 [3, 3, 2, 4] (r0.alloc _) hx rfl (by omega) (by omega) (by omega) (by omega)).mono ?_
  rintro e w1 ⟨v, hv, rfl, r1, h1⟩
  obtain ⟨s, rfl, hs2, hs4⟩ : ∃ s : Nat, v = s ∧ 2 ≤ s ∧ s ≤ 4 := by
    simp only [List.mem_cons, List.not_mem_nil, or_false] at hv
    exact ⟨v.toNat, by omega, by omega, by omega⟩
  have h1' := (World.grownBy_alloc W _ (some b)).trans h1
  have g1 := g0.trans h1'
  have P1 := P0.kept h1' (by simp; omega)
  clear hv r0 g0 P0 h1 h1' hWs hx
  go_wp2_with fail
  refine (mTaps_any s _ hs2 (by omega)).mono ?_
  rintro e w2 ⟨vv, n, f, rfl, O2, hn1, hn2, hf, hb2⟩
  have r2 := r1.below hb2
  have h2 := grow hb2 (some b)
  have g2 := g1.trans h2
  have P2 := P1.kept h2 (by simp; omega)
  have HF := Lib.hid hf
  have hbw : b < w1.heap.size := r1.1
  obtain ⟨a, cap, rfl, ha⟩ := O2.form
  obtain ⟨gg, rfl, hgB, hgl, hgc⟩ := ha (by omega)
  have HG := Lib.hid hgc
  clear r1 g1 P1 hb2 h2 hf O2 ha hgc
  go_wp2_with fail
  refine (pick_any b (p + 1) n zs _ r2 (by omega) hn1 (by omega)).mono ?_
  rintro e w3 ⟨k3, hk3, rfl, r3, h3⟩
  have g3 := g2.trans h3
  have P3 := P2.kept h3 (by simp; omega)
  obtain ⟨t, htt, hRt⟩ := HF.out k3 hk3
  have hcc : w3.cell? ⟨gg, k3, none⟩ = some (.int .i64 (t : Nat)) := by rw [← htt]; exact h3.cell ((HG.out k3 hk3).1) (by simp; omega)
  have i0 : (0 : Int) ≤ (k3 : Int) := by omega
  have i1 : (k3 : Int) < (n : Int) := by omega
  have hvt : tapsB s t = true := (tapsB_iff _ _).2 ⟨by omega, by have := hRt.hi; omega, by have := hRt.tap; omega, by rw [Int.toNat_natCast]; have := hRt.tapLt; omega⟩
  have hS : Hid (seqB (perS s t) = true ∧ (perS s t).size ≤ 15) := Lib.hid ⟨perS_seq hvt, by
    unfold perS
    rw [runS_size, Int.toNat_natCast]
    have : s = 2 ∨ s = 3 ∨ s = 4 := by omega
    rcases this with rfl | rfl | rfl <;> decide⟩
  have hL := fun w => l3Sequence_any (s : Int) (t : Int) w hvt
  obtain ⟨C, hC⟩ : ∃ C, perS (s : Int) (t : Int) = C := ⟨_, rfl⟩
  rw [hC] at hS hL
  have HL := Lib.hid hL
  clear hL hC hvt r2 g2 P2 h3 HF HG htt hRt
  go_wp2_with fail
  refine (HL.out _).mono ?_
  rintro e w4 ⟨rfl, hb4⟩
  have r4 := r3.below hb4
  have h4 := grow hb4 (some b)
  have g4 := g3.trans h4
  have P4 := P3.kept h4 (by simp; omega)
  clear r3 g3 P3 hb4 h4 hcc
  go_wp2_with fail
  refine (num_any b (p + 1 + 1) zs _ w4.heap.size 5 [2, 4, 1, 3, 6] (r4.alloc _) (IntsAt.new w4 _ [2, 4, 1, 3, 6]) rfl r4.1 (by omega) (by omega) (by omega)).mono ?_
  rintro e w5 ⟨y, hy, rfl, r5, h5⟩
  have hy2 : 1 ≤ y ∧ y ≤ 6 := by
    simp only [List.mem_cons, List.not_mem_nil, or_false] at hy
    omega
  have h5' := (World.grownBy_alloc w4 _ (some b)).trans h5
  have g5 := g4.trans h5'
  have P5 := P4.kept h5' (by simp; omega)
  clear hy r4 g4 P4 h5 h5' HL
  go_wp2_with fail
  have Q5 := PilW.new w5 24 C y
  have r5' := r5.alloc (.cells #[.string C, .int .i64 y] 24)
  have ga := World.grownBy_alloc w5 (.cells #[.string C, .int .i64 y] 24) (some b)
  have g5' := g5.trans ga
  have P5' := P5.kept ga (by simp; omega)
  have hz5 : w.heap.size < w5.heap.size := P5.1.2.2
  have hb5 : b < w5.heap.size := r5.1
  refine (pick_any b (p + 1 + 1 + 1) 4 zs _ r5' (by omega) (by omega) (by omega)).mono ?_
  rintro e w6 ⟨k6, hk6, rfl, r6, h6⟩
  have g6 := g5'.trans h6
  have P6 := P5'.kept h6 (by simp; omega)
  have Q6 := Q5.kept h6 (by simp; omega)
  clear r5 g5 P5 Q5 r5' ga g5' P5' h6
  by_cases k0 : k6 = 0
  · subst k0
    clear hk6
    go_wp2_with fail
    refine (l1String_bits b (p + 1 + 1 + 1 + 1) 12 zs _ r6 (by omega) (by omega)).mono ?_
    rintro e w7 ⟨D, q, rfl, hD, hD12, hq, r7, h7⟩
    have g7 := g6.trans h7
    obtain ⟨⟨d0, d1, dl⟩, df⟩ := P6.kept h7 (by simp; omega)
    obtain ⟨⟨c0, c1, cl⟩, cf⟩ := Q6.kept h7 (by simp; omega)
    have f0 := cf 0
    have e0 := df 0
    have e1 := df 1
    have hDs : D.size + ByteArray.size ⟨#[48, 49]⟩ ≤ 9223372036854775807 := by show D.size + 2 ≤ _; omega
    have HD : Hid (DrP (D ++ ⟨#[48, 49]⟩) y) := Lib.hid ⟨(seqB_iff _).2 ⟨okB_01 hD, by rw [ByteArray.size_append]; show 1 ≤ D.size + 2; omega, by rw [ByteArray.size_append]; show D.size + 2 ≤ 255; omega⟩, by rw [ByteArray.size_append]; show D.size + 2 ≤ 15; omega, hy2.1, hy2.2⟩
    clear r6 g6 P6 Q6 h7 cf df hS hD
    go_wp2
    refine bodyPost_ret (v := .agg #[.string (D ++ ⟨#[48, 49]⟩), .int .i64 y]) (by simp [results, Try.results59, go_sem, d0, d1]) rfl ?_
    exact ⟨_, y, q, rfl, HD.out, by omega, by repeat (first | exact r7 | (refine RdAt.setNewP ?_ ?_ _; rotate_left; · first | (simp; done) | (simp; omega))), by repeat (first | exact g7 | (refine grown_setNewP ?_ ?_ _; rotate_left; · first | (simp; done) | (simp; omega)))⟩
  · have h0 : ((k6 : Int) == 0) = false := by simp; omega
    obtain ⟨⟨d0, d1, dl⟩, df⟩ := P6
    obtain ⟨⟨c0, c1, cl⟩, cf⟩ := Q6
    have e0 := df 0
    have e1 := df 1
    have HD : Hid (DrP C y) := Lib.hid ⟨hS.out.1, hS.out.2, hy2.1, hy2.2⟩
    clear cf df hS
    go_wp2
    refine bodyPost_ret (v := .agg #[.string C, .int .i64 y]) (by simp [results, Try.results59, go_sem, d0, d1]) rfl ?_
    exact ⟨_, y, p + 1 + 1 + 1 + 1, rfl, HD.out, by omega, by repeat (first | exact r6 | (refine RdAt.setNewP ?_ ?_ _; rotate_left; · first | (simp; done) | (simp; omega))), by repeat (first | exact g6 | (refine grown_setNewP ?_ ?_ _; rotate_left; · first | (simp; done) | (simp; omega)))⟩
set_option maxHeartbeats 3200000 in
theorem l5Bad_any (b p : Nat) (zs : List Int) (c : ByteArray) (g : Int) (w : World) (hr : RdAt w b p zs) (hp : p ≤ 700000) (hc : c.size ≤ 300) (hg : FitsI g) :
    Calls Try.prog 63 #[.pointer (some ⟨b, 0, none⟩), .agg #[.string c, .int .i64 g]] w (fun e w' => ∃ (c : ByteArray) (g : Int) (q : Nat), e = .returned (.agg #[.string c, .int .i64 g]) ∧ c.size ≤ 1000 ∧ FitsI g ∧ q ≤ p + 310 ∧ RdAt w' b q zs ∧ w.grownBy w' (some b)) := by
  have hbl := hr.1
  obtain ⟨W1, hW1⟩ : ∃ W, w.alloc (.cells #[.string c, .int .i64 g] 24) = W := ⟨_, rfl⟩
  have Q0 := PilW.new w 24 c g
  have r0 := hr.alloc (.cells #[.string c, .int .i64 g] 24)
  have g0 := World.grownBy_alloc w (.cells #[.string c, .int .i64 g] 24) (some b)
  have z0 : (w.alloc (.cells #[.string c, .int .i64 g] 24)).heap.size = w.heap.size + 1 := by simp
  rw [hW1] at Q0 r0 g0 z0
  have P0 := PilW.new W1 24 ⟨#[]⟩ 0
  have r1 := r0.alloc (.cells #[.string ⟨#[]⟩, .int .i64 0] 24)
  have ga := World.grownBy_alloc W1 (.cells #[.string ⟨#[]⟩, .int .i64 0] 24) (some b)
  have Q1 := Q0.kept ga (by simp; omega)
  have g1 := g0.trans ga
  rw [z0] at P0
  clear hr Q0 r0 g0 ga
  go_enter Try.func63, Try.ntmps63
  go_wp2_with fail
  refine (pick_any b p 40 zs _ r1 (by omega) (by omega) (by omega)).mono ?_
  rintro e w2 ⟨k, hk, rfl, r2, h2⟩
  have g2 := g1.trans h2
  have P2 := P0.kept h2 (by simp; omega)
  have Q2 := Q1.kept h2 (by simp; omega)
  clear r1 g1 P0 Q1 h2 hW1 z0
  by_cases k0 : k = 0
  · subst k0
    clear hk
    go_wp2_with fail
    refine (num_any b (p + 1) zs _ w2.heap.size 4 [0, 9, 8, -1] (r2.alloc _) (IntsAt.new w2 _ [0, 9, 8, -1]) rfl r2.1 (by omega) (by omega) (by omega)).mono ?_
    rintro e w3 ⟨v, hv, rfl, r3, h3⟩
    have hF : FitsI v := by
      simp only [List.mem_cons, List.not_mem_nil, or_false] at hv
      unfold FitsI; omega
    have h3' := (World.grownBy_alloc w2 _ (some b)).trans h3
    have g3 := g2.trans h3'
    obtain ⟨⟨d0, d1, dl⟩, df⟩ := P2.kept h3' (by simp; omega)
    obtain ⟨⟨c0, c1, cl⟩, cf⟩ := Q2.kept h3' (by simp; omega)
    have f1 := cf 1
    have e0 := df 0
    have e1 := df 1
    clear hv r2 g2 P2 Q2 h3 h3' cf df
    go_wp2
    refine bodyPost_ret (v := .agg #[.string c, .int .i64 v]) (by simp [results, Try.results63, go_sem, d0, d1]) rfl ?_
    exact ⟨c, v, p + 1 + 1, rfl, by omega, hF, by omega, by repeat (first | exact r3 | (refine RdAt.setNewP ?_ ?_ _; rotate_left; · first | (simp; done) | (simp; omega))), by repeat (first | exact g3 | (refine grown_setNewP ?_ ?_ _; rotate_left; · first | (simp; done) | (simp; omega)))⟩
  by_cases k1 : k = 1
  · subst k1
    clear hk k0
    obtain ⟨⟨c0, c1, cl⟩, cf⟩ := id Q2
    have hcs : c.size + ByteArray.size ⟨#[50]⟩ ≤ 9223372036854775807 := by show c.size + 1 ≤ _; omega
    have hcz : (c ++ ⟨#[50]⟩ : ByteArray).size ≤ 900 := by rw [ByteArray.size_append]; show c.size + 1 ≤ 900; omega
    clear cf
    go_wp2_with fail
    refine (l2Bad_big b (p + 1) zs _ _ r2 (by omega) hcz).mono ?_
    rintro e w3 ⟨Z, q, rfl, hZ, hq, r3, h3⟩
    have g3 := g2.trans h3
    clear c0 c1 cl
    obtain ⟨⟨d0, d1, dl⟩, df⟩ := P2.kept h3 (by simp; omega)
    obtain ⟨⟨c0, c1, cl⟩, cf⟩ := Q2.kept h3 (by simp; omega)
    have f0 := cf 0
    have e0 := df 0
    have e1 := df 1
    clear r2 g2 P2 Q2 h3 cf df
    go_wp2
    refine bodyPost_ret (v := .agg #[.string Z, .int .i64 g]) (by simp [results, Try.results63, go_sem, d0, d1]) rfl ?_
    exact ⟨Z, g, q, rfl, by omega, hg, by omega, by repeat (first | exact r3 | (refine RdAt.setNewP ?_ ?_ _; rotate_left; · first | (simp; done) | (simp; omega))), by repeat (first | exact g3 | (refine grown_setNewP ?_ ?_ _; rotate_left; · first | (simp; done) | (simp; omega)))⟩
  · have t0 : ((k : Int) == 0) = false := by simp; omega
    have t1 : ((k : Int) == 1) = false := by simp; omega
    obtain ⟨⟨d0, d1, dl⟩, df⟩ := P2
    obtain ⟨⟨c0, c1, cl⟩, cf⟩ := Q2
    have e0 := df 0
    have e1 := df 1
    clear cf df
    go_wp2
    refine bodyPost_ret (v := .agg #[.string c, .int .i64 g]) (by simp [results, Try.results63, go_sem, d0, d1]) rfl ?_
    exact ⟨c, g, p + 1, rfl, by omega, hg, by omega, by repeat (first | exact r2 | (refine RdAt.setNewP ?_ ?_ _; rotate_left; · first | (simp; done) | (simp; omega))), by repeat (first | exact g2 | (refine grown_setNewP ?_ ?_ _; rotate_left; · first | (simp; done) | (simp; omega)))⟩
end Go.Proofs.Ytmeooebklohdfaa
