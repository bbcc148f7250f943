/- Contracts of l5Heard and l5Threshold. -/
import Derived.Test.YtmeooebklohdfaaDrawPil2
import Derived.Test.YtmeooebklohdfaaDrawSig
import Derived.Test.YtmeooebklohdfaaPil13
import Derived.Test.YtmeooebklohdfaaSig12
import Derived.Deep.RegionHeld3
import Derived.BigQuiet
namespace Go.Proofs.Ytmeooebklohdfaa
open Go.RowKit
set_option linter.unusedVariables false
set_option maxRecDepth 100000
/-- The first numbers of a slice of the call's own. -/
theorem OF.head {w : World} {B : Nat} {a : Option Addr} {n cap : Nat} {f : Nat → Int} (h : OF w B (.slice a n cap) n f) (m : Nat) (hm : m ≤ n) : OF w B (.slice a m cap) m f := by
  obtain ⟨hl, h | ⟨g, c, cur, e, hb, hh, h1, h2, h3, h4⟩⟩ := h
  · obtain ⟨e, h0⟩ := h
    injection e with e1 e2 e3
    subst e1 e3
    obtain rfl : m = 0 := by omega
    exact OF.nil w B f
  · injection e with e1 e2 e3
    subst e1 e3
    refine ⟨by simp, .inr ⟨g, cap, cur, rfl, hb, hh, by omega, h2, h3, ?_⟩⟩
    have h5 := congrArg (List.take m) h4
    rw [List.take_take, Nat.mul_one, Nat.min_eq_left hm] at h5
    rw [Nat.mul_one, h5, ← List.map_take, List.take_range, Nat.min_eq_left hm]
theorem OF.offh {w : World} {B b : Nat} {v : Value} {n : Nat} {f : Nat → Int} (h : OF w B v n f) (hb : b < B) : v.ownBlock = none ∨ v.ownBlock ≠ some b := by
  cases hv : v.ownBlock with
  | none => exact .inl rfl
  | some q => right; intro e; cases e; have := (h.lt _ hv).1; omega
theorem headO {w : World} {B : Nat} {a : Option Addr} {n cap : Nat} {f : Nat → Int} (h : OF w B (.slice a n cap) n f) (m : Nat) (hm : m ≤ n) : ∀ w1, (Instr.sliceAt 27 (.slice a n cap) none (some (.int .i64 (m : Int))) none).run Try.prog w1 = .ok (.slice a m cap) w1 := by
  intro w1
  have hc : n ≤ cap := by
    obtain ⟨_, _, e, hcap, _⟩ := h.intsC
    injection e with e1 e2 e3
    subst e1 e3
    omega
  rw [run_sliceAt_slice w1 27 _ _ _ _ (by kernel_rfl), run_slice_h w1 27 a n cap (by kernel_rfl) .i64 _ (by omega) (by omega), ints_elem]
  simp [Result.andThen, sliced]
  intro _
  cases a with
  | none => rfl
  | some x =>
    show some (x.add 0) = some x
    congr 1
/-- A signal, a pilot and its offset were drawn. -/
def HrdPost (b p : Nat) (zs : List Int) (w : World) (e : Ending) (w' : World) : Prop :=
  ∃ (v : Value) (n : Nat) (f : Nat → Int) (c : ByteArray) (g : Int) (k q : Nat), e = .returned (.tuple #[v, .agg #[.string c, .int .i64 g], .int .i64 (k : Int)]) ∧ OF w' w.heap.size v n f ∧ n ≤ 3001 ∧ (∀ j, j < n → FitsI (f j)) ∧ DrP c g ∧ k < perL c g ∧ q ≤ p + 400 ∧ RdAt w' b q zs ∧ w.grownBy w' (some b)
theorem heard_sig (c : ByteArray) (G P K k1 k2 : Nat) (W : World) (hd : DrP c (G : Int)) (hP : perL c (G : Int) = P) (hK : K < P) (h1 : k1 < 3) (h2 : k2 < 4) :
    Calls Try.prog 15 #[.agg #[.string c, .int .i64 (G : Int)], .int .i64 (K : Int), .int .i64 (IntKind.i64.wrap ((P : Int) * IntKind.i64.wrap (1 + (k1 : Int)))), .int .i64 (IntKind.i64.wrap (1 + (k2 : Int)))] W
      fun e w' => ∃ (u : Value) (n : Nat) (f : Nat → Int), e = .returned (.tuple #[u, .bool true]) ∧ OF w' W.heap.size u n f ∧ n ≤ 270 ∧ (∀ j, -1000 ≤ smp n f j ∧ smp n f j ≤ 1000) ∧ Below W.heap.size W w' := by
  have hper := hd.per
  rw [hP] at hper
  have hm : P * (1 + k1) ≤ 270 := Nat.le_trans (Nat.mul_le_mul hper.2 (show 1 + k1 ≤ 3 by omega)) (by omega)
  have e1 : IntKind.i64.wrap (1 + (k1 : Int)) = ((1 + k1 : Nat) : Int) := by rw [IntWalk.i64_in _ (by omega)]; omega
  have e2 : IntKind.i64.wrap ((P : Int) * ((1 + k1 : Nat) : Int)) = ((P * (1 + k1) : Nat) : Int) := by rw [← Int.natCast_mul]; exact IntWalk.i64_in _ (by omega)
  have e3 : IntKind.i64.wrap (1 + (k2 : Int)) = ((1 + k2 : Nat) : Int) := by rw [IntWalk.i64_in _ (by omega)]; omega
  rw [e1, e2, e3]
  have ho : offB c (G : Int) (K : Int) = true := (offB_iff _ _ _).2 ⟨hd.ok, by omega, by rw [hP]; omega⟩
  have hb : psB ((P * (1 + k1) : Nat) : Int) ((1 + k2 : Nat) : Int) = true := (psB_iff _ _).2 ⟨by omega, by omega, by omega, by omega⟩
  obtain ⟨y1, y2⟩ := ps_yes ho hb
  rw [Int.toNat_natCast] at y2
  refine (sPSig_any c (G : Int) (K : Int) ((P * (1 + k1) : Nat) : Int) ((1 + k2 : Nat) : Int) W (by have := hd.2.1; omega)).mono ?_
  rintro e w' ⟨u, rfl, O, hB⟩
  rw [y2] at O
  rw [y1]
  obtain ⟨G', e', -, -, -, q4, -, -, q7, q8, -⟩ := pil_nat hd.ok
  obtain rfl : G' = G := by omega
  refine ⟨u, _, _, rfl, O, hm, fun j => ?_, hB⟩
  unfold smp
  split
  · unfold psF scF
    rw [Int.toNat_natCast]
    exact ps_bd q4 q7 q8 (by omega) (by omega) _ _
  · omega
theorem smp_fitsH {n : Nat} {f : Nat → Int} (h : ∀ j, -1010 ≤ smp n f j ∧ smp n f j ≤ 1010) : ∀ j, j < n → FitsI (f j) := fun j hj => by
  have := h j
  unfold smp at this
  rw [if_pos hj] at this
  unfold FitsI; omega
theorem smp_addH {n m : Nat} {f g : Nat → Int} (h : ∀ j, -1000 ≤ smp n f j ∧ smp n f j ≤ 1000) (hg : ∀ j, j < m → -10 ≤ g j ∧ g j ≤ 10) : ∀ j, -1010 ≤ smp (max n m) (agF n f m g) j ∧ smp (max n m) (agF n f m g) j ≤ 1010 := fun j => by
  have h1 := h j
  have h2 : -10 ≤ smp m g j ∧ smp m g j ≤ 10 := by
    unfold smp; split
    · exact hg j (by assumption)
    · omega
  show -1010 ≤ (if j < max n m then agF n f m g j else 0) ∧ (if j < max n m then agF n f m g j else 0) ≤ 1010
  split
  · unfold agF; omega
  · omega

set_option maxHeartbeats 6400000 in
theorem l5Heard_any (b p : Nat) (zs : List Int) (w : World) (hr : RdAt w b p zs) (hp : p ≤ 700000) :
    Calls Try.prog 72 #[.pointer (some ⟨b, 0, none⟩)] w (HrdPost b p zs w) := by
  have hbl := hr.1
  have P0 := PilW.new w 24 ⟨#[]⟩ 0
  have r0 := hr.alloc (.cells #[.string ⟨#[]⟩, .int .i64 0] 24)
  have g0 := World.grownBy_alloc w (.cells #[.string ⟨#[]⟩, .int .i64 0] 24) (some b)
  clear hr
  go_enter Try.func72, Try.ntmps72
  go_wp2_with fail
  refine (l5Pilot_any b p zs _ r0 (by omega)).mono ?_
  rintro e w2 ⟨c, g, q, rfl, hD, hq, r2, h2⟩
  obtain ⟨G, rfl⟩ : ∃ G : Nat, g = (G : Int) := ⟨g.toNat, by have := hD.2.2.1; omega⟩
  have hper := hD.per
  have HL := fun w => l5Length_yes c (G : Int) w hD.ok
  obtain ⟨P, hP⟩ : ∃ P, perL c (G : Int) = P := ⟨_, rfl⟩
  have HS := Lib.hid (fun K k1 k2 W hK h1 h2 => heard_sig c G P K k1 k2 W hD hP hK h1 h2)
  rw [hP] at HL hper
  have HL := Lib.hid HL
  have HD := Lib.hid hD
  have HPP := Lib.hid hP
  have g2 := g0.trans h2
  have P2 := P0.kept h2 (by simp; omega)
  have hws := P2.1.2.2
  have QV := PilAt.new w2 24 c (G : Int)
  have ga := World.grownBy_alloc w2 (.cells #[.string c, .int .i64 (G : Int)] 24) (some b)
  have rV := r2.alloc (.cells #[.string c, .int .i64 (G : Int)] 24)
  have gV := g2.trans ga
  have RV := P2.kept ga (by simp; omega)
  have hVB : (w2.alloc (.cells #[.string c, .int .i64 (G : Int)] 24)).heap.size = w2.heap.size + 1 := by simp
  clear r0 g0 P0 h2 g2 P2 r2 ga hP hD
  go_wp2_with fail
  obtain ⟨X, hX⟩ : ∃ X, w2.heap.size = X := ⟨_, rfl⟩
  obtain ⟨V, hV⟩ : ∃ V, w2.alloc (.cells #[.string c, .int .i64 (G : Int)] 24) = V := ⟨_, rfl⟩
  rw [hV] at rV gV RV QV hVB ⊢
  rw [hX] at QV hws hVB ⊢
  clear hV hX w2
  obtain ⟨B, hB⟩ : ∃ B, X + 1 = B := ⟨_, rfl⟩
  rw [hB] at hVB
  have hbB : b < B := by omega
  have hRB : w.heap.size < B := by omega
  have n0 : ¬ ((P : Int) = 0) := by omega
  have n1 : ((P : Int) == 0) = false := by simp; omega
  have n2 : ¬ P = 0 := by omega
  have h0 : V.grownBy V.drew (some b) := drewRowQ V (some b)
  have r0 : RdAt V.drew b q zs := rV.below (Below.refl _ _).drew
  obtain ⟨c0, c1, cl⟩ := id QV
  obtain ⟨e0, e1, el⟩ := QV.kept h0 (by simp; omega)
  go_region_held3 (fun wx => wx.cell? ⟨X, 0, none⟩ = some (.string c) ∧ wx.cell? ⟨X, 1, none⟩ = some (.int .i64 (G : Int))) (first | exact ⟨o0, o1⟩ | exact ⟨l0, l1⟩ | exact ⟨m0, m1⟩ | exact ⟨e0, e1⟩) (first
    | (go_at_call 70; refine (HL.out _).mono ?_; rintro e w7 ⟨rfl, hb7⟩; have r7 := r6.below hb7; have h7 := h6.trans (grow hb7 (some b)); obtain ⟨o0, o1, ol⟩ := QV.kept h7 (by simp; omega))
    | (go_at_call 61; refine (pick_any b (q + 1) 256 zs _ r5 (by omega) (by omega) (by omega)).mono ?_; rintro e w6 ⟨k6, hk6, rfl, r6, h6'⟩; have h6 := h5.trans h6'; obtain ⟨l0, l1, ll⟩ := QV.kept h6 (by simp; omega); obtain ⟨S, hS⟩ : ∃ S, k5 + k6 = S := ⟨_, rfl⟩; have sw : IntKind.i64.wrap ((k5 : Int) + (k6 : Int)) = (S : Int) := (by rw [IntWalk.i64_in _ (by omega)]; omega); obtain ⟨K, hK⟩ : ∃ K, S % P = K := ⟨_, rfl⟩; have sm : (S : Int).tmod (P : Int) = (K : Int) := (by rw [Int.tmod_eq_emod_of_nonneg (by omega), ← hK, Int.natCast_emod]); have hKP : K < P := (by rw [← hK]; exact Nat.mod_lt _ (by omega)); clear hK hS)
    | (go_at_call 61; refine (pick_any b q 256 zs _ r0 (by omega) (by omega) (by omega)).mono ?_; rintro e w5 ⟨k5, hk5, rfl, r5, h5'⟩; have h5 := h0.trans h5'; obtain ⟨m0, m1, ml⟩ := QV.kept h5 (by simp; omega)))
  have HKP : Hid (K < perL c (G : Int)) := Lib.hid (by rw [HPP.out]; exact hKP)
  clear h5 h6 h5' h6' hb7 r5 r6 r0 h0 rV m0 m1 ml l0 l1 ll o0 o1 ol e0 e1 el c0 c1 cl sw sm hk5 hk6
  go_wp2_with fail
  have h0 : V.grownBy w7.drew (some b) := h7.trans (drewRowQ w7 (some b))
  have r0 : RdAt w7.drew b (q + 1 + 1) zs := r7.below (Below.refl _ _).drew
  obtain ⟨c0, c1, cl⟩ := QV.kept h7 (by simp; omega)
  obtain ⟨e0, e1, el⟩ := QV.kept h0 (by simp; omega)
  go_region_held3 (fun wx => wx.cell? ⟨X, 0, none⟩ = some (.string c) ∧ wx.cell? ⟨X, 1, none⟩ = some (.int .i64 (G : Int))) (first | exact ⟨j0, j1⟩ | exact ⟨o0, o1⟩ | exact ⟨l0, l1⟩ | exact ⟨m0, m1⟩ | exact ⟨e0, e1⟩) (first
    | (go_at_call 15; refine (HS.out K a2 a3 _ hKP ha2 ha3).mono ?_; rintro e v4 ⟨u, n, f, rfl, Ou, hn, hf, hB4⟩; have x4 := y3.below hB4; have z4 := z3.trans (grow hB4 (some b)); obtain ⟨j0, j1, jl⟩ := QV.kept z4 (by simp; omega))
    | (go_at_call 61; refine (pick_any b (q + 1 + 1 + 1) 4 zs _ y2 (by omega) (by omega) (by omega)).mono ?_; rintro e v3 ⟨a3, ha3, rfl, y3, z3'⟩; have z3 := z2.trans z3'; obtain ⟨o0, o1, ol⟩ := QV.kept z3 (by simp; omega))
    | (go_at_call 61; refine (pick_any b (q + 1 + 1) 3 zs _ y1 (by omega) (by omega) (by omega)).mono ?_; rintro e v2 ⟨a2, ha2, rfl, y2, z2'⟩; have z2 := z1.trans z2'; obtain ⟨l0, l1, ll⟩ := QV.kept z2 (by simp; omega))
    | (go_at_call 70; refine (HL.out _).mono ?_; rintro e v1 ⟨rfl, hB1⟩; have y1 := r0.below hB1; have z1 := h0.trans (grow hB1 (some b)); obtain ⟨m0, m1, ml⟩ := QV.kept z1 (by simp; omega)))
  have OB := Ou.mono (show B ≤ v3.heap.size by rw [← hVB]; exact z3.size)
  have HF := Lib.hid hf
  clear h7 r7 h0 r0 c0 c1 cl e0 e1 el m0 m1 ml l0 l1 ll o0 o1 ol j0 j1 jl hB1 y1 z1 y2 z2' z2 y3 z3' z3 hB4 Ou hf ha2 ha3
  go_wp2_with fail
  refine (pick_any b (q + 1 + 1 + 1 + 1) 5 zs _ x4 (by omega) (by omega) (by omega)).mono ?_
  rintro e v5 ⟨k5', hk5, rfl, r5, h5'⟩
  have h5 := z4.trans h5'
  have O5 := OB.kept h5' (OB.offh hbB)
  obtain ⟨ua, uc, rfl, -⟩ := O5.form
  clear x4 z4 h5' OB
  obtain ⟨q5, hq5⟩ : ∃ q5, q + 1 + 1 + 1 + 1 + 1 = q5 := ⟨_, rfl⟩
  have hqb : q5 ≤ p + 115 := by omega
  rw [hq5] at r5
  clear hq5 hq
  by_cases c5 : k5' = 0
  · subst c5
    clear hk5
    go_wp2_with fail
    refine (l4Some_any b q5 30 zs _ r5 (by omega) (by omega)).mono ?_
    rintro e v6 ⟨tv, tn, tf, q6, rfl, T6, htn, htf, hq6, r6, h6'⟩
    have h6 := h5.trans h6'
    have O6 := O5.kept h6' (O5.offh hbB)
    have hAd := Lib.hid (smp_addH HF.out htf)
    have hA := l4Add_any _ _ n tn f tf v6 O6.ints T6.ints (by omega) (by omega) (fun j => by have := HF.out j; omega) (fun j => by
      unfold smp; split
      · have := htf j (by assumption); omega
      · omega)
    have hmx : max n tn ≤ 1000 := by omega
    obtain ⟨M, hM⟩ : ∃ M, max n tn = M := ⟨_, rfl⟩
    obtain ⟨F, hF⟩ : ∃ F, agF n f tn tf = F := ⟨_, rfl⟩
    rw [hM, hF] at hA hAd
    rw [hM] at hmx
    have HA := Lib.hid hA
    have hv6 : B ≤ v6.heap.size := by rw [← hVB]; exact h6.size
    clear hM hF hA htf T6 h5 h6' O5 r5
    go_wp2_with fail
    refine HA.out.mono ?_
    rintro e v7 ⟨s7, rfl, O7', hB7⟩
    have O7 := O7'.mono hv6
    have r7 := r6.below hB7
    have h7 := h6.trans (grow hB7 (some b))
    obtain ⟨sa, sc, rfl, -⟩ := O7.form
    clear O7' r6 h6 hB7 O6 hv6 HA
    have HFit := Lib.hid (smp_fitsH hAd.out)
    have rz := r7.below (Below.refl _ _).drew
    have hz := h7.trans (drewRowQ v7 (some b))
    have Oz := O7.below (Below.refl _ _).drew
    have hBz : B ≤ v7.drew.heap.size := by rw [← hVB]; exact hz.size
    obtain ⟨e0, e1, el⟩ := QV.kept hz (by simp; omega)
    clear r7 h7 O7
    go_wp2_with fail
    go_region_held3 (fun wx => wx.cell? ⟨X, 0, none⟩ = some (.string c) ∧ wx.cell? ⟨X, 1, none⟩ = some (.int .i64 (G : Int))) (first | exact ⟨m0, m1⟩ | exact ⟨e0, e1⟩ | exact ⟨s0, s1⟩) (first
      | (go_at_call 105; refine (l4Bad_any b q6 B zs _ _ _ _ rz (by omega) Oz (by omega) HFit.out hbB hBz).mono ?_; rintro e w9 ⟨u, m, fu, q9, rfl, O9, hm9, hf9, hq9, r9, hg9⟩; have h9 := hg9 V hz (by omega); obtain ⟨m0, m1, ml⟩ := QV.kept h9 (by simp; omega); obtain ⟨⟨d0, d1, dl⟩, df⟩ := RV.kept h9 (by simp; omega); have f0 := df 0; have f1 := df 1; obtain ⟨s0, s1, sl⟩ := (QV.kept h9 (by simp; omega)).kept (pgrown2 (w := w9) (g := w.heap.size) 0 1 (.string c) (.int .i64 (G : Int))) (by simp; omega)))
    have HF9 := Lib.hid hf9
    clear hg9 hf9 e0 e1 el rz hz Oz hBz df
    have g9 := gV.trans h9
    have O10 := Lib.hid ((O9.kept (pgrown2 (w := w9) (g := w.heap.size) 0 1 (.string c) (.int .i64 (G : Int))) (O9.offh hRB)).mono (show w.heap.size ≤ B by omega))
    go_wp2
    refine bodyPost_ret (v := .tuple #[u, .agg #[.string c, .int .i64 (G : Int)], .int .i64 (K : Int)]) (by simp [results, Try.results72, go_sem, d0, d1]) rfl ?_
    exact ⟨u, m, fu, c, (G : Int), K, q9, rfl, O10.out, hm9, HF9.out, HD.out, HKP.out, by omega, (r9.setNewP hbl _).setNewP hbl _, grown_setNewP (grown_setNewP g9 (Nat.le_refl _) _) (Nat.le_refl _) _⟩
  have e5 : ((k5' : Int) == 0) = false := by simp; omega
  by_cases c6 : k5' = 1
  · subst c6
    clear hk5
    go_wp2_with fail
    have hm1 : (n : Int) + 1 = ((n + 1 : Nat) : Int) := by omega
    rw [hm1]
    clear hm1
    refine (pick_any b q5 (n + 1) zs _ r5 (by omega) (by omega) (by omega)).mono ?_
    rintro e v6 ⟨k6, hk6, rfl, r6, h6'⟩
    have h6 := h5.trans h6'
    have O6 := O5.kept h6' (O5.offh hbB)
    have hh := headO O6 k6 (by omega)
    have O7 := O6.head k6 (by omega)
    have HF7 : Hid (∀ j, j < k6 → FitsI (f j)) := Lib.hid (fun j hj => by
      have := HF.out j
      unfold smp at this
      rw [if_pos (show j < n by omega)] at this
      unfold FitsI; omega)
    clear r5 h5 O5 h6' O6
    have HFit := Lib.hid HF7.out
    have rz := r6.below (Below.refl _ _).drew
    have hz := h6.trans (drewRowQ v6 (some b))
    have Oz := O7.below (Below.refl _ _).drew
    have hBz : B ≤ v6.drew.heap.size := by rw [← hVB]; exact hz.size
    obtain ⟨e0, e1, el⟩ := QV.kept hz (by simp; omega)
    clear r6 h6 O7
    go_wp2_with fail
    go_region_held3 (fun wx => wx.cell? ⟨X, 0, none⟩ = some (.string c) ∧ wx.cell? ⟨X, 1, none⟩ = some (.int .i64 (G : Int))) (first | exact ⟨m0, m1⟩ | exact ⟨e0, e1⟩ | exact ⟨s0, s1⟩) (first
      | (go_at_call 105; refine (l4Bad_any b (q5 + 1) B zs _ _ _ _ rz (by omega) Oz (by omega) HFit.out hbB hBz).mono ?_; rintro e w9 ⟨u, m, fu, q9, rfl, O9, hm9, hf9, hq9, r9, hg9⟩; have h9 := hg9 V hz (by omega); obtain ⟨m0, m1, ml⟩ := QV.kept h9 (by simp; omega); obtain ⟨⟨d0, d1, dl⟩, df⟩ := RV.kept h9 (by simp; omega); have f0 := df 0; have f1 := df 1; obtain ⟨s0, s1, sl⟩ := (QV.kept h9 (by simp; omega)).kept (pgrown2 (w := w9) (g := w.heap.size) 0 1 (.string c) (.int .i64 (G : Int))) (by simp; omega)))
    have HF9 := Lib.hid hf9
    clear hg9 hf9 e0 e1 el rz hz Oz hBz df
    have g9 := gV.trans h9
    have O10 := Lib.hid ((O9.kept (pgrown2 (w := w9) (g := w.heap.size) 0 1 (.string c) (.int .i64 (G : Int))) (O9.offh hRB)).mono (show w.heap.size ≤ B by omega))
    go_wp2
    refine bodyPost_ret (v := .tuple #[u, .agg #[.string c, .int .i64 (G : Int)], .int .i64 (K : Int)]) (by simp [results, Try.results72, go_sem, d0, d1]) rfl ?_
    exact ⟨u, m, fu, c, (G : Int), K, q9, rfl, O10.out, hm9, HF9.out, HD.out, HKP.out, by omega, (r9.setNewP hbl _).setNewP hbl _, grown_setNewP (grown_setNewP g9 (Nat.le_refl _) _) (Nat.le_refl _) _⟩
  have e6 : ((k5' : Int) == 1) = false := by simp; omega
  have HF7 : Hid (∀ j, j < n → FitsI (f j)) := Lib.hid (fun j hj => by
    have := HF.out j
    unfold smp at this
    rw [if_pos hj] at this
    unfold FitsI; omega)
  clear hk5
  have HFit := Lib.hid HF7.out
  have rz := r5.below (Below.refl _ _).drew
  have hz := h5.trans (drewRowQ v5 (some b))
  have Oz := O5.below (Below.refl _ _).drew
  have hBz : B ≤ v5.drew.heap.size := by rw [← hVB]; exact hz.size
  obtain ⟨e0, e1, el⟩ := QV.kept hz (by simp; omega)
  clear r5 h5 O5
  go_wp2_with fail
  go_region_held3 (fun wx => wx.cell? ⟨X, 0, none⟩ = some (.string c) ∧ wx.cell? ⟨X, 1, none⟩ = some (.int .i64 (G : Int))) (first | exact ⟨m0, m1⟩ | exact ⟨e0, e1⟩ | exact ⟨s0, s1⟩) (first
    | (go_at_call 105; refine (l4Bad_any b q5 B zs _ _ _ _ rz (by omega) Oz (by omega) HFit.out hbB hBz).mono ?_; rintro e w9 ⟨u, m, fu, q9, rfl, O9, hm9, hf9, hq9, r9, hg9⟩; have h9 := hg9 V hz (by omega); obtain ⟨m0, m1, ml⟩ := QV.kept h9 (by simp; omega); obtain ⟨⟨d0, d1, dl⟩, df⟩ := RV.kept h9 (by simp; omega); have f0 := df 0; have f1 := df 1; obtain ⟨s0, s1, sl⟩ := (QV.kept h9 (by simp; omega)).kept (pgrown2 (w := w9) (g := w.heap.size) 0 1 (.string c) (.int .i64 (G : Int))) (by simp; omega)))
  have HF9 := Lib.hid hf9
  clear hg9 hf9 e0 e1 el rz hz Oz hBz df
  have g9 := gV.trans h9
  have O10 := Lib.hid ((O9.kept (pgrown2 (w := w9) (g := w.heap.size) 0 1 (.string c) (.int .i64 (G : Int))) (O9.offh hRB)).mono (show w.heap.size ≤ B by omega))
  go_wp2
  refine bodyPost_ret (v := .tuple #[u, .agg #[.string c, .int .i64 (G : Int)], .int .i64 (K : Int)]) (by simp [results, Try.results72, go_sem, d0, d1]) rfl ?_
  exact ⟨u, m, fu, c, (G : Int), K, q9, rfl, O10.out, hm9, HF9.out, HD.out, HKP.out, by omega, (r9.setNewP hbl _).setNewP hbl _, grown_setNewP (grown_setNewP g9 (Nat.le_refl _) _) (Nat.le_refl _) _⟩
/-- A threshold was drawn. -/
def ThrPost (b p : Nat) (zs : List Int) (w : World) (e : Ending) (w' : World) : Prop :=
  ∃ (t : Int) (q : Nat), e = .returned (.int .i64 t) ∧ FitsI t ∧ q ≤ p + 2 ∧ RdAt w' b q zs ∧ w.grownBy w' (some b)
set_option maxHeartbeats 3200000 in
theorem l5Threshold_any (b p : Nat) (zs : List Int) (c : ByteArray) (g : Int) (w : World) (hr : RdAt w b p zs) (hp : p ≤ 800000) (hd : DrP c g) :
    Calls Try.prog 83 #[.pointer (some ⟨b, 0, none⟩), .agg #[.string c, .int .i64 g]] w (ThrPost b p zs w) := by
  have hbl := hr.1
  have hper := hd.per
  obtain ⟨P, hP⟩ : ∃ P, perL c g = P := ⟨_, rfl⟩
  have HL := fun w => l5Length_yes c g w hd.ok
  rw [hP] at HL hper
  have HL := Lib.hid HL
  have r0 := hr.alloc (.cells #[.string c, .int .i64 g] 24)
  have Q0 := PilAt.new w 24 c g
  have g0 := World.grownBy_alloc w (.cells #[.string c, .int .i64 g] 24) (some b)
  clear hr hd hP
  go_enter Try.func83, Try.ntmps83
  go_wp2_with fail
  refine (pick_any b p 16 zs _ r0 (by omega) (by omega) (by omega)).mono ?_
  rintro e w1 ⟨k, hk, rfl, r1, h1'⟩
  have g1 := g0.trans h1'
  have Q1 := Q0.kept h1' (by simp; omega)
  clear r0 Q0 g0 h1'
  by_cases k0 : k = 0
  · subst k0
    clear hk Q1
    go_wp2_with fail
    refine (num_any b (p + 1) zs _ w1.heap.size 3 [-9223372036854775808, 9223372036854775807, 0] (r1.alloc _) (IntsAt.new w1 _ [-9223372036854775808, 9223372036854775807, 0]) rfl r1.1 (by omega) (by omega) (by omega)).mono ?_
    rintro e w3 ⟨v, hv, rfl, r3, h3⟩
    have hF : FitsI v := by
      simp only [List.mem_cons, List.not_mem_nil, or_false] at hv
      unfold FitsI; omega
    have g3 := g1.trans ((World.grownBy_alloc w1 _ (some b)).trans h3)
    clear hv r1 g1 h3
    go_wp2
    go_ret
    exact ⟨v, p + 1 + 1, rfl, hF, by omega, r3, g3⟩
  · have t0 : ((k : Int) == 0) = false := by simp; omega
    obtain ⟨c0, c1, cl⟩ := id Q1
    go_wp2_with fail
    refine (HL.out _).mono ?_
    rintro e w2 ⟨rfl, hb2⟩
    have r2 := r1.below hb2
    have g2 := g1.trans (grow hb2 (some b))
    clear c0 c1 cl Q1 r1 g1 hb2
    go_wp2_with fail
    refine (pick_any b (p + 1) 5 zs _ r2 (by omega) (by omega) (by omega)).mono ?_
    rintro e w3 ⟨j, hj, rfl, r3, h3'⟩
    have g3 := g2.trans h3'
    obtain ⟨J, hJ⟩ : ∃ J, 1 + j = J := ⟨_, rfl⟩
    have hmul : P * J ≤ 90 * 5 := Nat.mul_le_mul hper.2 (by omega)
    obtain ⟨M, hM⟩ : ∃ M, P * J = M := ⟨_, rfl⟩
    have x1 : 1 + (j : Int) = (J : Int) := by omega
    have x2 : (P : Int) * (J : Int) = (M : Int) := by rw [← Int.natCast_mul, hM]
    have x3 : (M : Int).tdiv 2 = ((M / 2 : Nat) : Int) := by rw [Int.tdiv_eq_ediv_of_nonneg (by omega)]; omega
    rw [hM] at hmul
    have hJ5 : J ≤ 5 := by omega
    clear hJ
    clear r2 g2 h3' hM
    have hF : FitsI ((M / 2 : Nat) : Int) := by unfold FitsI; omega
    go_wp2
    go_ret
    exact ⟨_, p + 1 + 1, rfl, hF, by omega, r3, g3⟩
end Go.Proofs.Ytmeooebklohdfaa
