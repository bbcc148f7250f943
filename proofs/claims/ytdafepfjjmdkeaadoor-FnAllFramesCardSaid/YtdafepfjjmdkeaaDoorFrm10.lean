/- Frames read from bits, of both sides. -/
import Derived.Test.YtdafepfjjmdkeaaDoorFrm9
namespace Go.Proofs.YtdafepfjjmdkeaaDoor
open Go.RowKit
set_option linter.unusedVariables false
set_option maxRecDepth 100000
/-- How many bits a frame's payload has that begins at an index. -/
def nAt (z : ByteArray) (a : Nat) : Nat := numF (fun i => zb z (a + 8 + i)) 7
def parP (z : ByteArray) (a : Nat) : ByteArray := z.extract (a + 15) (a + 15 + nAt z a)
/-- Whether a frame begins at an index. -/
def hitB (z : ByteArray) (a : Nat) : Bool := decide (a + 23 ≤ z.size) && (decide (nAt z a ≤ 100) && (decide (a + 23 + nAt z a ≤ z.size) && decide (frmS (parP z a) = z.extract a (a + 23 + nAt z a))))
theorem hitB_iff (z : ByteArray) (a : Nat) : hitB z a = true ↔ a + 23 ≤ z.size ∧ nAt z a ≤ 100 ∧ a + 23 + nAt z a ≤ z.size ∧ frmS (parP z a) = z.extract a (a + 23 + nAt z a) := by
  unfold hitB; simp only [Bool.and_eq_true, decide_eq_true_eq]
theorem nAt_lt {z : ByteArray} {a : Nat} (ho : okB z z.size = true) (h : a + 15 ≤ z.size) : nAt z a < 128 :=
  Nat.lt_of_lt_of_le (numF_lt 7 (Nat.le_refl _) fun i hi => okB_zb z ho _ (by omega)) (tw7 7 (Nat.le_refl _))
theorem ok_part {z : ByteArray} (h : okB z z.size = true) (a b : Nat) (hb : b ≤ z.size) : okB (z.extract a b) (z.extract a b).size = true := okB_of_zb _ fun i hi => by
  rw [size_extract _ _ _ hb] at hi
  rw [zb_extract _ _ _ _ hb (by omega)]
  exact okB_zb z h _ (by omega)
theorem extract_twice (z : ByteArray) (a b c d : Nat) (h1 : c ≤ d) (h2 : a + d ≤ b) (h3 : b ≤ z.size) : (z.extract a b).extract c d = z.extract (a + c) (a + d) := by
  have s1 := size_extract z a b h3
  have s2 := size_extract (z.extract a b) c d (by omega)
  have s3 := size_extract z (a + c) (a + d) (by omega)
  refine ba_ext (by rw [s2, s3]; omega) fun i hi => ?_
  rw [s2] at hi
  rw [zb_extract _ _ _ _ (by omega) (by omega), zb_extract _ _ _ _ h3 (by omega), zb_extract _ _ _ _ (by omega) (by omega)]
  congr 1; omega
theorem num_rest {z : ByteArray} {a : Nat} (h : a + 15 ≤ z.size) : numF (zb ((z.extract a z.size).extract 8 15)) 7 = nAt z a := by
  rw [extract_twice z a z.size 8 15 (by omega) (by omega) (Nat.le_refl _)]
  refine numF_congr 7 fun i hi => ?_
  rw [zb_extract _ _ _ _ (by omega) (by omega)]
/-- A frame's box. -/
def FrmAt (W : World) (b : Nat) (p : ByteArray) (x e : Int) : Prop :=
  (W.cell? ⟨b, 0, none⟩ = some (.string p) ∧ W.cell? ⟨b, 1, none⟩ = some (.int .i64 x) ∧ W.cell? ⟨b, 2, none⟩ = some (.int .i64 e)) ∧ b < W.heap.size ∧ (W.frozen? ⟨b, 0, none⟩ = false ∧ W.frozen? ⟨b, 1, none⟩ = false ∧ W.frozen? ⟨b, 2, none⟩ = false)
theorem FrmAt.new (w : World) (t : TypeId) (p : ByteArray) (x e : Int) : FrmAt (w.alloc (.cells #[.string p, .int .i64 x, .int .i64 e] t)) w.heap.size p x e := by
  refine ⟨⟨?_, ?_, ?_⟩, by simp, ?_, ?_, ?_⟩ <;> simp
theorem FrmAt.below {w w' : World} {b B : Nat} {p : ByteArray} {x e : Int} (h : FrmAt w b p x e) (hb : Below B w w') (hB : b < B) : FrmAt w' b p x e := by
  obtain ⟨⟨h0, h1, h2⟩, hl, f0, f1, f2⟩ := h
  exact ⟨⟨(hb.cell (p := ⟨b, 0, none⟩) hB).trans h0, (hb.cell (p := ⟨b, 1, none⟩) hB).trans h1, (hb.cell (p := ⟨b, 2, none⟩) hB).trans h2⟩, Nat.lt_of_lt_of_le hl hb.size, (hb.frozen (p := ⟨b, 0, none⟩) hB).trans f0, (hb.frozen (p := ⟨b, 1, none⟩) hB).trans f1, (hb.frozen (p := ⟨b, 2, none⟩) hB).trans f2⟩
/-- What reading a frame answers. -/
def ReadPost (z : ByteArray) (a : Nat) (w : World) (e : Ending) (w' : World) : Prop :=
  ∃ b, (hitB z a = true → e = .returned (.tuple #[.agg #[.string (parP z a), .int .i64 a, .int .i64 (a + 23 + nAt z a : Nat)], .nilIface])) ∧
    (hitB z a = false → e = .returned (.tuple #[.agg #[.string ⟨#[]⟩, .int .i64 0, .int .i64 0], .iface 61 (.pointer (some ⟨b, 0, none⟩))]) ∧ w'.cell? ⟨b, 0, none⟩ = some (.int .i64 a) ∧ b < w'.heap.size) ∧ Below w.heap.size w w'
theorem lost_kept {w : World} {b : Nat} {v : Value} (h : w.cell? ⟨b, 0, none⟩ = some v) (g : Nat) (hg : g ≠ b) (x y u : Value) :
    (((w.setCell ⟨g, 0, none⟩ x).setCell ⟨g, 1, none⟩ y).setCell ⟨g, 2, none⟩ u).cell? ⟨b, 0, none⟩ = some v := by
  have hne : ∀ o, (⟨g, o, none⟩ : Addr) ≠ ⟨b, 0, none⟩ := fun o e => by injection e with e; exact hg e
  rw [World.cell?_setCell_other _ _ _ _ (hne 2), World.cell?_setCell_other _ _ _ _ (hne 1), World.cell?_setCell_other _ _ _ _ (hne 0)]; exact h
theorem read_lost1 (z : ByteArray) (a : Nat) (w : World) (ha : a ≤ z.size) (hz : z.size ≤ 600) (h : ¬ a + 15 ≤ z.size) :
    Calls Tryd.prog 43 #[.string z, .int .i64 a] w (ReadPost z a w) := by
  have hno : hitB z a = false := by
    cases hh : hitB z a with
    | false => rfl
    | true => have := ((hitB_iff z a).1 hh).1; omega
  have hsz := size_extract z a z.size (Nat.le_refl _)
  have i0 : (0 : Int) ≤ (a : Int) := by omega
  have i1 : (a : Int) ≤ (z.size : Int) := by omega
  obtain ⟨R, hR⟩ : ∃ R, z.extract a z.size = R := ⟨_, rfl⟩
  have hRs : R.size < 15 := by rw [← hR, hsz]; omega
  have i2 : (R.size : Int) < 15 := by omega
  have f0 := FrmAt.new w 41 ⟨#[]⟩ 0 0
  have s0 : (w.alloc (.cells #[.string ⟨#[]⟩, .int .i64 0, .int .i64 0] 41)).heap.size = w.heap.size + 1 := World.size_alloc _ _
  have f1 := f0.below ((Below.refl _ _).alloc (Nat.le_refl _) (.cells #[.int .i64 a] 66)) (by rw [s0]; omega)
  have c1 := box_new (w.alloc (.cells #[.string ⟨#[]⟩, .int .i64 0, .int .i64 0] 41)) (.int .i64 a) 66
  have b1 := ((Below.refl w.heap.size w).alloc (Nat.le_refl _) (.cells #[.string ⟨#[]⟩, .int .i64 0, .int .i64 0] 41)).alloc (by omega) (.cells #[.int .i64 a] 66)
  have s1 : ((w.alloc (.cells #[.string ⟨#[]⟩, .int .i64 0, .int .i64 0] 41)).alloc (.cells #[.int .i64 a] 66)).heap.size = w.heap.size + 2 := by rw [World.size_alloc, s0]
  rw [s0] at c1
  clear f0 s0 hsz
  go_enter Tryd.func43, Tryd.ntmps43
  go_wp2
  obtain ⟨⟨d0, d1, d2⟩, dl, g0, g1, g2⟩ := f1
  refine bodyPost_ret (v := .tuple #[.agg #[.string ⟨#[]⟩, .int .i64 0, .int .i64 0], .iface 61 (.pointer (some ⟨w.heap.size + 1, 0, none⟩))]) (by simp [results, Tryd.results43, go_sem, d0, d1, d2]) rfl ?_
  exact ⟨w.heap.size + 1, (fun h => by rw [hno] at h; cases h), (fun _ => ⟨rfl, c1, by omega⟩), b1⟩
theorem hit_no {z : ByteArray} {a : Nat} (h : ¬ (a + 23 ≤ z.size ∧ nAt z a ≤ 100 ∧ a + 23 + nAt z a ≤ z.size ∧ frmS (parP z a) = z.extract a (a + 23 + nAt z a))) : hitB z a = false := by
  cases hh : hitB z a with
  | false => rfl
  | true => exact absurd ((hitB_iff z a).1 hh) h
theorem read_lost2 (z : ByteArray) (a : Nat) (w : World) (ho : okB z z.size = true) (hz : z.size ≤ 600) (h : a + 15 ≤ z.size) (hn : ¬ a + 15 + nAt z a ≤ z.size) :
    Calls Tryd.prog 43 #[.string z, .int .i64 a] w (ReadPost z a w) := by
  have hno := hit_no (z := z) (a := a) (fun hh => by have := hh.2.2.1; omega)
  have hsz := size_extract z a z.size (Nat.le_refl _)
  have i0 : (0 : Int) ≤ (a : Int) := by omega
  have i1 : (a : Int) ≤ (z.size : Int) := by omega
  have hok := ok_part (ok_part ho a z.size (Nat.le_refl _)) 8 15 (by rw [hsz]; omega)
  have hk7 := size_extract (z.extract a z.size) 8 15 (by rw [hsz]; omega)
  have HN := Lib.hid (fun w => iNum_any ((z.extract a z.size).extract 8 15) w hok (by rw [hk7]))
  rw [num_rest h] at HN
  have hlt := nAt_lt ho h
  obtain ⟨n, hnn⟩ : ∃ n, nAt z a = n := ⟨_, rfl⟩
  rw [hnn] at HN hlt hn
  obtain ⟨R, hR⟩ : ∃ R, z.extract a z.size = R := ⟨_, rfl⟩
  rw [hR] at HN hsz
  have i2 : ¬ (R.size : Int) < 15 := by omega
  have i3 : (R.size : Int) < 15 + (n : Int) := by omega
  have i4 : (15 : Int) ≤ (R.size : Int) := by omega
  have f0 := FrmAt.new w 41 ⟨#[]⟩ 0 0
  have s0 : (w.alloc (.cells #[.string ⟨#[]⟩, .int .i64 0, .int .i64 0] 41)).heap.size = w.heap.size + 1 := World.size_alloc _ _
  have f1 := f0.below ((Below.refl _ _).alloc (Nat.le_refl _) (.cells #[.int .i64 a] 66)) (by rw [s0]; omega)
  have c1 := box_new (w.alloc (.cells #[.string ⟨#[]⟩, .int .i64 0, .int .i64 0] 41)) (.int .i64 a) 66
  have b1 := ((Below.refl w.heap.size w).alloc (Nat.le_refl _) (.cells #[.string ⟨#[]⟩, .int .i64 0, .int .i64 0] 41)).alloc (by omega) (.cells #[.int .i64 a] 66)
  have s1 : ((w.alloc (.cells #[.string ⟨#[]⟩, .int .i64 0, .int .i64 0] 41)).alloc (.cells #[.int .i64 a] 66)).heap.size = w.heap.size + 2 := by rw [World.size_alloc, s0]
  rw [s0] at c1
  clear f0 s0 hok hk7 hnn
  go_enter Tryd.func43, Tryd.ntmps43
  go_wp2_with fail
  refine (HN.out _).mono ?_
  rintro e w1 ⟨rfl, rfl⟩
  go_wp2
  obtain ⟨⟨d0, d1, d2⟩, dl, g0, g1, g2⟩ := f1
  refine bodyPost_ret (v := .tuple #[.agg #[.string ⟨#[]⟩, .int .i64 0, .int .i64 0], .iface 61 (.pointer (some ⟨w.heap.size + 1, 0, none⟩))]) (by simp [results, Tryd.results43, go_sem, d0, d1, d2]) rfl ?_
  exact ⟨w.heap.size + 1, (fun h => by rw [hno] at h; cases h), (fun _ => ⟨rfl, c1, by omega⟩), b1⟩
set_option maxHeartbeats 800000 in
theorem read_main (z : ByteArray) (a : Nat) (w : World) (ho : okB z z.size = true) (hz : z.size ≤ 600) (h : a + 15 ≤ z.size) (hn : a + 15 + nAt z a ≤ z.size) :
    Calls Tryd.prog 43 #[.string z, .int .i64 a] w (ReadPost z a w) := by
  have hsz := size_extract z a z.size (Nat.le_refl _)
  have i0 : (0 : Int) ≤ (a : Int) := by omega
  have i1 : (a : Int) ≤ (z.size : Int) := by omega
  have hok := ok_part (ok_part ho a z.size (Nat.le_refl _)) 8 15 (by rw [hsz]; omega)
  have hk7 := size_extract (z.extract a z.size) 8 15 (by rw [hsz]; omega)
  have HN := Lib.hid (fun w => iNum_any ((z.extract a z.size).extract 8 15) w hok (by rw [hk7]))
  rw [num_rest h] at HN
  have hlt := nAt_lt ho h
  have hpp : (z.extract a z.size).extract 15 (15 + nAt z a) = parP z a := by
    rw [extract_twice z a z.size 15 (15 + nAt z a) (by omega) (by omega) (Nat.le_refl _), ← Nat.add_assoc]; rfl
  have hps : (parP z a).size = nAt z a := by unfold parP; rw [size_extract _ _ _ hn]; omega
  have hpo : okB (parP z a) (parP z a).size = true := ok_part ho _ _ hn
  have HF := Lib.hid (fun w => iFrame_any (parP z a) w (by rw [hps]; omega))
  have hpb : payB (parP z a) = decide (nAt z a ≤ 100) := by unfold payB; rw [bits_mk hpo (by rw [hps]; omega), hps, Bool.true_and]
  have hfs := frmS_size (parP z a)
  have hpre : nAt z a ≤ 100 → hitB z a = preB (z.extract a z.size) (frmS (parP z a)) := fun h1 => by
    rw [Bool.eq_iff_iff, hitB_iff, preB_iff, hfs, hps, hsz]
    constructor
    · rintro ⟨q1, q2, q3, q4⟩
      refine ⟨by omega, ?_⟩
      rw [q4, extract_twice z a z.size 0 (23 + nAt z a) (by omega) (by omega) (Nat.le_refl _), Nat.add_zero, Nat.add_assoc]
    · rintro ⟨q1, q2⟩
      refine ⟨by omega, h1, by omega, ?_⟩
      rw [extract_twice z a z.size 0 (23 + nAt z a) (by omega) (by omega) (Nat.le_refl _), Nat.add_zero] at q2
      rw [← q2, Nat.add_assoc]
  have HX := Lib.hid (fun w => clone_any (parP z a) w (by rw [hps]; omega))
  obtain ⟨n, hnn⟩ : ∃ n, nAt z a = n := ⟨_, rfl⟩
  have HNO := Lib.hid (fun (h : ¬ nAt z a ≤ 100) => hit_no (z := z) (a := a) (fun hh => h hh.2.1))
  rw [hnn] at HN hlt hn hpp hps hpb hpre HNO
  obtain ⟨P, hP⟩ : ∃ P, parP z a = P := ⟨_, rfl⟩
  rw [hP] at hpp hps HF hpb hfs hpre HX
  obtain ⟨R, hR⟩ : ∃ R, z.extract a z.size = R := ⟨_, rfl⟩
  rw [hR] at HN hsz hpp hpre
  have HP := Lib.hid hP
  have HNN := Lib.hid hnn
  have HPP := Lib.hid hpp
  have i2 : ¬ (R.size : Int) < 15 := by omega
  have i3 : ¬ (R.size : Int) < 15 + (n : Int) := by omega
  have i4 : (15 : Int) ≤ (R.size : Int) := by omega
  obtain ⟨E, hE⟩ : ∃ E, 15 + n = E := ⟨_, rfl⟩
  rw [hE] at HPP
  have i5 : 15 + (n : Int) = (E : Int) := by omega
  have i6 : (E : Int) ≤ (R.size : Int) := by omega
  have i7 : (15 : Int) ≤ (E : Int) := by omega
  have i8 : ¬ (R.size : Int) < (E : Int) := by omega
  have i9 : (E : Int) ≤ 200 := by omega
  have r6 : R.size ≤ 600 := by omega
  have f0 := FrmAt.new w 41 ⟨#[]⟩ 0 0
  have s0 : (w.alloc (.cells #[.string ⟨#[]⟩, .int .i64 0, .int .i64 0] 41)).heap.size = w.heap.size + 1 := World.size_alloc _ _
  have f1 := f0.below ((Below.refl _ _).alloc (Nat.le_refl _) (.cells #[.int .i64 a] 66)) (by rw [s0]; omega)
  have c1 := box_new (w.alloc (.cells #[.string ⟨#[]⟩, .int .i64 0, .int .i64 0] 41)) (.int .i64 a) 66
  have b1 := ((Below.refl w.heap.size w).alloc (Nat.le_refl _) (.cells #[.string ⟨#[]⟩, .int .i64 0, .int .i64 0] 41)).alloc (by omega) (.cells #[.int .i64 a] 66)
  have s1 : ((w.alloc (.cells #[.string ⟨#[]⟩, .int .i64 0, .int .i64 0] 41)).alloc (.cells #[.int .i64 a] 66)).heap.size = w.heap.size + 2 := by rw [World.size_alloc, s0]
  rw [s0] at c1
  have hp2 := HPP.out
  clear f0 s0 hok hk7 hnn hP hpp hpo HPP
  by_cases h100 : n ≤ 100
  · have hfa : frmAns P = (frmS P, true) := by unfold frmAns; rw [hpb, decide_eq_true h100]; rfl
    rw [hfa] at HF
    have hpr := hpre h100
    obtain ⟨F, hF⟩ : ∃ F, frmS P = F := ⟨_, rfl⟩
    rw [hF] at HF hpr hfs
    have HPX := Lib.hid (fun w => prefix_any R F w)
    have HH := Lib.hid hpr
    clear hfa hpre hpr hF hpb
    cases hpv : preB R F with
    | false =>
      rw [hpv] at HPX HH
      clear hpv hE h100 hlt hn h hfs hps hsz ho hz HX HNN HP HNO
      go_enter Tryd.func43, Tryd.ntmps43
      go_wp2_with fail
      refine (HN.out _).mono ?_
      rintro e w1 ⟨rfl, rfl⟩
      go_wp2_with fail
      refine (HF.out _).mono ?_
      rintro e w2 ⟨rfl, hb2⟩
      have b2 := below_then b1 (by omega) hb2
      have f2 := f1.below hb2 f1.2.1
      have c2 := box_kept c1 (by omega) hb2
      have s2 := hb2.size
      clear f1 c1 b1 hb2
      go_wp2_with fail
      refine (HPX.out _).mono ?_
      rintro e w3 ⟨rfl, rfl⟩
      obtain ⟨⟨d0, d1, d2⟩, dl, g0, g1, g2⟩ := f2
      have c2' := lost_kept c2 w.heap.size (by omega) (.string ⟨#[]⟩) (.int .i64 0) (.int .i64 0)
      have b2' := ((b2.setCell (p := ⟨w.heap.size, 0, none⟩) (Nat.le_refl _) (.string ⟨#[]⟩)).setCell (p := ⟨w.heap.size, 1, none⟩) (Nat.le_refl _) (.int .i64 0)).setCell (p := ⟨w.heap.size, 2, none⟩) (Nat.le_refl _) (.int .i64 0)
      go_wp2
      refine bodyPost_ret (v := .tuple #[.agg #[.string ⟨#[]⟩, .int .i64 0, .int .i64 0], .iface 61 (.pointer (some ⟨w.heap.size + 1, 0, none⟩))]) (by simp [results, Tryd.results43, go_sem, d0, d1, d2]) rfl ?_
      exact ⟨w.heap.size + 1, (fun h => by rw [HH.out] at h; cases h), (fun _ => ⟨rfl, c2', by simp; omega⟩), b2'⟩
    | true =>
      rw [hpv] at HPX HH
      have HFS := Lib.hid (show F.size = 23 + n by omega)
      have f6 : F.size ≤ 600 := by omega
      have a6 : (a : Int) ≤ 600 := by omega
      clear hpv hE h100 hlt hn h hfs hps hsz ho hz HNO
      go_enter Tryd.func43, Tryd.ntmps43
      go_wp2_with fail
      refine (HN.out _).mono ?_
      rintro e w1 ⟨rfl, rfl⟩
      go_wp2_with fail
      refine (HF.out _).mono ?_
      rintro e w2 ⟨rfl, hb2⟩
      have b2 := below_then b1 (by omega) hb2
      have f2 := f1.below hb2 f1.2.1
      clear f1 c1 b1 hb2
      go_wp2_with fail
      refine (HPX.out _).mono ?_
      rintro e w3 ⟨rfl, rfl⟩
      go_wp2_with fail
      refine (HX.out _).mono ?_
      rintro e w3 ⟨rfl, hb3⟩
      have b3 := below_then b2 (Nat.le_refl _) hb3
      obtain ⟨⟨d0, d1, d2⟩, dl, g0, g1, g2⟩ := f2.below hb3 f2.2.1
      clear f2 b2 hb3
      go_wp2
      refine bodyPost_ret (v := .tuple #[.agg #[.string P, .int .i64 a, .int .i64 ((a : Int) + (F.size : Int))], .nilIface]) (by simp [results, Tryd.results43, go_sem, d0, d1, d2]) rfl ?_
      refine ⟨0, (fun _ => ?_), (fun h => by rw [HH.out] at h; cases h), ?_⟩
      · rw [HP.out, HNN.out, show (a : Int) + (F.size : Int) = ((a + 23 + n : Nat) : Int) by have := HFS.out; omega]
      · first
        | exact ((b3.setCell (p := ⟨w.heap.size, 0, none⟩) (Nat.le_refl _) _).setCell (p := ⟨w.heap.size, 1, none⟩) (Nat.le_refl _) _).setCell (p := ⟨w.heap.size, 2, none⟩) (Nat.le_refl _) _
        | exact b3
  · have hfa : frmAns P = noS := by unfold frmAns; rw [hpb, decide_eq_false h100]; rfl
    rw [hfa] at HF
    have HH := Lib.hid (HNO.out h100)
    clear hfa hpre hpb h100 hE hlt hn h hfs hps hsz ho hz HX HNO HNN HP
    go_enter Tryd.func43, Tryd.ntmps43
    go_wp2_with fail
    refine (HN.out _).mono ?_
    rintro e w1 ⟨rfl, rfl⟩
    go_wp2_with fail
    refine (HF.out _).mono ?_
    rintro e w2 ⟨rfl, hb2⟩
    have b2 := below_then b1 (by omega) hb2
    have f2 := f1.below hb2 f1.2.1
    have c2 := box_kept c1 (by omega) hb2
    have s2 := hb2.size
    clear f1 c1 b1 hb2
    obtain ⟨⟨d0, d1, d2⟩, dl, g0, g1, g2⟩ := f2
    have c2' := lost_kept c2 w.heap.size (by omega) (.string ⟨#[]⟩) (.int .i64 0) (.int .i64 0)
    have b2' := ((b2.setCell (p := ⟨w.heap.size, 0, none⟩) (Nat.le_refl _) (.string ⟨#[]⟩)).setCell (p := ⟨w.heap.size, 1, none⟩) (Nat.le_refl _) (.int .i64 0)).setCell (p := ⟨w.heap.size, 2, none⟩) (Nat.le_refl _) (.int .i64 0)
    go_wp2
    refine bodyPost_ret (v := .tuple #[.agg #[.string ⟨#[]⟩, .int .i64 0, .int .i64 0], .iface 61 (.pointer (some ⟨w.heap.size + 1, 0, none⟩))]) (by simp [results, Tryd.results43, go_sem, d0, d1, d2]) rfl ?_
    exact ⟨w.heap.size + 1, (fun h => by rw [HH.out] at h; cases h), (fun _ => ⟨rfl, c2', by simp; omega⟩), b2'⟩
theorem read_any (z : ByteArray) (a : Nat) (w : World) (hb : bitsB z = true) (ha : a ≤ z.size) :
    Calls Tryd.prog 43 #[.string z, .int .i64 a] w (ReadPost z a w) := by
  obtain ⟨ho, hz⟩ := bits_of hb
  by_cases h : a + 15 ≤ z.size
  · by_cases hn : a + 15 + nAt z a ≤ z.size
    · exact read_main z a w ho hz h hn
    · exact read_lost2 z a w ho hz h hn
  · exact read_lost1 z a w ha hz h
end Go.Proofs.YtdafepfjjmdkeaaDoor
