/- Numbers of binary digits; frames read, of the model. Frames read from bits, of both sides. ParseFrame, of both sides. -/
import Derived.Test.YtabokoodpobnnaaDoorMrgBa
import Derived.Test.YtabokoodpobnnaaDoorClone
import Derived.Deep.RegionHeld3
import Derived.BigQuiet
namespace Go.Proofs.YtabokoodpobnnaaDoor
open Go.RowKit
set_option linter.unusedVariables false
set_option maxRecDepth 100000
/-- The number with these binary digits. -/
def numF (f : Nat → Nat) : Nat → Nat
  | 0 => 0
  | k + 1 => 2 * numF f k + (f k - 48)
theorem numF_lt {f : Nat → Nat} : ∀ k, k ≤ 7 → (∀ i, i < k → f i = 48 ∨ f i = 49) → numF f k < tw k
  | 0, _, _ => by show 0 < 1; omega
  | k + 1, hk, h => by
    have := numF_lt k (by omega) (fun i hi => h i (by omega))
    have hf := h k (by omega)
    have ht : tw (k + 1) = 2 * tw k := by show 2 ^ (k + 1) = 2 * 2 ^ k; rw [Nat.pow_succ]; omega
    simp only [numF]
    omega
theorem numF_congr {f g : Nat → Nat} : ∀ k, (∀ i, i < k → f i = g i) → numF f k = numF g k
  | 0, _ => rfl
  | k + 1, h => by simp only [numF]; rw [numF_congr k (fun i hi => h i (by omega)), h k (by omega)]
theorem tw7 : ∀ k, k ≤ 7 → tw k ≤ 128 := fun k hk => Nat.pow_le_pow_right (n := 2) (by omega) hk
theorem sNum_any (z : ByteArray) (w : World) (ho : okB z z.size = true) (h7 : z.size = 7) :
    Calls Tryd.prog 83 #[.string z] w fun e w' => e = .returned (.int .i64 (numF (zb z) 7 : Nat)) ∧ w = w' := by
  have HB := Lib.hid (okB_zb z ho)
  clear ho
  go_enter Tryd.func83, Tryd.ntmps83
  go_wp2
  go_loopw [3, 4] (fun s i wr => ∃ k : Nat, k ≤ 7 ∧ i = .int .i64 k ∧ s = .int .i64 (numF (zb z) k : Nat) ∧ w = wr) (fun _ i _ => 7 - (intOf i).toNat)
  case atStart => exact ⟨0, by omega, rfl, rfl, rfl⟩
  case round =>
    obtain ⟨k, hk, rfl, rfl, rfl⟩ := hrel
    by_cases hlt : k < 7
    · have hkz : k < z.size := by omega
      have hl := numF_lt (f := zb z) k hk (fun i hi => HB.out i (by omega))
      have ht := tw7 k hk
      have hb := HB.out k hkz
      have hnx : numF (zb z) (k + 1) = 2 * numF (zb z) k + (zb z k - 48) := rfl
      have hz := zb_at z k hkz
      obtain ⟨S, hS⟩ : ∃ S, numF (zb z) k = S := ⟨_, rfl⟩
      rw [hS] at hnx hl ⊢
      obtain ⟨V, hV⟩ : ∃ S, z[k].toNat = S := ⟨_, rfl⟩
      have hV2 : (z[k].toNat : Int) = (V : Int) := by rw [hV]
      rw [← hz, hV] at hnx hb
      have hN : ((2 * (S : Int)) + (V : Int)) - 48 = ((numF (zb z) (k + 1) : Nat) : Int) := by rw [hnx]; omega
      have HN := Lib.hid hN
      have i0 : (0 : Int) ≤ (k : Int) := by omega
      have i1 : (k : Int) < (z.size : Int) := by omega
      have q1 : S ≤ 128 := by omega
      have q2 : V ≤ 49 := by omega
      have q3 : 48 ≤ V := by omega
      clear hnx hS hV hN hz hl ht hb
      go_wp2
      go_roundw
      case rel => exact ⟨k + 1, by omega, by go_num, by rw [← HN.out], trivial⟩
      case measure => simp [intOf]; omega
    · obtain rfl : k = 7 := by omega
      go_wp2
      go_ret
      exact ⟨rfl, rfl⟩
theorem iNum_any (z : ByteArray) (w : World) (ho : okB z z.size = true) (h7 : z.size = 7) :
    Calls Tryd.prog 102 #[.string z] w fun e w' => e = .returned (.int .i64 (numF (zb z) 7 : Nat)) ∧ w = w' := by
  have HB := Lib.hid (okB_zb z ho)
  clear ho
  go_enter Tryd.func102, Tryd.ntmps102
  go_wp2
  go_loopw [3, 7] (fun s i wr => ∃ k : Nat, k ≤ 7 ∧ i = .int .i64 k ∧ s = .int .i64 (numF (zb z) k : Nat) ∧ w = wr) (fun _ i _ => 7 - (intOf i).toNat)
  case atStart => exact ⟨0, by omega, rfl, rfl, rfl⟩
  case round =>
    obtain ⟨k, hk, rfl, rfl, rfl⟩ := hrel
    by_cases hlt : k < 7
    · have hkz : k < z.size := by omega
      have hl := numF_lt (f := zb z) k hk (fun i hi => HB.out i (by omega))
      have ht := tw7 k hk
      have hnx : numF (zb z) (k + 1) = 2 * numF (zb z) k + (zb z k - 48) := rfl
      obtain ⟨b, hb2, hbz⟩ := isBit _ (HB.out k hkz)
      have v0 : IntKind.u8.wrap ((z[k].toNat : Int) - 48) = (b : Int) := by rw [zb_at z k hkz, hbz, show ((48 + b : Nat) : Int) - 48 = (b : Int) by omega]; exact IntWalk.u8_in _ (by omega)
      obtain ⟨S, hS⟩ : ∃ S, numF (zb z) k = S := ⟨_, rfl⟩
      rw [hS] at hnx hl ⊢
      have hN : (2 * (S : Int)) + (b : Int) = ((numF (zb z) (k + 1) : Nat) : Int) := by rw [hnx, hbz]; omega
      have HN := Lib.hid hN
      have i0 : (0 : Int) ≤ (k : Int) := by omega
      have i1 : (k : Int) < (z.size : Int) := by omega
      have q1 : S ≤ 128 := by omega
      clear hnx hS hbz hN hl ht
      go_wp2
      clear v0
      go_roundw
      case rel => exact ⟨k + 1, by omega, by go_num, by rw [← HN.out], trivial⟩
      case measure => simp [intOf]; omega
    · obtain rfl : k = 7 := by omega
      go_wp2
      go_ret
      exact ⟨rfl, rfl⟩
end Go.Proofs.YtabokoodpobnnaaDoor
namespace Go.Proofs.YtabokoodpobnnaaDoor
open Go.RowKit
set_option linter.unusedVariables false
set_option maxRecDepth 100000
/-- How many bits a frame's payload has that begins at an index. -/
def nAt (z : ByteArray) (a : Nat) : Nat := numF (fun i => zb z (a + 8 + i)) 7
def parP (z : ByteArray) (a : Nat) : ByteArray := z.extract (a + 15) (a + 15 + nAt z a)
/-- Whether a frame begins at an index. -/
def hitB (z : ByteArray) (a : Nat) : Bool := decide (a + 23 ≤ z.size) && (decide (nAt z a ≤ 100) && (decide (a + 23 + nAt z a ≤ z.size) && decide (frmS (parP z a) = z.extract a (a + 23 + nAt z a))))
theorem hitB_iff (z : ByteArray) (a : Nat) : hitB z a = true ↔ a + 23 ≤ z.size ∧ nAt z a ≤ 100 ∧ a + 23 + nAt z a ≤ z.size ∧ frmS (parP z a) = z.extract a (a + 23 + nAt z a) := by
  unfold hitB; simp only [Bool.and_eq_true, decide_eq_true_eq]
theorem nAt_lt {z : ByteArray} {a : Nat} (ho : okB z z.size = true) (h : a + 15 ≤ z.size) : nAt z a < 128 :=
  Nat.lt_of_lt_of_le (numF_lt 7 (Nat.le_refl _) fun i hi => okB_zb z ho _ (by omega)) (tw7 7 (Nat.le_refl _))
theorem ok_part {z : ByteArray} (h : okB z z.size = true) (a b : Nat) (hb : b ≤ z.size) : okB (z.extract a b) (z.extract a b).size = true := okB_of_zb _ fun i hi => by
  rw [size_extract _ _ _ hb] at hi
  rw [zb_extract _ _ _ _ hb (by omega)]
  exact okB_zb z h _ (by omega)
theorem extract_twice (z : ByteArray) (a b c d : Nat) (h1 : c ≤ d) (h2 : a + d ≤ b) (h3 : b ≤ z.size) : (z.extract a b).extract c d = z.extract (a + c) (a + d) := by
  have s1 := size_extract z a b h3
  have s2 := size_extract (z.extract a b) c d (by omega)
  have s3 := size_extract z (a + c) (a + d) (by omega)
  refine ba_ext (by rw [s2, s3]; omega) fun i hi => ?_
  rw [s2] at hi
  rw [zb_extract _ _ _ _ (by omega) (by omega), zb_extract _ _ _ _ h3 (by omega), zb_extract _ _ _ _ (by omega) (by omega)]
  congr 1; omega
theorem num_rest {z : ByteArray} {a : Nat} (h : a + 15 ≤ z.size) : numF (zb ((z.extract a z.size).extract 8 15)) 7 = nAt z a := by
  rw [extract_twice z a z.size 8 15 (by omega) (by omega) (Nat.le_refl _)]
  refine numF_congr 7 fun i hi => ?_
  rw [zb_extract _ _ _ _ (by omega) (by omega)]
/-- A frame's box. -/
def FrmAt (W : World) (b : Nat) (p : ByteArray) (x e : Int) : Prop :=
  (W.cell? ⟨b, 0, none⟩ = some (.string p) ∧ W.cell? ⟨b, 1, none⟩ = some (.int .i64 x) ∧ W.cell? ⟨b, 2, none⟩ = some (.int .i64 e)) ∧ b < W.heap.size ∧ (W.frozen? ⟨b, 0, none⟩ = false ∧ W.frozen? ⟨b, 1, none⟩ = false ∧ W.frozen? ⟨b, 2, none⟩ = false)
theorem FrmAt.new (w : World) (t : TypeId) (p : ByteArray) (x e : Int) : FrmAt (w.alloc (.cells #[.string p, .int .i64 x, .int .i64 e] t)) w.heap.size p x e := by
  refine ⟨⟨?_, ?_, ?_⟩, by simp, ?_, ?_, ?_⟩ <;> simp
theorem FrmAt.below {w w' : World} {b B : Nat} {p : ByteArray} {x e : Int} (h : FrmAt w b p x e) (hb : Below B w w') (hB : b < B) : FrmAt w' b p x e := by
  obtain ⟨⟨h0, h1, h2⟩, hl, f0, f1, f2⟩ := h
  exact ⟨⟨(hb.cell (p := ⟨b, 0, none⟩) hB).trans h0, (hb.cell (p := ⟨b, 1, none⟩) hB).trans h1, (hb.cell (p := ⟨b, 2, none⟩) hB).trans h2⟩, Nat.lt_of_lt_of_le hl hb.size, (hb.frozen (p := ⟨b, 0, none⟩) hB).trans f0, (hb.frozen (p := ⟨b, 1, none⟩) hB).trans f1, (hb.frozen (p := ⟨b, 2, none⟩) hB).trans f2⟩
/-- What reading a frame answers. -/
def ReadPost (z : ByteArray) (a : Nat) (w : World) (e : Ending) (w' : World) : Prop :=
  ∃ b, (hitB z a = true → e = .returned (.tuple #[.agg #[.string (parP z a), .int .i64 a, .int .i64 (a + 23 + nAt z a : Nat)], .nilIface])) ∧
    (hitB z a = false → e = .returned (.tuple #[.agg #[.string ⟨#[]⟩, .int .i64 0, .int .i64 0], .iface 108 (.pointer (some ⟨b, 0, none⟩))]) ∧ w'.cell? ⟨b, 0, none⟩ = some (.int .i64 a) ∧ b < w'.heap.size) ∧ Below w.heap.size w w'
theorem lost_kept {w : World} {b : Nat} {v : Value} (h : w.cell? ⟨b, 0, none⟩ = some v) (g : Nat) (hg : g ≠ b) (x y u : Value) :
    (((w.setCell ⟨g, 0, none⟩ x).setCell ⟨g, 1, none⟩ y).setCell ⟨g, 2, none⟩ u).cell? ⟨b, 0, none⟩ = some v := by
  have hne : ∀ o, (⟨g, o, none⟩ : Addr) ≠ ⟨b, 0, none⟩ := fun o e => by injection e with e; exact hg e
  rw [World.cell?_setCell_other _ _ _ _ (hne 2), World.cell?_setCell_other _ _ _ _ (hne 1), World.cell?_setCell_other _ _ _ _ (hne 0)]; exact h
theorem read_lost1 (z : ByteArray) (a : Nat) (w : World) (ha : a ≤ z.size) (hz : z.size ≤ 600) (h : ¬ a + 15 ≤ z.size) :
    Calls Tryd.prog 84 #[.string z, .int .i64 a] w (ReadPost z a w) := by
  have hno : hitB z a = false := by
    cases hh : hitB z a with
    | false => rfl
    | true => have := ((hitB_iff z a).1 hh).1; omega
  have hsz := size_extract z a z.size (Nat.le_refl _)
  have i0 : (0 : Int) ≤ (a : Int) := by omega
  have i1 : (a : Int) ≤ (z.size : Int) := by omega
  obtain ⟨R, hR⟩ : ∃ R, z.extract a z.size = R := ⟨_, rfl⟩
  have hRs : R.size < 15 := by rw [← hR, hsz]; omega
  have i2 : (R.size : Int) < 15 := by omega
  have f0 := FrmAt.new w 87 ⟨#[]⟩ 0 0
  have s0 : (w.alloc (.cells #[.string ⟨#[]⟩, .int .i64 0, .int .i64 0] 87)).heap.size = w.heap.size + 1 := World.size_alloc _ _
  have f1 := f0.below ((Below.refl _ _).alloc (Nat.le_refl _) (.cells #[.int .i64 a] 110)) (by rw [s0]; omega)
  have c1 := box_new (w.alloc (.cells #[.string ⟨#[]⟩, .int .i64 0, .int .i64 0] 87)) (.int .i64 a) 110
  have b1 := ((Below.refl w.heap.size w).alloc (Nat.le_refl _) (.cells #[.string ⟨#[]⟩, .int .i64 0, .int .i64 0] 87)).alloc (by omega) (.cells #[.int .i64 a] 110)
  have s1 : ((w.alloc (.cells #[.string ⟨#[]⟩, .int .i64 0, .int .i64 0] 87)).alloc (.cells #[.int .i64 a] 110)).heap.size = w.heap.size + 2 := by rw [World.size_alloc, s0]
  rw [s0] at c1
  clear f0 s0 hsz
  go_enter Tryd.func84, Tryd.ntmps84
  go_wp2
  obtain ⟨⟨d0, d1, d2⟩, dl, g0, g1, g2⟩ := f1
  refine bodyPost_ret (v := .tuple #[.agg #[.string ⟨#[]⟩, .int .i64 0, .int .i64 0], .iface 108 (.pointer (some ⟨w.heap.size + 1, 0, none⟩))]) (by simp [results, Tryd.results84, go_sem, d0, d1, d2]) rfl ?_
  exact ⟨w.heap.size + 1, (fun h => by rw [hno] at h; cases h), (fun _ => ⟨rfl, c1, by omega⟩), b1⟩
theorem hit_no {z : ByteArray} {a : Nat} (h : ¬ (a + 23 ≤ z.size ∧ nAt z a ≤ 100 ∧ a + 23 + nAt z a ≤ z.size ∧ frmS (parP z a) = z.extract a (a + 23 + nAt z a))) : hitB z a = false := by
  cases hh : hitB z a with
  | false => rfl
  | true => exact absurd ((hitB_iff z a).1 hh) h
theorem read_lost2 (z : ByteArray) (a : Nat) (w : World) (ho : okB z z.size = true) (hz : z.size ≤ 600) (h : a + 15 ≤ z.size) (hn : ¬ a + 15 + nAt z a ≤ z.size) :
    Calls Tryd.prog 84 #[.string z, .int .i64 a] w (ReadPost z a w) := by
  have hno := hit_no (z := z) (a := a) (fun hh => by have := hh.2.2.1; omega)
  have hsz := size_extract z a z.size (Nat.le_refl _)
  have i0 : (0 : Int) ≤ (a : Int) := by omega
  have i1 : (a : Int) ≤ (z.size : Int) := by omega
  have hok := ok_part (ok_part ho a z.size (Nat.le_refl _)) 8 15 (by rw [hsz]; omega)
  have hk7 := size_extract (z.extract a z.size) 8 15 (by rw [hsz]; omega)
  have HN := Lib.hid (fun w => iNum_any ((z.extract a z.size).extract 8 15) w hok (by rw [hk7]))
  rw [num_rest h] at HN
  have hlt := nAt_lt ho h
  obtain ⟨n, hnn⟩ : ∃ n, nAt z a = n := ⟨_, rfl⟩
  rw [hnn] at HN hlt hn
  obtain ⟨R, hR⟩ : ∃ R, z.extract a z.size = R := ⟨_, rfl⟩
  rw [hR] at HN hsz
  have i2 : ¬ (R.size : Int) < 15 := by omega
  have i3 : (R.size : Int) < 15 + (n : Int) := by omega
  have i4 : (15 : Int) ≤ (R.size : Int) := by omega
  have f0 := FrmAt.new w 87 ⟨#[]⟩ 0 0
  have s0 : (w.alloc (.cells #[.string ⟨#[]⟩, .int .i64 0, .int .i64 0] 87)).heap.size = w.heap.size + 1 := World.size_alloc _ _
  have f1 := f0.below ((Below.refl _ _).alloc (Nat.le_refl _) (.cells #[.int .i64 a] 110)) (by rw [s0]; omega)
  have c1 := box_new (w.alloc (.cells #[.string ⟨#[]⟩, .int .i64 0, .int .i64 0] 87)) (.int .i64 a) 110
  have b1 := ((Below.refl w.heap.size w).alloc (Nat.le_refl _) (.cells #[.string ⟨#[]⟩, .int .i64 0, .int .i64 0] 87)).alloc (by omega) (.cells #[.int .i64 a] 110)
  have s1 : ((w.alloc (.cells #[.string ⟨#[]⟩, .int .i64 0, .int .i64 0] 87)).alloc (.cells #[.int .i64 a] 110)).heap.size = w.heap.size + 2 := by rw [World.size_alloc, s0]
  rw [s0] at c1
  clear f0 s0 hok hk7 hnn
  go_enter Tryd.func84, Tryd.ntmps84
  go_wp2_with fail
  refine (HN.out _).mono ?_
  rintro e w1 ⟨rfl, rfl⟩
  go_wp2
  obtain ⟨⟨d0, d1, d2⟩, dl, g0, g1, g2⟩ := f1
  refine bodyPost_ret (v := .tuple #[.agg #[.string ⟨#[]⟩, .int .i64 0, .int .i64 0], .iface 108 (.pointer (some ⟨w.heap.size + 1, 0, none⟩))]) (by simp [results, Tryd.results84, go_sem, d0, d1, d2]) rfl ?_
  exact ⟨w.heap.size + 1, (fun h => by rw [hno] at h; cases h), (fun _ => ⟨rfl, c1, by omega⟩), b1⟩
set_option maxHeartbeats 800000 in
theorem read_main (z : ByteArray) (a : Nat) (w : World) (ho : okB z z.size = true) (hz : z.size ≤ 600) (h : a + 15 ≤ z.size) (hn : a + 15 + nAt z a ≤ z.size) :
    Calls Tryd.prog 84 #[.string z, .int .i64 a] w (ReadPost z a w) := by
  have hsz := size_extract z a z.size (Nat.le_refl _)
  have i0 : (0 : Int) ≤ (a : Int) := by omega
  have i1 : (a : Int) ≤ (z.size : Int) := by omega
  have hok := ok_part (ok_part ho a z.size (Nat.le_refl _)) 8 15 (by rw [hsz]; omega)
  have hk7 := size_extract (z.extract a z.size) 8 15 (by rw [hsz]; omega)
  have HN := Lib.hid (fun w => iNum_any ((z.extract a z.size).extract 8 15) w hok (by rw [hk7]))
  rw [num_rest h] at HN
  have hlt := nAt_lt ho h
  have hpp : (z.extract a z.size).extract 15 (15 + nAt z a) = parP z a := by
    rw [extract_twice z a z.size 15 (15 + nAt z a) (by omega) (by omega) (Nat.le_refl _), ← Nat.add_assoc]; rfl
  have hps : (parP z a).size = nAt z a := by unfold parP; rw [size_extract _ _ _ hn]; omega
  have hpo : okB (parP z a) (parP z a).size = true := ok_part ho _ _ hn
  have HF := Lib.hid (fun w => iFrame_any (parP z a) w (by rw [hps]; omega))
  have hpb : payB (parP z a) = decide (nAt z a ≤ 100) := by unfold payB; rw [bits_mk hpo (by rw [hps]; omega), hps, Bool.true_and]
  have hfs := frmS_size (parP z a)
  have hpre : nAt z a ≤ 100 → hitB z a = preB (z.extract a z.size) (frmS (parP z a)) := fun h1 => by
    rw [Bool.eq_iff_iff, hitB_iff, preB_iff, hfs, hps, hsz]
    constructor
    · rintro ⟨q1, q2, q3, q4⟩
      refine ⟨by omega, ?_⟩
      rw [q4, extract_twice z a z.size 0 (23 + nAt z a) (by omega) (by omega) (Nat.le_refl _), Nat.add_zero, Nat.add_assoc]
    · rintro ⟨q1, q2⟩
      refine ⟨by omega, h1, by omega, ?_⟩
      rw [extract_twice z a z.size 0 (23 + nAt z a) (by omega) (by omega) (Nat.le_refl _), Nat.add_zero] at q2
      rw [← q2, Nat.add_assoc]
  have HX := Lib.hid (fun w => clone_any (parP z a) w (by rw [hps]; omega))
  obtain ⟨n, hnn⟩ : ∃ n, nAt z a = n := ⟨_, rfl⟩
  have HNO := Lib.hid (fun (h : ¬ nAt z a ≤ 100) => hit_no (z := z) (a := a) (fun hh => h hh.2.1))
  rw [hnn] at HN hlt hn hpp hps hpb hpre HNO
  obtain ⟨P, hP⟩ : ∃ P, parP z a = P := ⟨_, rfl⟩
  rw [hP] at hpp hps HF hpb hfs hpre HX
  obtain ⟨R, hR⟩ : ∃ R, z.extract a z.size = R := ⟨_, rfl⟩
  rw [hR] at HN hsz hpp hpre
  have HP := Lib.hid hP
  have HNN := Lib.hid hnn
  have HPP := Lib.hid hpp
  have i2 : ¬ (R.size : Int) < 15 := by omega
  have i3 : ¬ (R.size : Int) < 15 + (n : Int) := by omega
  have i4 : (15 : Int) ≤ (R.size : Int) := by omega
  obtain ⟨E, hE⟩ : ∃ E, 15 + n = E := ⟨_, rfl⟩
  rw [hE] at HPP
  have i5 : 15 + (n : Int) = (E : Int) := by omega
  have i6 : (E : Int) ≤ (R.size : Int) := by omega
  have i7 : (15 : Int) ≤ (E : Int) := by omega
  have i8 : ¬ (R.size : Int) < (E : Int) := by omega
  have i9 : (E : Int) ≤ 200 := by omega
  have r6 : R.size ≤ 600 := by omega
  have f0 := FrmAt.new w 87 ⟨#[]⟩ 0 0
  have s0 : (w.alloc (.cells #[.string ⟨#[]⟩, .int .i64 0, .int .i64 0] 87)).heap.size = w.heap.size + 1 := World.size_alloc _ _
  have f1 := f0.below ((Below.refl _ _).alloc (Nat.le_refl _) (.cells #[.int .i64 a] 110)) (by rw [s0]; omega)
  have c1 := box_new (w.alloc (.cells #[.string ⟨#[]⟩, .int .i64 0, .int .i64 0] 87)) (.int .i64 a) 110
  have b1 := ((Below.refl w.heap.size w).alloc (Nat.le_refl _) (.cells #[.string ⟨#[]⟩, .int .i64 0, .int .i64 0] 87)).alloc (by omega) (.cells #[.int .i64 a] 110)
  have s1 : ((w.alloc (.cells #[.string ⟨#[]⟩, .int .i64 0, .int .i64 0] 87)).alloc (.cells #[.int .i64 a] 110)).heap.size = w.heap.size + 2 := by rw [World.size_alloc, s0]
  rw [s0] at c1
  have hp2 := HPP.out
  clear f0 s0 hok hk7 hnn hP hpp hpo HPP
  by_cases h100 : n ≤ 100
  · have hfa : frmAns P = (frmS P, true) := by unfold frmAns; rw [hpb, decide_eq_true h100]; rfl
    rw [hfa] at HF
    have hpr := hpre h100
    obtain ⟨F, hF⟩ : ∃ F, frmS P = F := ⟨_, rfl⟩
    rw [hF] at HF hpr hfs
    have HPX := Lib.hid (fun w => prefix_any R F w)
    have HH := Lib.hid hpr
    clear hfa hpre hpr hF hpb
    cases hpv : preB R F with
    | false =>
      rw [hpv] at HPX HH
      clear hpv hE h100 hlt hn h hfs hps hsz ho hz HX HNN HP HNO
      go_enter Tryd.func84, Tryd.ntmps84
      go_wp2_with fail
      refine (HN.out _).mono ?_
      rintro e w1 ⟨rfl, rfl⟩
      go_wp2_with fail
      refine (HF.out _).mono ?_
      rintro e w2 ⟨rfl, hb2⟩
      have b2 := below_then b1 (by omega) hb2
      have f2 := f1.below hb2 f1.2.1
      have c2 := box_kept c1 (by omega) hb2
      have s2 := hb2.size
      clear f1 c1 b1 hb2
      go_wp2_with fail
      refine (HPX.out _).mono ?_
      rintro e w3 ⟨rfl, rfl⟩
      obtain ⟨⟨d0, d1, d2⟩, dl, g0, g1, g2⟩ := f2
      have c2' := lost_kept c2 w.heap.size (by omega) (.string ⟨#[]⟩) (.int .i64 0) (.int .i64 0)
      have b2' := ((b2.setCell (p := ⟨w.heap.size, 0, none⟩) (Nat.le_refl _) (.string ⟨#[]⟩)).setCell (p := ⟨w.heap.size, 1, none⟩) (Nat.le_refl _) (.int .i64 0)).setCell (p := ⟨w.heap.size, 2, none⟩) (Nat.le_refl _) (.int .i64 0)
      go_wp2
      refine bodyPost_ret (v := .tuple #[.agg #[.string ⟨#[]⟩, .int .i64 0, .int .i64 0], .iface 108 (.pointer (some ⟨w.heap.size + 1, 0, none⟩))]) (by simp [results, Tryd.results84, go_sem, d0, d1, d2]) rfl ?_
      exact ⟨w.heap.size + 1, (fun h => by rw [HH.out] at h; cases h), (fun _ => ⟨rfl, c2', by simp; omega⟩), b2'⟩
    | true =>
      rw [hpv] at HPX HH
      have HFS := Lib.hid (show F.size = 23 + n by omega)
      have f6 : F.size ≤ 600 := by omega
      have a6 : (a : Int) ≤ 600 := by omega
      clear hpv hE h100 hlt hn h hfs hps hsz ho hz HNO
      go_enter Tryd.func84, Tryd.ntmps84
      go_wp2_with fail
      refine (HN.out _).mono ?_
      rintro e w1 ⟨rfl, rfl⟩
      go_wp2_with fail
      refine (HF.out _).mono ?_
      rintro e w2 ⟨rfl, hb2⟩
      have b2 := below_then b1 (by omega) hb2
      have f2 := f1.below hb2 f1.2.1
      clear f1 c1 b1 hb2
      go_wp2_with fail
      refine (HPX.out _).mono ?_
      rintro e w3 ⟨rfl, rfl⟩
      go_wp2_with fail
      refine (HX.out _).mono ?_
      rintro e w3 ⟨rfl, hb3⟩
      have b3 := below_then b2 (Nat.le_refl _) hb3
      obtain ⟨⟨d0, d1, d2⟩, dl, g0, g1, g2⟩ := f2.below hb3 f2.2.1
      clear f2 b2 hb3
      go_wp2
      refine bodyPost_ret (v := .tuple #[.agg #[.string P, .int .i64 a, .int .i64 ((a : Int) + (F.size : Int))], .nilIface]) (by simp [results, Tryd.results84, go_sem, d0, d1, d2]) rfl ?_
      refine ⟨0, (fun _ => ?_), (fun h => by rw [HH.out] at h; cases h), ?_⟩
      · rw [HP.out, HNN.out, show (a : Int) + (F.size : Int) = ((a + 23 + n : Nat) : Int) by have := HFS.out; omega]
      · first
        | exact ((b3.setCell (p := ⟨w.heap.size, 0, none⟩) (Nat.le_refl _) _).setCell (p := ⟨w.heap.size, 1, none⟩) (Nat.le_refl _) _).setCell (p := ⟨w.heap.size, 2, none⟩) (Nat.le_refl _) _
        | exact b3
  · have hfa : frmAns P = noS := by unfold frmAns; rw [hpb, decide_eq_false h100]; rfl
    rw [hfa] at HF
    have HH := Lib.hid (HNO.out h100)
    clear hfa hpre hpb h100 hE hlt hn h hfs hps hsz ho hz HX HNO HNN HP
    go_enter Tryd.func84, Tryd.ntmps84
    go_wp2_with fail
    refine (HN.out _).mono ?_
    rintro e w1 ⟨rfl, rfl⟩
    go_wp2_with fail
    refine (HF.out _).mono ?_
    rintro e w2 ⟨rfl, hb2⟩
    have b2 := below_then b1 (by omega) hb2
    have f2 := f1.below hb2 f1.2.1
    have c2 := box_kept c1 (by omega) hb2
    have s2 := hb2.size
    clear f1 c1 b1 hb2
    obtain ⟨⟨d0, d1, d2⟩, dl, g0, g1, g2⟩ := f2
    have c2' := lost_kept c2 w.heap.size (by omega) (.string ⟨#[]⟩) (.int .i64 0) (.int .i64 0)
    have b2' := ((b2.setCell (p := ⟨w.heap.size, 0, none⟩) (Nat.le_refl _) (.string ⟨#[]⟩)).setCell (p := ⟨w.heap.size, 1, none⟩) (Nat.le_refl _) (.int .i64 0)).setCell (p := ⟨w.heap.size, 2, none⟩) (Nat.le_refl _) (.int .i64 0)
    go_wp2
    refine bodyPost_ret (v := .tuple #[.agg #[.string ⟨#[]⟩, .int .i64 0, .int .i64 0], .iface 108 (.pointer (some ⟨w.heap.size + 1, 0, none⟩))]) (by simp [results, Tryd.results84, go_sem, d0, d1, d2]) rfl ?_
    exact ⟨w.heap.size + 1, (fun h => by rw [HH.out] at h; cases h), (fun _ => ⟨rfl, c2', by simp; omega⟩), b2'⟩
theorem read_any (z : ByteArray) (a : Nat) (w : World) (hb : bitsB z = true) (ha : a ≤ z.size) :
    Calls Tryd.prog 84 #[.string z, .int .i64 a] w (ReadPost z a w) := by
  obtain ⟨ho, hz⟩ := bits_of hb
  by_cases h : a + 15 ≤ z.size
  · by_cases hn : a + 15 + nAt z a ≤ z.size
    · exact read_main z a w ho hz h hn
    · exact read_lost2 z a w ho hz h hn
  · exact read_lost1 z a w ha hz h
end Go.Proofs.YtabokoodpobnnaaDoor
namespace Go.Proofs.YtabokoodpobnnaaDoor
open Go.RowKit
set_option linter.unusedVariables false
set_option maxRecDepth 100000
def noP : ByteArray × Int × Bool := (⟨#[]⟩, 0, false)
def parAns (z : ByteArray) (k : Int) : ByteArray × Int × Bool :=
  if bitsB z = true ∧ 0 ≤ k ∧ k ≤ z.size ∧ hitB z k.toNat = true then (parP z k.toNat, ((k.toNat + 23 + nAt z k.toNat : Nat) : Int), true) else noP
theorem par_no {z : ByteArray} {k : Int} (h : ¬ (bitsB z = true ∧ 0 ≤ k ∧ k ≤ z.size ∧ hitB z k.toNat = true)) : parAns z k = noP := by unfold parAns; rw [if_neg h]
theorem par_yes {z : ByteArray} {a : Nat} (hb : bitsB z = true) (h : hitB z a = true) : parAns z a = (parP z a, ((a + 23 + nAt z a : Nat) : Int), true) := by
  have := ((hitB_iff z a).1 h).1
  unfold parAns
  rw [Int.toNat_natCast, if_pos ⟨hb, by omega, by omega, h⟩]
theorem ret_P {A : ByteArray × Int × Bool} {x : ByteArray} {i : Int} {c : Bool} (h : A = (x, i, c)) : Ending.returned (.tuple #[.string x, .int .i64 i, .bool c]) = .returned (.tuple #[.string A.1, .int .i64 A.2.1, .bool A.2.2]) := by rw [h]
set_option maxHeartbeats 800000 in
theorem iParse_any (z : ByteArray) (k : Int) (w : World) (hs : z.size ≤ 1048576) :
    Calls Tryd.prog 45 #[.string z, .int .i64 k] w fun e w' => e = .returned (.tuple #[.string (parAns z k).1, .int .i64 (parAns z k).2.1, .bool (parAns z k).2.2]) ∧ Below w.heap.size w w' := by
  have HV := Lib.hid (fun w => bitsValid_any z w (by omega))
  cases hb : bitsB z with
  | false =>
    have HX := Lib.hid (par_no (z := z) (k := k) (by rw [hb]; simp))
    rw [hb] at HV
    clear hb
    go_enter Tryd.func45, Tryd.ntmps45
    go_wp2_with fail
    refine (HV.out _).mono ?_
    rintro e w1 ⟨rfl, rfl⟩
    go_wp2
    refine bodyPost_ret (v := .tuple #[.string ⟨#[]⟩, .int .i64 0, .bool false]) (by simp [results, Tryd.results45, go_sem]) rfl ?_
    exact ⟨ret_P HX.out, Below.refl _ _⟩
  | true =>
    rw [hb] at HV
    by_cases h0 : k < 0
    · have HX := Lib.hid (par_no (z := z) (k := k) (fun h => by omega))
      clear hb
      go_enter Tryd.func45, Tryd.ntmps45
      go_wp2_with fail
      refine (HV.out _).mono ?_
      rintro e w1 ⟨rfl, rfl⟩
      go_wp2
      refine bodyPost_ret (v := .tuple #[.string ⟨#[]⟩, .int .i64 0, .bool false]) (by simp [results, Tryd.results45, go_sem]) rfl ?_
      exact ⟨ret_P HX.out, Below.refl _ _⟩
    · obtain ⟨a, rfl⟩ : ∃ a : Nat, k = a := ⟨k.toNat, by omega⟩
      by_cases h1 : a ≤ z.size
      · have i1 : ¬ (z.size : Int) < (a : Int) := by omega
        have HR := Lib.hid (fun w => read_any z a w hb h1)
        cases hh : hitB z a with
        | false =>
          have HX := Lib.hid (par_no (z := z) (k := a) (fun h => by rw [Int.toNat_natCast, hh] at h; exact absurd h.2.2.2 (by simp)))
          have HH := Lib.hid hh
          clear hb hh
          go_enter Tryd.func45, Tryd.ntmps45
          go_wp2_with fail
          refine (HV.out _).mono ?_
          rintro e w1 ⟨rfl, rfl⟩
          go_wp2_with fail
          refine (HR.out _).mono ?_
          rintro e w1 ⟨b, _, hE, b1⟩
          obtain ⟨rfl, _, _⟩ := hE HH.out
          clear hE
          have b2 := b1.alloc b1.size (.cells #[.string ⟨#[]⟩, .int .i64 0, .int .i64 0] 87)
          obtain ⟨⟨d0, d1, d2⟩, dl, g0, g1, g2⟩ := FrmAt.new w1 87 ⟨#[]⟩ 0 0
          go_wp2_with fail
          obtain ⟨W, hW⟩ : ∃ W, w1.alloc (.cells #[.string ⟨#[]⟩, .int .i64 0, .int .i64 0] 87) = W := ⟨_, rfl⟩
          rw [hW] at b2 d0 d1 d2 ⊢
          clear hW
          go_quiet (fail)
          have b3 := below_drewN b2 nq
          go_wp2
          refine bodyPost_ret (v := .tuple #[.string ⟨#[]⟩, .int .i64 0, .bool false]) (by simp [results, Tryd.results45, go_sem]) rfl ?_
          exact ⟨ret_P HX.out, b3⟩
        | true =>
          have HX := Lib.hid (par_yes hb hh)
          have HH := Lib.hid hh
          obtain ⟨P, hP⟩ : ∃ P, parP z a = P := ⟨_, rfl⟩
          obtain ⟨E, hE2⟩ : ∃ P, a + 23 + nAt z a = P := ⟨_, rfl⟩
          rw [hP, hE2] at HX
          have HP := Lib.hid hP
          have HE := Lib.hid hE2
          clear hb hh hP hE2
          go_enter Tryd.func45, Tryd.ntmps45
          go_wp2_with fail
          refine (HV.out _).mono ?_
          rintro e w1 ⟨rfl, rfl⟩
          go_wp2_with fail
          refine (HR.out _).mono ?_
          rintro e w1 ⟨b, hE, _, b1⟩
          have hE' := hE HH.out
          rw [HP.out, HE.out] at hE'
          subst hE'
          clear hE
          have b2 := b1.alloc b1.size (.cells #[.string P, .int .i64 a, .int .i64 E] 87)
          obtain ⟨⟨d0, d1, d2⟩, dl, g0, g1, g2⟩ := FrmAt.new w1 87 P a E
          go_wp2_with fail
          obtain ⟨W, hW⟩ : ∃ W, w1.alloc (.cells #[.string P, .int .i64 a, .int .i64 E] 87) = W := ⟨_, rfl⟩
          rw [hW] at b2 d0 d1 d2 ⊢
          clear hW
          go_quiet (fail)
          have b3 := below_drewN b2 nq
          go_wp2
          refine bodyPost_ret (v := .tuple #[.string P, .int .i64 E, .bool true]) (by simp [results, Tryd.results45, go_sem]) rfl ?_
          exact ⟨ret_P HX.out, b3⟩
      · have HX := Lib.hid (par_no (z := z) (k := a) (fun h => by omega))
        have i1 : (z.size : Int) < (a : Int) := by omega
        clear hb
        go_enter Tryd.func45, Tryd.ntmps45
        go_wp2_with fail
        refine (HV.out _).mono ?_
        rintro e w1 ⟨rfl, rfl⟩
        go_wp2
        refine bodyPost_ret (v := .tuple #[.string ⟨#[]⟩, .int .i64 0, .bool false]) (by simp [results, Tryd.results45, go_sem]) rfl ?_
        exact ⟨ret_P HX.out, Below.refl _ _⟩
theorem num_part {z : ByteArray} {a : Nat} (h : a + 15 ≤ z.size) : numF (zb (z.extract (a + 8) (a + 15))) 7 = nAt z a := by
  refine numF_congr 7 fun i hi => ?_
  rw [zb_extract _ _ _ _ (by omega) (by omega)]
set_option maxHeartbeats 1600000 in
theorem sParse_far (z : ByteArray) (a : Nat) (w : World) (hb : bitsB z = true) (ha : a + 23 ≤ z.size) :
    Calls Tryd.prog 39 #[.string z, .int .i64 a] w fun e w' => e = .returned (.tuple #[.string (parAns z a).1, .int .i64 (parAns z a).2.1, .bool (parAns z a).2.2]) ∧ Below w.heap.size w w' := by
  obtain ⟨ho, hz⟩ := bits_of hb
  have HV := Lib.hid (fun w => l1Bits_any z w (by omega))
  rw [hb] at HV
  have hlt := nAt_lt ho (show a + 15 ≤ z.size by omega)
  have hk7 := size_extract z (a + 8) (a + 15) (by omega)
  have HN := Lib.hid (fun w => sNum_any (z.extract (a + 8) (a + 15)) w (ok_part ho _ _ (by omega)) (by rw [hk7]; omega))
  rw [num_part (by omega)] at HN
  have hyes := fun h => par_yes (z := z) (a := a) hb h
  have hno := fun (h : ¬ (a + 23 ≤ z.size ∧ nAt z a ≤ 100 ∧ a + 23 + nAt z a ≤ z.size ∧ frmS (parP z a) = z.extract a (a + 23 + nAt z a))) => par_no (z := z) (k := a) (fun hh => by rw [Int.toNat_natCast, hit_no h] at hh; exact absurd hh.2.2.2 (by simp))
  have hpo := fun h => ok_part ho (a + 15) (a + 15 + nAt z a) h
  have hpd : parP z a = z.extract (a + 15) (a + 15 + nAt z a) := rfl
  have hiff := (hitB_iff z a).2
  obtain ⟨n, hn⟩ : ∃ n, nAt z a = n := ⟨_, rfl⟩
  rw [hn] at hlt HN hyes hno hpo hpd hiff
  obtain ⟨A8, h8⟩ : ∃ n, a + 8 = n := ⟨_, rfl⟩
  obtain ⟨A15, h15⟩ : ∃ n, a + 15 = n := ⟨_, rfl⟩
  rw [h8, h15] at HN
  rw [h15] at hpo hpd
  obtain ⟨AE, hAE⟩ : ∃ m, A15 + n = m := ⟨_, rfl⟩
  rw [hAE] at hpo hpd
  obtain ⟨A23, h23⟩ : ∃ m, a + 23 = m := ⟨_, rfl⟩
  obtain ⟨AF, hAF⟩ : ∃ m, A23 + n = m := ⟨_, rfl⟩
  rw [h23, hAF] at hyes hno hiff
  have v8 : (a : Int) + 8 = (A8 : Int) := by omega
  have v15 : (a : Int) + 15 = (A15 : Int) := by omega
  have vE : (A15 : Int) + (n : Int) = (AE : Int) := by omega
  have v23 : (a : Int) + 23 = (A23 : Int) := by omega
  have vF : (A23 : Int) + (n : Int) = (AF : Int) := by omega
  have u23 : IntKind.i64.wrap ((a : Int) + 23) = (A23 : Int) := by rw [v23]; exact IntWalk.i64_in _ (by omega)
  have uF : IntKind.i64.wrap ((A23 : Int) + (n : Int)) = (AF : Int) := by rw [vF]; exact IntWalk.i64_in _ (by omega)
  have y23 : IntKind.i64.wrap (A23 : Int) = (A23 : Int) := IntWalk.i64_in _ (by omega)
  have yF : IntKind.i64.wrap (AF : Int) = (AF : Int) := IntWalk.i64_in _ (by omega)
  have i0 : (0 : Int) ≤ (a : Int) := by omega
  have j0 : ¬ (a : Int) < 0 := by omega
  have j1 : ¬ (z.size : Int) < (a : Int) := by omega
  have j2 : ¬ ((z.size : Int) - (a : Int) < 23) := by omega
  have i1 : (0 : Int) ≤ (A8 : Int) := by omega
  have i2 : (A8 : Int) ≤ (A15 : Int) := by omega
  have i3 : (A15 : Int) ≤ (z.size : Int) := by omega
  have z6 : (z.size : Int) ≤ 600 := by omega
  by_cases h100 : n ≤ 100
  · have j3 : ¬ (100 : Int) < (n : Int) := by omega
    by_cases hfit : AF ≤ z.size
    · have j4 : ¬ ((z.size : Int) - (a : Int) < 23 + (n : Int)) := by omega
      have hpo2 := hpo (by omega)
      have hps := size_extract z A15 AE (by omega)
      have HFR := Lib.hid (fun w => sFrm_any (z.extract A15 AE) w hpo2 (by rw [hps]; omega))
      rw [hpd] at hyes hno hiff
      obtain ⟨P, hP⟩ : ∃ P, z.extract A15 AE = P := ⟨_, rfl⟩
      rw [hP] at HFR hyes hno hiff
      obtain ⟨F, hF⟩ : ∃ F, frmS P = F := ⟨_, rfl⟩
      rw [hF] at HFR hno hiff
      obtain ⟨G, hG⟩ : ∃ G, z.extract a AF = G := ⟨_, rfl⟩
      rw [hG] at hno hiff
      have i4 : (0 : Int) ≤ (A15 : Int) := by omega
      have i5 : (A15 : Int) ≤ (AE : Int) := by omega
      have i6 : (AE : Int) ≤ (z.size : Int) := by omega
      have i7 : (a : Int) ≤ (AF : Int) := by omega
      have i8 : (AF : Int) ≤ (z.size : Int) := by omega
      have n6 : (n : Int) ≤ 200 := by omega
      have b0 := Below.refl w.heap.size w
      by_cases hFG : F = G
      · subst hFG
        have HX := Lib.hid (hyes (hiff ⟨by omega, h100, hfit, rfl⟩))
        clear hyes hno hiff hpo hpd hpo2 hps hF h8 h15 hAE h23 hAF hk7 ho hb hn hfit h100 hlt ha hz
        go_enter Tryd.func39, Tryd.ntmps39
        go_wp2_with fail
        refine (HV.out _).mono ?_
        rintro e w1 ⟨rfl, rfl⟩
        go_wp2_with fail
        refine (HN.out _).mono ?_
        rintro e w1 ⟨rfl, rfl⟩
        go_wp2_with fail
        go_region_held3 (fun wx => Below w.heap.size w wx) (first | exact c1 | exact b0.drew) (first | (go_at_call 63; refine (HFR.out _).mono ?_; rintro e w5 ⟨rfl, hB⟩; have c1 := below_then b0.drew (Nat.le_refl _) hB))
        all_goals
          go_wp2
          refine bodyPost_ret (v := .tuple #[.string P, .int .i64 AF, .bool true]) (by simp [results, Tryd.results39, go_sem]) rfl ?_
          exact ⟨ret_P HX.out, c1⟩
      · have HX := Lib.hid (hno (fun hh => hFG hh.2.2.2))
        have e1 := str_ne hFG
        have e2 := str_ne' hFG
        clear hyes hno hiff hpo hpd hpo2 hps hF h8 h15 hAE h23 hAF hk7 ho hb hn hfit h100 hlt ha hz hFG
        go_enter Tryd.func39, Tryd.ntmps39
        go_wp2_with fail
        refine (HV.out _).mono ?_
        rintro e w1 ⟨rfl, rfl⟩
        go_wp2_with fail
        refine (HN.out _).mono ?_
        rintro e w1 ⟨rfl, rfl⟩
        go_wp2_with fail
        go_region_held3 (fun wx => Below w.heap.size w wx) (first | exact c1 | exact b0.drew) (first | (go_at_call 63; refine (HFR.out _).mono ?_; rintro e w5 ⟨rfl, hB⟩; have c1 := below_then b0.drew (Nat.le_refl _) hB))
        all_goals
          go_wp2
          refine bodyPost_ret (v := .tuple #[.string ⟨#[]⟩, .int .i64 0, .bool false]) (by simp [results, Tryd.results39, go_sem]) rfl ?_
          exact ⟨ret_P HX.out, c1⟩
    · have j4 : (z.size : Int) - (a : Int) < 23 + (n : Int) := by omega
      have HX := Lib.hid (hno (fun hh => hfit hh.2.2.1))
      clear hyes hno hiff hpo hpd h8 h15 hAE h23 hAF hk7 ho hb hn hfit h100 hlt ha hz
      go_enter Tryd.func39, Tryd.ntmps39
      go_wp2_with fail
      refine (HV.out _).mono ?_
      rintro e w1 ⟨rfl, rfl⟩
      go_wp2_with fail
      refine (HN.out _).mono ?_
      rintro e w1 ⟨rfl, rfl⟩
      go_wp2
      refine bodyPost_ret (v := .tuple #[.string ⟨#[]⟩, .int .i64 0, .bool false]) (by simp [results, Tryd.results39, go_sem]) rfl ?_
      exact ⟨ret_P HX.out, Below.refl _ _⟩
  · have j3 : (100 : Int) < (n : Int) := by omega
    have HX := Lib.hid (hno (fun hh => h100 hh.2.1))
    clear hyes hno hiff hpo hpd h8 h15 hAE h23 hAF hk7 ho hb hn h100 hlt ha hz
    go_enter Tryd.func39, Tryd.ntmps39
    go_wp2_with fail
    refine (HV.out _).mono ?_
    rintro e w1 ⟨rfl, rfl⟩
    go_wp2_with fail
    refine (HN.out _).mono ?_
    rintro e w1 ⟨rfl, rfl⟩
    go_wp2
    refine bodyPost_ret (v := .tuple #[.string ⟨#[]⟩, .int .i64 0, .bool false]) (by simp [results, Tryd.results39, go_sem]) rfl ?_
    exact ⟨ret_P HX.out, Below.refl _ _⟩
theorem sParse_any (z : ByteArray) (k : Int) (w : World) (hs : z.size ≤ 1048576) :
    Calls Tryd.prog 39 #[.string z, .int .i64 k] w fun e w' => e = .returned (.tuple #[.string (parAns z k).1, .int .i64 (parAns z k).2.1, .bool (parAns z k).2.2]) ∧ Below w.heap.size w w' := by
  have HV := Lib.hid (fun w => l1Bits_any z w (by omega))
  cases hb : bitsB z with
  | false =>
    have HX := Lib.hid (par_no (z := z) (k := k) (by rw [hb]; simp))
    rw [hb] at HV
    clear hb
    go_enter Tryd.func39, Tryd.ntmps39
    go_wp2_with fail
    refine (HV.out _).mono ?_
    rintro e w1 ⟨rfl, rfl⟩
    go_wp2
    refine bodyPost_ret (v := .tuple #[.string ⟨#[]⟩, .int .i64 0, .bool false]) (by simp [results, Tryd.results39, go_sem]) rfl ?_
    exact ⟨ret_P HX.out, Below.refl _ _⟩
  | true =>
    by_cases hf : 0 ≤ k ∧ k + 23 ≤ z.size
    · obtain ⟨a, rfl⟩ : ∃ a : Nat, k = a := ⟨k.toNat, by omega⟩
      exact sParse_far z a w hb (by omega)
    · rw [hb] at HV
      have HX := Lib.hid (par_no (z := z) (k := k) (fun h => hf ⟨h.2.1, by have := ((hitB_iff z k.toNat).1 h.2.2.2).1; omega⟩))
      clear hb
      by_cases h0 : k < 0
      · clear hf
        go_enter Tryd.func39, Tryd.ntmps39
        go_wp2_with fail
        refine (HV.out _).mono ?_
        rintro e w1 ⟨rfl, rfl⟩
        go_wp2
        refine bodyPost_ret (v := .tuple #[.string ⟨#[]⟩, .int .i64 0, .bool false]) (by simp [results, Tryd.results39, go_sem]) rfl ?_
        exact ⟨ret_P HX.out, Below.refl _ _⟩
      · by_cases h1 : (z.size : Int) < k
        · clear hf
          go_enter Tryd.func39, Tryd.ntmps39
          go_wp2_with fail
          refine (HV.out _).mono ?_
          rintro e w1 ⟨rfl, rfl⟩
          go_wp2
          refine bodyPost_ret (v := .tuple #[.string ⟨#[]⟩, .int .i64 0, .bool false]) (by simp [results, Tryd.results39, go_sem]) rfl ?_
          exact ⟨ret_P HX.out, Below.refl _ _⟩
        · have j2 : (z.size : Int) - k < 23 := by omega
          clear hf
          go_enter Tryd.func39, Tryd.ntmps39
          go_wp2_with fail
          refine (HV.out _).mono ?_
          rintro e w1 ⟨rfl, rfl⟩
          go_wp2
          refine bodyPost_ret (v := .tuple #[.string ⟨#[]⟩, .int .i64 0, .bool false]) (by simp [results, Tryd.results39, go_sem]) rfl ?_
          exact ⟨ret_P HX.out, Below.refl _ _⟩
end Go.Proofs.YtabokoodpobnnaaDoor
